/- Servers are played: have they run for their whole budgets. -/
import Derived.Test.YtbdiekolkniajaaShaA
import Derived.BigQuiet
import Derived.StillTailTactics
import Derived.RegionTactic
namespace Go.Proofs.Ytbdiekolkniajaa.Sh
open Go.RowKit Tk De Dl Go.Proofs.Ytbdiekolkniajaa.Lo Go.Proofs.Ytbdiekolkniajaa.Ed Go.Proofs.Ytbdiekolkniajaa.Su
set_option linter.unusedVariables false

/-- they share 1 at most; more than 1, by a common multiple -/
def Fits (n : Nat) (P B : Nat → Nat) : Prop := ∃ M, 0 < M ∧ (∀ i, i < n → P i ∣ M) ∧ sm (fun i => B i * (M / P i)) n ≤ M
def Over (n : Nat) (P B : Nat → Nat) (M : Nat) : Prop := (∀ i, i < n → P i ∣ M) ∧ M < sm (fun i => B i * (M / P i)) n
def KeptP (n : Nat) (P B b : Nat → Nat) (E : Nat) (w : World) (e : Ending) (w' : World) : Prop := ∃ r : Bool, e = .returned (.bool r) ∧ Below w.heap.size w w' ∧ (Fits n P B → r = true) ∧ ((∀ i, i < n → b i = 0) → ∀ M, M < E → Over n P B M → r = false)
theorem cell_other (w : World) {g o g' o' : Nat} (v : Value) (h : g ≠ g') : (w.setCell ⟨g', o', none⟩ v).cell? ⟨g, o, none⟩ = w.cell? ⟨g, o, none⟩ := by
  unfold World.cell?
  rw [Below.heap_setCell _ _ _ _ h]
theorem wr3 {x : Int} {c : Nat} (h : x = (c : Int)) (hc : c ≤ 1099511627776) : wrap64 x = (c : Int) ∧ IntKind.i64.wrap x = (c : Int) := by
  subst h
  exact ⟨(wr2 (by omega) (by omega)).2, (wr2 (by omega) (by omega)).1⟩
theorem fits_late {n : Nat} {P B b : Nat → Nat} {t i : Nat} {l e : Nat → Nat} (hP : ∀ i, i < n → 1 ≤ P i ∧ P i ≤ 64 ∧ 1 ≤ B i ∧ B i ≤ P i) (h : KM n P B b t i l e) (hi : i < n) (hb : b i ≤ t) (hm : (t - b i) % P i = 0) (hl : 0 < l i) (hf : Fits n P B) : False := by
  obtain ⟨M, hM, hd, hs⟩ := hf
  exact km_late hP hM hd hs h hi hb hm hl
end Go.Proofs.Ytbdiekolkniajaa.Sh
