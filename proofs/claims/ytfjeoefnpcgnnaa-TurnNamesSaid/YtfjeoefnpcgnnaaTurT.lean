/- Rows of the program's purses. -/
import Derived.Test.YtfjeoefnpcgnnaaTurD
namespace Go.Proofs.Ytfjeoefnpcgnnaa.Pw
open Go.RowKit Go.Sort Pu
set_option linter.unusedVariables false
set_option maxRecDepth 100000

theorem pk_ne {w : World} {b : Nat} {s : St} {g : Nat} {cur : Array Value} {T' : TypeId} {fr : Nat × Nat} (h : PP w b s) (hg : w.heap[g]? = some (.cells cur T' fr)) (ht : T' = 34 ∨ T' = 3) : b ≠ g := by
  obtain ⟨x, r, _⟩ := h
  rintro rfl; have := r.symm.trans hg; simp at this; rcases ht with e | e <;> rw [e] at this <;> exact absurd this.2.1 (by decide)
theorem rt_ne {w : World} {b : Nat} {p q : Int} {g : Nat} {cur : Array Value} {T' : TypeId} {fr : Nat × Nat} (h : RT w b p q) (hg : w.heap[g]? = some (.cells cur T' fr)) (ht : T' = 34 ∨ T' = 3) : b ≠ g := by
  rintro rfl; have := h.symm.trans hg; simp at this; rcases ht with e | e <;> rw [e] at this <;> exact absurd this.2.1 (by decide)
theorem pk_prog : PK PP 34 where
  lt h := h.lt
  below h q := h.below q
  other h k hne o := by
    obtain ⟨x, r, px⟩ := h
    obtain ⟨y, rc, _⟩ := k
    exact ⟨x, (o.block _ r.lt hne).trans r, px.only rc o⟩
  ne h hg ht := pk_ne h hg ht
  off h hg ht o := by
    have hn := pk_ne h hg ht
    obtain ⟨x, r, px⟩ := h
    exact ⟨x, (o.block _ r.lt hn).trans r, px.keep fun nb p q t => (o.block nb t.lt (rt_ne t hg ht)).trans t⟩
/-- a row that is written there -/
theorem dw_lit {PD : World → Nat → St → Prop} {T : TypeId} (K : PK PD T) (w : World) (cells : Array Value) (n : Nat) (c : Nat → Nat) (s : Nat → Option St) (hn : n ≤ 1000) (hc : ∀ i, i < n → cells[i]? = some (.pointer ((s i).map fun _ => (⟨c i, 0, none⟩ : Addr)))) (hp : ∀ i x, i < n → s i = some x → PD w (c i) x) :
    DW PD (w.alloc (.cells cells T)) (.slice (some ⟨w.heap.size, 0, none⟩) n n) n s := by
  refine ⟨_, _, rfl, Nat.le_refl _, by unfold maxLen; omega, fun _ => ⟨_, 0, rfl, fun i hi => ?_⟩⟩
  have h1 : (w.alloc (.cells cells T)).cell? ⟨w.heap.size, 0 + i, none⟩ = some (.pointer ((s i).map fun _ => (⟨c i, 0, none⟩ : Addr))) := by
    rw [cell_of_row _ _ (0 + i) _ _ _ (heap_alloc_new w _), Nat.zero_add]; exact hc i hi
  cases hs : s i with
  | none => rw [hs] at h1; exact h1
  | some x => rw [hs] at h1; exact ⟨c i, h1, K.below (hp i x hi hs) (below_al w _)⟩
theorem DW.nil (PD : World → Nat → St → Prop) (w : World) (s : Nat → Option St) : DW PD w (.slice none 0 0) 0 s := ⟨none, 0, rfl, Nat.le_refl _, Nat.zero_le _, fun h => by cases h⟩
/-- a zero purse -/
def zp : St := ⟨0, 0, 0, 0, 0, 0, 0, false, false⟩
theorem zero_pp {w : World} {b : Nat} (h : RP w b 0 0 none 0 0 0 false) : PP w b zp := ⟨none, h, ⟨fun e => absurd e (by decide), fun _ => rfl, fun e => absurd e (by decide)⟩⟩
end Go.Proofs.Ytfjeoefnpcgnnaa.Pw
