/- A list of calls that came in (each a struct of two numbers), read as cells. -/
import Derived.Test.YtafnpccpibekoaaRows
import Derived.Deep.Slices
import Derived.Deep.Fields
import Derived.ChangeSame
import Derived.OpenShut
import Derived.Below
import Derived.WalkKit
namespace Go.Proofs.Ytafnpccpibekoaa
open Go.RowKit Go.ChangeShapes Go.WideShapes Go.Deep
set_option linter.unusedVariables false

section
variable {H : Type} {enc : TypeId × Value → H} {P : Program} {w : World} {base : Nat} {spare : Nat → Bool} {held : Bool}
/-- one call's cells -/
theorem two_cells {fs : Array Field} {e : TypeId} (he : P.underlying e = some (.struct fs)) (hs : fs.size = 2) (hone : oneCellFields P fs = true) (hty : ∀ (j : Nat) (f : Field), fs[j]? = some f → P.underlying f.type = some (.int .i64))
    {n : Nat} {cs : List Value} {x : DataW H × List MemPlace} (h : DataW.trod enc P w base spare held n e cs = some x) : ∀ j, j < 2 → ∃ z : Int, cs[j]? = some (.int .i64 z) := by
  intro j hj
  obtain ⟨xs, k, hn, _, hlen, hxs, hf⟩ := DataW.trod_struct he h
  have hfj : fs[j]? = some (fs[j]'(by omega)) := Array.getElem?_eq_getElem (by omega)
  obtain ⟨ho, hk⟩ := hone_of hone j _ hfj
  have h1 := hf j _ hfj
  rw [ho, hk, List.getElem?_eq_getElem (by omega)] at h1
  obtain ⟨z, hz, _, _⟩ := DataW.trod_int (hty j _ hfj) h1
  refine ⟨z, ?_⟩
  have h2 : ((cs.drop j).take 1)[0]? = some (.int .i64 z) := by rw [hz]; rfl
  rw [List.getElem?_take, if_pos (by omega), List.getElem?_drop] at h2
  simpa using h2
theorem open_calls {t e : TypeId} {fs : Array Field} {fuel : Nat} {cs : List Value} {x : DataW H × List MemPlace} (ht : P.underlying t = some (.slice e)) (he : P.underlying e = some (.struct fs)) (hs : fs.size = 2)
    (hone : oneCellFields P fs = true) (hC : P.cellsOf e = 2) (hty : ∀ (j : Nat) (f : Field), fs[j]? = some f → P.underlying f.type = some (.int .i64)) (h : DataW.trod enc P w base spare held fuel t cs = some x) :
    cs = [.slice none 0 0] ∨ ∃ (a : Addr) (len cap : Nat) (z : Nat → Nat → Int), cs = [.slice (some a) len cap] ∧ len ≤ cap ∧ cap ≤ maxLen ∧
      (0 < len → ∃ b off, a = ⟨b, off, none⟩ ∧ ∀ i j, i < len → j < 2 → w.cell? ⟨b, off + i * 2 + j, none⟩ = some (.int .i64 (z i j))) := by
  rcases open_slice ht h with ⟨h0, _⟩ | ⟨a, len, cap, m, n, D, Pl, hcs, hb, hl, hm, hmm, _, hi⟩
  · exact Or.inl h0
  · right
    have hlm : len ≤ m := by rw [hmm]; split <;> omega
    have hz : ∀ i j, ∃ z : Int, i < len → j < 2 → w.cell? (a.add (i * 2 + j)) = some (.int .i64 z) := by
      intro i j
      by_cases hij : i < len ∧ j < 2
      · obtain ⟨cs', hc, ht'⟩ := hi i (by omega)
        rw [hC] at hc
        obtain ⟨z, hz⟩ := two_cells he hs hone hty ht' j hij.2
        obtain ⟨_, _, hat⟩ := World.cells?_some hc
        refine ⟨z, fun _ _ => ?_⟩
        have := hat j hij.2
        rw [add_add] at this
        rw [this, hz]
      · exact ⟨0, fun h1 h2 => (hij ⟨h1, h2⟩).elim⟩
    obtain ⟨z, hzz⟩ : ∃ z : Nat → Nat → Int, ∀ i j, i < len → j < 2 → w.cell? (a.add (i * 2 + j)) = some (.int .i64 (z i j)) := ⟨fun i j => Classical.choose (hz i j), fun i j => Classical.choose_spec (hz i j)⟩
    refine ⟨a, len, cap, z, hcs, hl, hm, fun h0 => ?_⟩
    have hc0 := hzz 0 0 h0 (by omega)
    obtain ⟨b, off, s⟩ := a
    have hsp : s = none := by simpa [Addr.add] using World.cell?_spot hc0
    subst hsp
    refine ⟨b, off, rfl, fun i j h1 h2 => ?_⟩
    have := hzz i j h1 h2
    rw [Addr.add_lit, ← Nat.add_assoc] at this
    exact this
end

section
variable {H : Type} {enc : TypeId × Value → H} {P : Program} {w : World} {base : Nat} {spare : Nat → Bool} {held : Bool}
/-- an array of two numbers that came in -/
theorem open_arr2 {t e : TypeId} (ht : P.underlying t = some (.array 2 e)) (hC : P.cellsOf t = 2) (hce : P.cellsOf e = 1) (he : P.underlying e = some (.int .i64))
    {n : Nat} {cs : List Value} {x : DataW H × List MemPlace} (h : DataW.trod enc P w base spare held n t cs = some x) : ∃ a b : Int, cs = [.int .i64 a, .int .i64 b] := by
  obtain ⟨xs, k, hn, _, hlen, hxs, hf⟩ := DataW.trod_array ht h
  rw [hC] at hlen
  match cs, hlen with
  | [c, d], _ =>
    have h0 := hf 0 (by decide)
    have h1 := hf 1 (by decide)
    rw [hce, List.getElem?_eq_getElem (by omega)] at h0 h1
    obtain ⟨a, ha, _, _⟩ := DataW.trod_int he h0
    obtain ⟨b, hb, _, _⟩ := DataW.trod_int he h1
    simp at ha hb
    exact ⟨a, b, by rw [ha, hb]⟩
end
/-- numbers that can be read -/
def IS (w : World) (v : Value) (xs : List Int) : Prop :=
  ∃ a cap, v = .slice a xs.length cap ∧ xs.length ≤ cap ∧ cap ≤ maxLen ∧ (a = none → cap = 0) ∧ (0 < xs.length → ∃ b off, a = some ⟨b, off, none⟩ ∧ ∀ i, i < xs.length → w.cell? ⟨b, off + i, none⟩ = some (.int .i64 (xs.getD i 0)))
theorem IS.nil (w : World) : IS w (.slice none 0 0) [] := ⟨none, 0, rfl, Nat.le_refl _, Nat.zero_le _, fun _ => rfl, fun h => by cases h⟩
theorem IS.slice {w : World} {v : Value} {xs : List Int} (h : IS w v xs) : ∃ a cap, v = .slice a xs.length cap ∧ xs.length ≤ cap ∧ cap ≤ maxLen := by obtain ⟨a, cap, h1, h2, h3, _⟩ := h; exact ⟨a, cap, h1, h2, h3⟩
theorem IS.below {w w' : World} {v : Value} {xs : List Int} (h : IS w v xs) (q : Below w.heap.size w w') : IS w' v xs := by
  obtain ⟨a, cap, h1, h2, h3, h4, h5⟩ := h
  exact ⟨a, cap, h1, h2, h3, h4, fun hn => by obtain ⟨b, off, e, hc⟩ := h5 hn; exact ⟨b, off, e, fun i hi => (q.cell (World.block_lt_of_cell? w _ (hc i hi))).trans (hc i hi)⟩⟩
theorem IS.at {w : World} {n cap : Nat} {a : Option Addr} {xs : List Int} (h : IS w (.slice a n cap) xs) {i : Nat} (hi : i < n) : ∃ b off, a = some ⟨b, off, none⟩ ∧ w.cell? ⟨b, off + i, none⟩ = some (.int .i64 (xs.getD i 0)) := by
  obtain ⟨a', cap', e, h1, h2, h3, h4⟩ := h
  obtain ⟨rfl, rfl, rfl⟩ : a = a' ∧ n = xs.length ∧ cap = cap' := by simpa using e
  obtain ⟨b, off, rfl, hc⟩ := h4 (by omega)
  exact ⟨b, off, rfl, hc i hi⟩
end Go.Proofs.Ytafnpccpibekoaa
