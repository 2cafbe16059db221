/- A task that came in by value, read as eight cells. -/
import Derived.Test.YtoggnofdgmhbmaaRows
import Derived.Deep.Slices
import Derived.Deep.Fields
import Derived.ChangeSame
import Derived.OpenShut
namespace Go.Proofs.Ytoggnofdgmhbmaa
open Go.ChangeShapes Go.WideShapes Go.Deep
set_option linter.unusedVariables false

section
variable {H : Type} {enc : TypeId × Value → H} {P : Program} {w : World} {base : Nat} {spare : Nat → Bool} {held : Bool}
/-- one task's cells -/
theorem task_cells {fs : Array Field} {e : TypeId} (he : P.underlying e = some (.struct fs)) (hs : fs.size = 8) (hone : oneCellFields P fs = true) (hC : P.cellsOf e = 8) (hty : ∀ (j : Nat) (f : Field), fs[j]? = some f → P.underlying f.type = some (.int .i64))
    {n : Nat} {cs : List Value} {x : DataW H × List MemPlace} (h : DataW.trod enc P w base spare held n e cs = some x) : ∃ y : Nat → Int, cs = [.int .i64 (y 0), .int .i64 (y 1), .int .i64 (y 2), .int .i64 (y 3), .int .i64 (y 4), .int .i64 (y 5), .int .i64 (y 6), .int .i64 (y 7)] := by
  obtain ⟨xs, k, hn, _, hlen, hxs, hf⟩ := DataW.trod_struct he h
  have key : ∀ j, ∃ z : Int, j < 8 → cs[j]? = some (.int .i64 z) := by
    intro j
    by_cases hj : j < 8
    · have hfj : fs[j]? = some (fs[j]'(by omega)) := Array.getElem?_eq_getElem (by omega)
      obtain ⟨ho, hk⟩ := hone_of hone j _ hfj
      have h1 := hf j _ hfj
      rw [ho, hk, List.getElem?_eq_getElem (by omega)] at h1
      obtain ⟨z, hz, _, _⟩ := DataW.trod_int (hty j _ hfj) h1
      refine ⟨z, fun _ => ?_⟩
      have h2 : ((cs.drop j).take 1)[0]? = some (.int .i64 z) := by rw [hz]; rfl
      rw [List.getElem?_take, if_pos (by omega), List.getElem?_drop] at h2
      simpa using h2
    · exact ⟨0, fun q => (hj q).elim⟩
  obtain ⟨y, hy⟩ : ∃ y : Nat → Int, ∀ j, j < 8 → cs[j]? = some (.int .i64 (y j)) := ⟨fun j => Classical.choose (key j), fun j => Classical.choose_spec (key j)⟩
  rw [hC] at hlen
  refine ⟨y, ?_⟩
  match cs, hlen, hy 0 (by omega), hy 1 (by omega), hy 2 (by omega), hy 3 (by omega), hy 4 (by omega), hy 5 (by omega), hy 6 (by omega), hy 7 (by omega) with
  | [c0, c1, c2, c3, c4, c5, c6, c7], _, h0, h1, h2, h3, h4, h5, h6, h7 =>
    have e0 : c0 = .int .i64 (y 0) := by simpa using h0
    have e1 : c1 = .int .i64 (y 1) := by simpa using h1
    have e2 : c2 = .int .i64 (y 2) := by simpa using h2
    have e3 : c3 = .int .i64 (y 3) := by simpa using h3
    have e4 : c4 = .int .i64 (y 4) := by simpa using h4
    have e5 : c5 = .int .i64 (y 5) := by simpa using h5
    have e6 : c6 = .int .i64 (y 6) := by simpa using h6
    have e7 : c7 = .int .i64 (y 7) := by simpa using h7
    rw [e0, e1, e2, e3, e4, e5, e6, e7]
end

end Go.Proofs.Ytoggnofdgmhbmaa
