/- A list of tasks that came in (each a struct of eight numbers), read as cells. -/
import Derived.Test.YtkkmfpllgjoceaaGreatRows
import Derived.Deep.Slices
import Derived.Deep.Fields
import Derived.ChangeSame
import Derived.OpenShut
namespace Go.Proofs.YtkkmfpllgjoceaaGreat
open Go.ChangeShapes Go.WideShapes Go.Deep
set_option linter.unusedVariables false

section
variable {H : Type} {enc : TypeId × Value → H} {P : Program} {w : World} {base : Nat} {spare : Nat → Bool} {held : Bool}
/-- one call's cells -/
theorem row_cells {fs : Array Field} {e : TypeId} (he : P.underlying e = some (.struct fs)) (hs : fs.size = 8) (hone : oneCellFields P fs = true) (hty : ∀ (j : Nat) (f : Field), fs[j]? = some f → P.underlying f.type = some (.int .i64))
    {n : Nat} {cs : List Value} {x : DataW H × List MemPlace} (h : DataW.trod enc P w base spare held n e cs = some x) : ∀ j, j < 8 → ∃ z : Int, cs[j]? = some (.int .i64 z) := by
  intro j hj
  obtain ⟨xs, k, hn, _, hlen, hxs, hf⟩ := DataW.trod_struct he h
  have hfj : fs[j]? = some (fs[j]'(by omega)) := Array.getElem?_eq_getElem (by omega)
  obtain ⟨ho, hk⟩ := hone_of hone j _ hfj
  have h1 := hf j _ hfj
  rw [ho, hk, List.getElem?_eq_getElem (by omega)] at h1
  obtain ⟨z, hz, _, _⟩ := DataW.trod_int (hty j _ hfj) h1
  refine ⟨z, ?_⟩
  have h2 : ((cs.drop j).take 1)[0]? = some (.int .i64 z) := by rw [hz]; rfl
  rw [List.getElem?_take, if_pos (by omega), List.getElem?_drop] at h2
  simpa using h2
theorem open_tasks {t e : TypeId} {fs : Array Field} {fuel : Nat} {cs : List Value} {x : DataW H × List MemPlace} (ht : P.underlying t = some (.slice e)) (he : P.underlying e = some (.struct fs)) (hs : fs.size = 8)
    (hone : oneCellFields P fs = true) (hC : P.cellsOf e = 8) (hty : ∀ (j : Nat) (f : Field), fs[j]? = some f → P.underlying f.type = some (.int .i64)) (h : DataW.trod enc P w base spare held fuel t cs = some x) :
    cs = [.slice none 0 0] ∨ ∃ (a : Addr) (len cap : Nat) (z : Nat → Nat → Int), cs = [.slice (some a) len cap] ∧ len ≤ cap ∧ cap ≤ maxLen ∧
      (0 < len → ∃ b off, a = ⟨b, off, none⟩ ∧ ∀ i j, i < len → j < 8 → w.cell? ⟨b, off + i * 8 + j, none⟩ = some (.int .i64 (z i j))) := by
  rcases open_slice ht h with ⟨h0, _⟩ | ⟨a, len, cap, m, n, D, Pl, hcs, hb, hl, hm, hmm, _, hi⟩
  · exact Or.inl h0
  · right
    have hlm : len ≤ m := by rw [hmm]; split <;> omega
    have hz : ∀ i j, ∃ z : Int, i < len → j < 8 → w.cell? (a.add (i * 8 + j)) = some (.int .i64 z) := by
      intro i j
      by_cases hij : i < len ∧ j < 8
      · obtain ⟨cs', hc, ht'⟩ := hi i (by omega)
        rw [hC] at hc
        obtain ⟨z, hz⟩ := row_cells he hs hone hty ht' j hij.2
        obtain ⟨_, _, hat⟩ := World.cells?_some hc
        refine ⟨z, fun _ _ => ?_⟩
        have := hat j hij.2
        rw [add_add] at this
        rw [this, hz]
      · exact ⟨0, fun h1 h2 => (hij ⟨h1, h2⟩).elim⟩
    obtain ⟨z, hzz⟩ : ∃ z : Nat → Nat → Int, ∀ i j, i < len → j < 8 → w.cell? (a.add (i * 8 + j)) = some (.int .i64 (z i j)) := ⟨fun i j => Classical.choose (hz i j), fun i j => Classical.choose_spec (hz i j)⟩
    refine ⟨a, len, cap, z, hcs, hl, hm, fun h0 => ?_⟩
    have hc0 := hzz 0 0 h0 (by omega)
    obtain ⟨b, off, s⟩ := a
    have hsp : s = none := by simpa [Addr.add] using World.cell?_spot hc0
    subst hsp
    refine ⟨b, off, rfl, fun i j h1 h2 => ?_⟩
    have := hzz i j h1 h2
    rw [Addr.add_lit, ← Nat.add_assoc] at this
    exact this
end

end Go.Proofs.YtkkmfpllgjoceaaGreat
