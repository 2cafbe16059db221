/- What came in, read as cells: rows of four numbers and a bool; partitions as servers. -/
import Derived.Test.YtfjeoefnpcgnnaaTurZ
import Derived.Test.YtfjeoefnpcgnnaaDelO
import Derived.Deep.Slices
import Derived.Deep.Fields
import Derived.ChangeSame
import Derived.OpenShut
namespace Go.Proofs.Ytfjeoefnpcgnnaa.Pw
open Go.RowKit Go.ChangeShapes Go.WideShapes Go.Deep
set_option linter.unusedVariables false

theorem sv_of_ps {w : World} {v : Value} {ps : List Dl.Pn} (h : PS w v ps) : SV w v ps.length (fun i => (ps.getD i Dl.p0).per) (fun i => (ps.getD i Dl.p0).bud) := by
  obtain ⟨a, cap, h1, h2, h3, h4, h5⟩ := h
  refine ⟨a, cap, h1, h2, h3, h4, fun hn => ?_⟩
  obtain ⟨g, off, e, hc⟩ := h5 hn
  refine ⟨g, off, e, fun i hi => ?_⟩
  obtain ⟨c1, c2, tv, c3, c4, c5⟩ := hc i hi
  obtain ⟨ta, tc, rfl, _⟩ := c4.slice
  exact ⟨c1, c2, ta, _, tc, c3⟩
section
variable {H : Type} {enc : TypeId × Value → H} {P : Program} {w : World} {base : Nat} {spare : Nat → Bool} {held : Bool}
/-- one row's cells -/
theorem one_cells {fs : Array Field} {e : TypeId} (he : P.underlying e = some (.struct fs)) (hs : fs.size = 5) (hone : oneCellFields P fs = true) (hty : ∀ (j : Nat) (f : Field), fs[j]? = some f → (j < 4 → P.underlying f.type = some (.int .i64)) ∧ (j = 4 → P.underlying f.type = some .bool))
    {n : Nat} {cs : List Value} {x : DataW H × List MemPlace} (h : DataW.trod enc P w base spare held n e cs = some x) : (∀ j, j < 4 → ∃ z : Int, cs[j]? = some (.int .i64 z)) ∧ ∃ b : Bool, cs[4]? = some (.bool b) := by
  obtain ⟨xs, k, hn, _, hlen, hxs, hf⟩ := DataW.trod_struct he h
  constructor
  · intro j hj
    have hfj : fs[j]? = some (fs[j]'(by omega)) := Array.getElem?_eq_getElem (by omega)
    obtain ⟨ho, hk⟩ := hone_of hone j _ hfj
    have h1 := hf j _ hfj
    rw [ho, hk, List.getElem?_eq_getElem (by omega)] at h1
    obtain ⟨z, hz, _, _⟩ := DataW.trod_int ((hty j _ hfj).1 hj) h1
    refine ⟨z, ?_⟩
    have h2 : ((cs.drop j).take 1)[0]? = some (.int .i64 z) := by rw [hz]; rfl
    rw [List.getElem?_take, if_pos (by omega), List.getElem?_drop] at h2
    simpa using h2
  · have hfj : fs[4]? = some (fs[4]'(by omega)) := Array.getElem?_eq_getElem (by omega)
    obtain ⟨ho, hk⟩ := hone_of hone 4 _ hfj
    have h1 := hf 4 _ hfj
    rw [ho, hk, List.getElem?_eq_getElem (by omega)] at h1
    obtain ⟨z, hz, _⟩ := DataW.trod_bool ((hty 4 _ hfj).2 rfl) h1
    refine ⟨z, ?_⟩
    have h2 : ((cs.drop 4).take 1)[0]? = some (.bool z) := by rw [hz]; rfl
    rw [List.getElem?_take, if_pos (by omega), List.getElem?_drop] at h2
    simpa using h2
theorem open_ones {t e : TypeId} {fs : Array Field} {fuel : Nat} {cs : List Value} {x : DataW H × List MemPlace} (ht : P.underlying t = some (.slice e)) (he : P.underlying e = some (.struct fs)) (hs : fs.size = 5)
    (hone : oneCellFields P fs = true) (hC : P.cellsOf e = 5) (hty : ∀ (j : Nat) (f : Field), fs[j]? = some f → (j < 4 → P.underlying f.type = some (.int .i64)) ∧ (j = 4 → P.underlying f.type = some .bool)) (h : DataW.trod enc P w base spare held fuel t cs = some x) :
    ∃ (v : Value) (n : Nat) (z : Nat → Nat → Int) (b : Nat → Bool), cs = [v] ∧ OS w v n z b := by
  rcases open_slice ht h with ⟨h0, _⟩ | ⟨a, len, cap, m, n, D, Pl, hcs, hb, hl, hm, hmm, _, hi⟩
  · exact ⟨_, 0, fun _ _ => 0, fun _ => false, h0, OS.nil _ _ _⟩
  · have hlm : len ≤ m := by rw [hmm]; split <;> omega
    have hz : ∀ i j, ∃ z : Int, i < len → j < 4 → w.cell? (a.add (i * 5 + j)) = some (.int .i64 z) := by
      intro i j
      by_cases hij : i < len ∧ j < 4
      · obtain ⟨cs', hc, ht'⟩ := hi i (by omega)
        rw [hC] at hc
        obtain ⟨z, hz⟩ := (one_cells he hs hone hty ht').1 j hij.2
        obtain ⟨_, _, hat⟩ := World.cells?_some hc
        refine ⟨z, fun _ _ => ?_⟩
        have := hat j (by omega)
        rw [add_add] at this
        rw [this, hz]
      · exact ⟨0, fun h1 h2 => (hij ⟨h1, h2⟩).elim⟩
    have hbz : ∀ i, ∃ b : Bool, i < len → w.cell? (a.add (i * 5 + 4)) = some (.bool b) := by
      intro i
      by_cases hil : i < len
      · obtain ⟨cs', hc, ht'⟩ := hi i (by omega)
        rw [hC] at hc
        obtain ⟨z, hz⟩ := (one_cells he hs hone hty ht').2
        obtain ⟨_, _, hat⟩ := World.cells?_some hc
        refine ⟨z, fun _ => ?_⟩
        have := hat 4 (by omega)
        rw [add_add] at this
        rw [this, hz]
      · exact ⟨false, fun h1 => (hil h1).elim⟩
    obtain ⟨z, hzz⟩ : ∃ z : Nat → Nat → Int, ∀ i j, i < len → j < 4 → w.cell? (a.add (i * 5 + j)) = some (.int .i64 (z i j)) := ⟨fun i j => Classical.choose (hz i j), fun i j => Classical.choose_spec (hz i j)⟩
    obtain ⟨b, hbb⟩ : ∃ b : Nat → Bool, ∀ i, i < len → w.cell? (a.add (i * 5 + 4)) = some (.bool (b i)) := ⟨fun i => Classical.choose (hbz i), fun i => Classical.choose_spec (hbz i)⟩
    refine ⟨_, len, z, b, hcs, some a, cap, rfl, hl, hm, fun h0 => ?_⟩
    have hc0 := hzz 0 0 h0 (by omega)
    obtain ⟨bb, off, s⟩ := a
    have hsp : s = none := by simpa [Addr.add] using World.cell?_spot hc0
    subst hsp
    refine ⟨bb, off, rfl, fun i h1 => ⟨fun j h2 => ?_, ?_⟩⟩
    · have := hzz i j h1 h2
      rw [Addr.add_lit, ← Nat.add_assoc] at this
      exact this
    · have := hbb i h1
      rw [Addr.add_lit, ← Nat.add_assoc] at this
      exact this
end
end Go.Proofs.Ytfjeoefnpcgnnaa.Pw
