/- Calls that came in (each a struct of three numbers), and bools, read as cells. -/
import Derived.Test.YtcmejhgjkecpjaaPurR
import Derived.Deep.Slices
import Derived.Deep.Fields
import Derived.ChangeSame
import Derived.OpenShut
namespace Go.Proofs.Ytcmejhgjkecpjaa
open Go.RowKit Go.ChangeShapes Go.WideShapes Go.Deep
set_option linter.unusedVariables false

section
variable {H : Type} {enc : TypeId × Value → H} {P : Program} {w : World} {base : Nat} {spare : Nat → Bool} {held : Bool}
/-- one call's cells -/
theorem three_cells {fs : Array Field} {e : TypeId} (he : P.underlying e = some (.struct fs)) (hs : fs.size = 3) (hone : oneCellFields P fs = true) (hty : ∀ (j : Nat) (f : Field), fs[j]? = some f → P.underlying f.type = some (.int .i64))
    {n : Nat} {cs : List Value} {x : DataW H × List MemPlace} (h : DataW.trod enc P w base spare held n e cs = some x) : ∀ j, j < 3 → ∃ z : Int, cs[j]? = some (.int .i64 z) := by
  intro j hj
  obtain ⟨xs, k, hn, _, hlen, hxs, hf⟩ := DataW.trod_struct he h
  have hfj : fs[j]? = some (fs[j]'(by omega)) := Array.getElem?_eq_getElem (by omega)
  obtain ⟨ho, hk⟩ := hone_of hone j _ hfj
  have h1 := hf j _ hfj
  rw [ho, hk, List.getElem?_eq_getElem (by omega)] at h1
  obtain ⟨z, hz, _, _⟩ := DataW.trod_int (hty j _ hfj) h1
  refine ⟨z, ?_⟩
  have h2 : ((cs.drop j).take 1)[0]? = some (.int .i64 z) := by rw [hz]; rfl
  rw [List.getElem?_take, if_pos (by omega), List.getElem?_drop] at h2
  simpa using h2
theorem open_calls {t e : TypeId} {fs : Array Field} {fuel : Nat} {cs : List Value} {x : DataW H × List MemPlace} (ht : P.underlying t = some (.slice e)) (he : P.underlying e = some (.struct fs)) (hs : fs.size = 3)
    (hone : oneCellFields P fs = true) (hC : P.cellsOf e = 3) (hty : ∀ (j : Nat) (f : Field), fs[j]? = some f → P.underlying f.type = some (.int .i64)) (h : DataW.trod enc P w base spare held fuel t cs = some x) :
    cs = [.slice none 0 0] ∨ ∃ (a : Addr) (len cap : Nat) (z : Nat → Nat → Int), cs = [.slice (some a) len cap] ∧ len ≤ cap ∧ cap ≤ maxLen ∧
      (0 < len → ∃ b off, a = ⟨b, off, none⟩ ∧ ∀ i j, i < len → j < 3 → w.cell? ⟨b, off + i * 3 + j, none⟩ = some (.int .i64 (z i j))) := by
  rcases open_slice ht h with ⟨h0, _⟩ | ⟨a, len, cap, m, n, D, Pl, hcs, hb, hl, hm, hmm, _, hi⟩
  · exact Or.inl h0
  · right
    have hlm : len ≤ m := by rw [hmm]; split <;> omega
    have hz : ∀ i j, ∃ z : Int, i < len → j < 3 → w.cell? (a.add (i * 3 + j)) = some (.int .i64 z) := by
      intro i j
      by_cases hij : i < len ∧ j < 3
      · obtain ⟨cs', hc, ht'⟩ := hi i (by omega)
        rw [hC] at hc
        obtain ⟨z, hz⟩ := three_cells he hs hone hty ht' j hij.2
        obtain ⟨_, _, hat⟩ := World.cells?_some hc
        refine ⟨z, fun _ _ => ?_⟩
        have := hat j hij.2
        rw [add_add] at this
        rw [this, hz]
      · exact ⟨0, fun h1 h2 => (hij ⟨h1, h2⟩).elim⟩
    obtain ⟨z, hzz⟩ : ∃ z : Nat → Nat → Int, ∀ i j, i < len → j < 3 → w.cell? (a.add (i * 3 + j)) = some (.int .i64 (z i j)) := ⟨fun i j => Classical.choose (hz i j), fun i j => Classical.choose_spec (hz i j)⟩
    refine ⟨a, len, cap, z, hcs, hl, hm, fun h0 => ?_⟩
    have hc0 := hzz 0 0 h0 (by omega)
    obtain ⟨b, off, s⟩ := a
    have hsp : s = none := by simpa [Addr.add] using World.cell?_spot hc0
    subst hsp
    refine ⟨b, off, rfl, fun i j h1 h2 => ?_⟩
    have := hzz i j h1 h2
    rw [Addr.add_lit, ← Nat.add_assoc] at this
    exact this
end
/-- calls that can be read -/
def DS (w : World) (v : Value) (n : Nat) (d : Nat → Nat → Int) : Prop :=
  ∃ a cap, v = .slice a n cap ∧ n ≤ cap ∧ cap ≤ maxLen ∧
    (0 < n → ∃ b off, a = some ⟨b, off, none⟩ ∧ ∀ i, i < n → ∀ j, j < 3 → w.cell? ⟨b, off + i * 3 + j, none⟩ = some (.int .i64 (d i j)))
theorem DS.nil (w : World) (d : Nat → Nat → Int) : DS w (.slice none 0 0) 0 d := ⟨none, 0, rfl, Nat.le_refl _, Nat.zero_le _, fun h => by cases h⟩
theorem DS.slice {w : World} {v : Value} {n : Nat} {d : Nat → Nat → Int} (h : DS w v n d) : ∃ a cap, v = .slice a n cap ∧ n ≤ cap ∧ cap ≤ maxLen := by obtain ⟨a, cap, h1, h2, h3, _⟩ := h; exact ⟨a, cap, h1, h2, h3⟩
theorem DS.below {w w' : World} {v : Value} {n : Nat} {d : Nat → Nat → Int} (h : DS w v n d) (q : Below w.heap.size w w') : DS w' v n d := by
  obtain ⟨a, cap, h1, h2, h3, h5⟩ := h
  exact ⟨a, cap, h1, h2, h3, fun hn => by obtain ⟨b, off, e, hc⟩ := h5 hn; exact ⟨b, off, e, fun i hi j hj => (q.cell (lt_of_cell (hc i hi j hj))).trans (hc i hi j hj)⟩⟩
theorem DS.at {w : World} {n cap : Nat} {a : Option Addr} {m : Nat} {d : Nat → Nat → Int} (h : DS w (.slice a n cap) m d) {i : Nat} (hi : i < n) : ∃ b off, a = some ⟨b, off, none⟩ ∧ w.cell? ⟨b, off + i * 3, none⟩ = some (.int .i64 (d i 0)) ∧ w.cell? ⟨b, off + i * 3 + 1, none⟩ = some (.int .i64 (d i 1)) ∧ w.cell? ⟨b, off + i * 3 + 2, none⟩ = some (.int .i64 (d i 2)) := by
  obtain ⟨a', cap', e, h1, h2, h4⟩ := h
  obtain ⟨rfl, rfl, rfl⟩ : a = a' ∧ n = m ∧ cap = cap' := by simpa using e
  obtain ⟨b, off, rfl, hc⟩ := h4 (by omega)
  exact ⟨b, off, rfl, hc i hi 0 (by decide), hc i hi 1 (by decide), hc i hi 2 (by decide)⟩
/-- bools that can be read -/
def BL (w : World) (v : Value) (bs : List Bool) : Prop :=
  ∃ a cap, v = .slice a bs.length cap ∧ bs.length ≤ cap ∧ cap ≤ maxLen ∧ (0 < bs.length → ∃ b off, a = some ⟨b, off, none⟩ ∧ ∀ i, i < bs.length → w.cell? ⟨b, off + i, none⟩ = some (.bool (bs.getD i false)))
theorem BL.nil (w : World) : BL w (.slice none 0 0) [] := ⟨none, 0, rfl, Nat.le_refl _, Nat.zero_le _, fun h => by cases h⟩
theorem BL.slice {w : World} {v : Value} {bs : List Bool} (h : BL w v bs) : ∃ a cap, v = .slice a bs.length cap ∧ bs.length ≤ cap ∧ cap ≤ maxLen := by obtain ⟨a, cap, h1, h2, h3, _⟩ := h; exact ⟨a, cap, h1, h2, h3⟩
theorem BL.below {w w' : World} {v : Value} {bs : List Bool} (h : BL w v bs) (q : Below w.heap.size w w') : BL w' v bs := by
  obtain ⟨a, cap, h1, h2, h3, h5⟩ := h
  exact ⟨a, cap, h1, h2, h3, fun hn => by obtain ⟨b, off, e, hc⟩ := h5 hn; exact ⟨b, off, e, fun i hi => (q.cell (lt_of_cell (hc i hi))).trans (hc i hi)⟩⟩
theorem BL.at {w : World} {n cap : Nat} {a : Option Addr} {bs : List Bool} (h : BL w (.slice a n cap) bs) {i : Nat} (hi : i < n) : ∃ b off, a = some ⟨b, off, none⟩ ∧ w.cell? ⟨b, off + i, none⟩ = some (.bool (bs.getD i false)) := by
  obtain ⟨a', cap', e, h1, h2, h4⟩ := h
  obtain ⟨rfl, rfl, rfl⟩ : a = a' ∧ n = bs.length ∧ cap = cap' := by simpa using e
  obtain ⟨b, off, rfl, hc⟩ := h4 (by omega)
  exact ⟨b, off, rfl, hc i hi⟩
section
variable {H : Type} {enc : TypeId × Value → H} {P : Program} {w : World} {base : Nat} {spare : Nat → Bool} {held : Bool}
theorem open_bls {t e : TypeId} {fuel : Nat} {cs : List Value} {x : DataW H × List MemPlace} (ht : P.underlying t = some (.slice e)) (he : P.underlying e = some .bool) (hC : P.cellsOf e = 1) (h : DataW.trod enc P w base spare held fuel t cs = some x) :
    ∃ v bs, cs = [v] ∧ BL w v bs := by
  rcases open_slice1 ht hC h with ⟨h0, _⟩ | ⟨a, len, cap, m, n, V, D, Pl, hcs, hb, hl, hm, hmm, _, hi⟩
  · exact ⟨_, [], h0, BL.nil w⟩
  · have hlm : len ≤ m := by rw [hmm]; split <;> omega
    obtain ⟨B, hB⟩ := choose_lt (n := len) (α := Bool) (p := fun i b => w.cell? (a.add i) = some (.bool b)) (fun i hil => by
      obtain ⟨q1, q2⟩ := hi i (by omega)
      obtain ⟨b, h1, h2⟩ := DataW.trod_bool he q2
      have h3 : V i = .bool b := by simpa using h1
      exact ⟨b, by rw [q1, h3]⟩)
    have hll : ((List.range len).map B).length = len := by simp
    refine ⟨_, (List.range len).map B, hcs, some a, cap, by rw [hll], by rw [hll]; exact hl, hm, fun h0 => ?_⟩
    rw [hll] at h0
    obtain ⟨b, off, s⟩ := a
    have hsp : s = none := by simpa [Addr.add] using World.cell?_spot (hB 0 h0)
    subst hsp
    refine ⟨b, off, rfl, fun i hil => ?_⟩
    rw [hll] at hil
    have := hB i hil
    rw [Addr.add_lit] at this
    rw [this, List.getD_eq_getElem?_getD, List.getElem?_map, List.getElem?_range hil]
    rfl
end
end Go.Proofs.Ytcmejhgjkecpjaa
