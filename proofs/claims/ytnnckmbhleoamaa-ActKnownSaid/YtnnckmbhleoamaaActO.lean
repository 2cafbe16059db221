/- Acts that came in (a row of them; one by value), and bools, read as cells. -/
import Derived.Test.YtnnckmbhleoamaaActA
import Derived.Deep.Slices
import Derived.Deep.Fields
import Derived.ChangeSame
import Derived.OpenShut
namespace Go.Proofs.Ytnnckmbhleoamaa
open Go.RowKit Go.ChangeShapes Go.WideShapes Go.Deep Ac
set_option linter.unusedVariables false

section
variable {H : Type} {enc : TypeId × Value → H} {P : Program} {w : World} {base : Nat} {spare : Nat → Bool} {held : Bool}
/-- one act's cells -/
theorem act_cells {fs : Array Field} {e : TypeId} (he : P.underlying e = some (.struct fs)) (hs : fs.size = 3) (hone : oneCellFields P fs = true) (hC : P.cellsOf e = 3) (hty : ∀ (j : Nat) (f : Field), fs[j]? = some f → (j < 2 → P.underlying f.type = some (.int .i64)) ∧ (j = 2 → P.underlying f.type = some .string))
    {n : Nat} {cs : List Value} {x : DataW H × List MemPlace} (h : DataW.trod enc P w base spare held n e cs = some x) : ∃ a : Ak, cs = [.int .i64 a.k, .int .i64 a.n, .string a.s] := by
  obtain ⟨xs, k, hn, _, hlen, hxs, hf⟩ := DataW.trod_struct he h
  have key : ∀ j, j < 2 → ∃ z : Int, cs[j]? = some (.int .i64 z) := by
    intro j hj
    have hfj : fs[j]? = some (fs[j]'(by omega)) := Array.getElem?_eq_getElem (by omega)
    obtain ⟨ho, hk⟩ := hone_of hone j _ hfj
    have h1 := hf j _ hfj
    rw [ho, hk, List.getElem?_eq_getElem (by omega)] at h1
    obtain ⟨z, hz, _, hw⟩ := DataW.trod_int ((hty j _ hfj).1 hj) h1
    refine ⟨z, ?_⟩
    have h2 : ((cs.drop j).take 1)[0]? = some (.int .i64 z) := by rw [hz]; rfl
    rw [List.getElem?_take, if_pos (by omega), List.getElem?_drop] at h2
    simpa using h2
  obtain ⟨s, hs2⟩ : ∃ s : ByteArray, cs[2]? = some (.string s) := by
    have hfj : fs[2]? = some (fs[2]'(by omega)) := Array.getElem?_eq_getElem (by omega)
    obtain ⟨ho, hk⟩ := hone_of hone 2 _ hfj
    have h1 := hf 2 _ hfj
    rw [ho, hk, List.getElem?_eq_getElem (by omega)] at h1
    obtain ⟨z, hz, _, hw⟩ := DataW.trod_string ((hty 2 _ hfj).2 rfl) h1
    refine ⟨z, ?_⟩
    have h2 : ((cs.drop 2).take 1)[0]? = some (.string z) := by rw [hz]; rfl
    rw [List.getElem?_take, if_pos (by omega), List.getElem?_drop] at h2
    simpa using h2
  obtain ⟨a, ha⟩ := key 0 (by omega)
  obtain ⟨b, hb⟩ := key 1 (by omega)
  rw [hC] at hlen
  refine ⟨⟨a, b, s⟩, ?_⟩
  match cs, hlen, ha, hb, hs2 with
  | [c, d, f], _, ha, hb, hc =>
    have e1 : c = .int .i64 a := by simpa using ha
    have e2 : d = .int .i64 b := by simpa using hb
    have e3 : f = .string s := by simpa using hc
    rw [e1, e2, e3]
theorem open_acts {t e : TypeId} {fs : Array Field} {fuel : Nat} {cs : List Value} {x : DataW H × List MemPlace} (ht : P.underlying t = some (.slice e)) (he : P.underlying e = some (.struct fs)) (hs : fs.size = 3)
    (hone : oneCellFields P fs = true) (hC : P.cellsOf e = 3) (hty : ∀ (j : Nat) (f : Field), fs[j]? = some f → (j < 2 → P.underlying f.type = some (.int .i64)) ∧ (j = 2 → P.underlying f.type = some .string)) (h : DataW.trod enc P w base spare held fuel t cs = some x) :
    ∃ v l, cs = [v] ∧ AS w v l := by
  rcases open_slice ht h with ⟨h0, _⟩ | ⟨a, len, cap, m, n, D, Pl, hcs, hb, hl, hm, hmm, _, hi⟩
  · exact ⟨_, [], h0, AS.nil w⟩
  · have hlm : len ≤ m := by rw [hmm]; split <;> omega
    have hz : ∀ i, ∃ z : Ak, i < len → ∀ j u, (cl z)[j]? = some u → w.cell? (a.add (i * 3 + j)) = some u := by
      intro i
      by_cases hij : i < len
      · obtain ⟨cs', hc, ht'⟩ := hi i (by omega)
        rw [hC] at hc
        obtain ⟨z, hz⟩ := act_cells he hs hone hC hty ht'
        obtain ⟨_, _, hat⟩ := World.cells?_some hc
        refine ⟨z, fun _ j u hu => ?_⟩
        have hj : j < 3 := by have := (List.getElem?_eq_some_iff.1 hu).1; simpa [cl] using this
        have := hat j hj
        rw [add_add, hz] at this
        rw [this]
        exact hu
      · exact ⟨o0, fun h1 => (hij h1).elim⟩
    obtain ⟨z, hzz⟩ : ∃ z : Nat → Ak, ∀ i, i < len → ∀ j u, (cl (z i))[j]? = some u → w.cell? (a.add (i * 3 + j)) = some u := ⟨fun i => Classical.choose (hz i), fun i => Classical.choose_spec (hz i)⟩
    have hll : ((List.range len).map z).length = len := by simp
    refine ⟨_, (List.range len).map z, hcs, some a, cap, by rw [hll], by rw [hll]; exact hl, hm, (fun e => by cases e), fun h0 => ?_⟩
    rw [hll] at h0
    have hc0 := hzz 0 h0 0 _ rfl
    obtain ⟨b, off, s⟩ := a
    have hsp : s = none := by simpa [Addr.add] using World.cell?_spot hc0
    subst hsp
    refine ⟨b, off, rfl, fun j u hj => ?_⟩
    have hjl : j < len * 3 := by have := (List.getElem?_eq_some_iff.1 hj).1; rw [acells_len, hll] at this; exact this
    have hi3 : j / 3 < len := by omega
    obtain ⟨q1, q2, q3⟩ := acells_at ((List.range len).map z) (j / 3) (by rw [hll]; exact hi3)
    have hg : ((List.range len).map z).getD (j / 3) o0 = z (j / 3) := by
      rw [List.getD_eq_getElem?_getD, List.getElem?_map, List.getElem?_range hi3]
      rfl
    rw [hg] at q1 q2 q3
    have hm3 : j % 3 = 0 ∨ j % 3 = 1 ∨ j % 3 = 2 := by omega
    rcases hm3 with h3 | h3 | h3
    · have e1 : j = j / 3 * 3 + 0 := by omega
      rw [show j / 3 * 3 = j by omega] at q1
      have := hzz (j / 3) hi3 0 _ rfl
      rw [Addr.add_lit, ← e1] at this
      rw [this, ← q1, hj]
    · have e1 : j = j / 3 * 3 + 1 := by omega
      rw [← e1] at q2
      have := hzz (j / 3) hi3 1 _ rfl
      rw [Addr.add_lit, ← e1] at this
      rw [this, ← q2, hj]
    · have e1 : j = j / 3 * 3 + 2 := by omega
      rw [← e1] at q3
      have := hzz (j / 3) hi3 2 _ rfl
      rw [Addr.add_lit, ← e1] at this
      rw [this, ← q3, hj]
end
/-- bools that can be read -/
def BL (w : World) (v : Value) (bs : List Bool) : Prop :=
  ∃ a cap, v = .slice a bs.length cap ∧ bs.length ≤ cap ∧ cap ≤ maxLen ∧ (0 < bs.length → ∃ b off, a = some ⟨b, off, none⟩ ∧ ∀ i, i < bs.length → w.cell? ⟨b, off + i, none⟩ = some (.bool (bs.getD i false)))
theorem BL.nil (w : World) : BL w (.slice none 0 0) [] := ⟨none, 0, rfl, Nat.le_refl _, Nat.zero_le _, fun h => by cases h⟩
theorem BL.slice {w : World} {v : Value} {bs : List Bool} (h : BL w v bs) : ∃ a cap, v = .slice a bs.length cap ∧ bs.length ≤ cap ∧ cap ≤ maxLen := by obtain ⟨a, cap, h1, h2, h3, _⟩ := h; exact ⟨a, cap, h1, h2, h3⟩
theorem BL.below {w w' : World} {v : Value} {bs : List Bool} (h : BL w v bs) (q : Below w.heap.size w w') : BL w' v bs := by
  obtain ⟨a, cap, h1, h2, h3, h5⟩ := h
  exact ⟨a, cap, h1, h2, h3, fun hn => by obtain ⟨b, off, e, hc⟩ := h5 hn; exact ⟨b, off, e, fun i hi => (q.cell (lt_of_cell (hc i hi))).trans (hc i hi)⟩⟩
theorem BL.at {w : World} {n cap : Nat} {a : Option Addr} {bs : List Bool} (h : BL w (.slice a n cap) bs) {i : Nat} (hi : i < n) : ∃ b off, a = some ⟨b, off, none⟩ ∧ w.cell? ⟨b, off + i, none⟩ = some (.bool (bs.getD i false)) := by
  obtain ⟨a', cap', e, h1, h2, h4⟩ := h
  obtain ⟨rfl, rfl, rfl⟩ : a = a' ∧ n = bs.length ∧ cap = cap' := by simpa using e
  obtain ⟨b, off, rfl, hc⟩ := h4 (by omega)
  exact ⟨b, off, rfl, hc i hi⟩
section
variable {H : Type} {enc : TypeId × Value → H} {P : Program} {w : World} {base : Nat} {spare : Nat → Bool} {held : Bool}
theorem open_bls {t e : TypeId} {fuel : Nat} {cs : List Value} {x : DataW H × List MemPlace} (ht : P.underlying t = some (.slice e)) (he : P.underlying e = some .bool) (hC : P.cellsOf e = 1) (h : DataW.trod enc P w base spare held fuel t cs = some x) :
    ∃ v bs, cs = [v] ∧ BL w v bs := by
  rcases open_slice1 ht hC h with ⟨h0, _⟩ | ⟨a, len, cap, m, n, V, D, Pl, hcs, hb, hl, hm, hmm, _, hi⟩
  · exact ⟨_, [], h0, BL.nil w⟩
  · have hlm : len ≤ m := by rw [hmm]; split <;> omega
    obtain ⟨B, hB⟩ := choose_lt (n := len) (α := Bool) (p := fun i b => w.cell? (a.add i) = some (.bool b)) (fun i hil => by
      obtain ⟨q1, q2⟩ := hi i (by omega)
      obtain ⟨b, h1, h2⟩ := DataW.trod_bool he q2
      have h3 : V i = .bool b := by simpa using h1
      exact ⟨b, by rw [q1, h3]⟩)
    have hll : ((List.range len).map B).length = len := by simp
    refine ⟨_, (List.range len).map B, hcs, some a, cap, by rw [hll], by rw [hll]; exact hl, hm, fun h0 => ?_⟩
    rw [hll] at h0
    obtain ⟨b, off, s⟩ := a
    have hsp : s = none := by simpa [Addr.add] using World.cell?_spot (hB 0 h0)
    subst hsp
    refine ⟨b, off, rfl, fun i hil => ?_⟩
    rw [hll] at hil
    have := hB i hil
    rw [Addr.add_lit] at this
    rw [this, List.getD_eq_getElem?_getD, List.getElem?_map, List.getElem?_range hil]
    rfl
end
end Go.Proofs.Ytnnckmbhleoamaa
