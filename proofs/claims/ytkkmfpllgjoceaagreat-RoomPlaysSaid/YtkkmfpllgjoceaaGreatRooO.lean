/- Calls that came in (each three numbers and a row of acts), and tasks with their ranges, read as cells. -/
import Derived.Test.YtkkmfpllgjoceaaGreatRows
import Derived.Test.YtkkmfpllgjoceaaGreatZb
import Derived.Test.YtkkmfpllgjoceaaGreatZs
import Derived.Deep.Slices
import Derived.Deep.Fields
import Derived.ChangeSame
import Derived.OpenShut
namespace Go.Proofs.YtkkmfpllgjoceaaGreat.Ro
open Go.RowKit Go.ChangeShapes Go.WideShapes Go.Deep Ac
set_option linter.unusedVariables false
set_option maxRecDepth 100000

section
variable {H : Type} {enc : TypeId × Value → H} {P : Program} {w : World} {base : Nat} {spare : Nat → Bool} {held : Bool}
/-- one act's cells -/
theorem act_cells {fs : Array Field} {e : TypeId} (he : P.underlying e = some (.struct fs)) (hs : fs.size = 3) (hone : oneCellFields P fs = true) (hC : P.cellsOf e = 3) (hty : ∀ (j : Nat) (f : Field), fs[j]? = some f → (j < 2 → P.underlying f.type = some (.int .i64)) ∧ (j = 2 → P.underlying f.type = some .string))
    {n : Nat} {cs : List Value} {x : DataW H × List MemPlace} (h : DataW.trod enc P w base spare held n e cs = some x) : ∃ a : Ak, cs = [.int .i64 a.k, .int .i64 a.n, .string a.s] := by
  obtain ⟨xs, k, hn, _, hlen, hxs, hf⟩ := DataW.trod_struct he h
  have key : ∀ j, j < 2 → ∃ z : Int, cs[j]? = some (.int .i64 z) := by
    intro j hj
    have hfj : fs[j]? = some (fs[j]'(by omega)) := Array.getElem?_eq_getElem (by omega)
    obtain ⟨ho, hk⟩ := hone_of hone j _ hfj
    have h1 := hf j _ hfj
    rw [ho, hk, List.getElem?_eq_getElem (by omega)] at h1
    obtain ⟨z, hz, _, hw⟩ := DataW.trod_int ((hty j _ hfj).1 hj) h1
    refine ⟨z, ?_⟩
    have h2 : ((cs.drop j).take 1)[0]? = some (.int .i64 z) := by rw [hz]; rfl
    rw [List.getElem?_take, if_pos (by omega), List.getElem?_drop] at h2
    simpa using h2
  obtain ⟨s, hs2⟩ : ∃ s : ByteArray, cs[2]? = some (.string s) := by
    have hfj : fs[2]? = some (fs[2]'(by omega)) := Array.getElem?_eq_getElem (by omega)
    obtain ⟨ho, hk⟩ := hone_of hone 2 _ hfj
    have h1 := hf 2 _ hfj
    rw [ho, hk, List.getElem?_eq_getElem (by omega)] at h1
    obtain ⟨z, hz, _, hw⟩ := DataW.trod_string ((hty 2 _ hfj).2 rfl) h1
    refine ⟨z, ?_⟩
    have h2 : ((cs.drop 2).take 1)[0]? = some (.string z) := by rw [hz]; rfl
    rw [List.getElem?_take, if_pos (by omega), List.getElem?_drop] at h2
    simpa using h2
  obtain ⟨a, ha⟩ := key 0 (by omega)
  obtain ⟨b, hb⟩ := key 1 (by omega)
  rw [hC] at hlen
  refine ⟨⟨a, b, s⟩, ?_⟩
  match cs, hlen, ha, hb, hs2 with
  | [c, d, f], _, ha, hb, hc =>
    have e1 : c = .int .i64 a := by simpa using ha
    have e2 : d = .int .i64 b := by simpa using hb
    have e3 : f = .string s := by simpa using hc
    rw [e1, e2, e3]
theorem open_acts {t e : TypeId} {fs : Array Field} {fuel : Nat} {cs : List Value} {x : DataW H × List MemPlace} (ht : P.underlying t = some (.slice e)) (he : P.underlying e = some (.struct fs)) (hs : fs.size = 3)
    (hone : oneCellFields P fs = true) (hC : P.cellsOf e = 3) (hty : ∀ (j : Nat) (f : Field), fs[j]? = some f → (j < 2 → P.underlying f.type = some (.int .i64)) ∧ (j = 2 → P.underlying f.type = some .string)) (h : DataW.trod enc P w base spare held fuel t cs = some x) :
    ∃ v l, cs = [v] ∧ AS w v l := by
  rcases open_slice ht h with ⟨h0, _⟩ | ⟨a, len, cap, m, n, D, Pl, hcs, hb, hl, hm, hmm, _, hi⟩
  · exact ⟨_, [], h0, AS.nil w⟩
  · have hlm : len ≤ m := by rw [hmm]; split <;> omega
    have hz : ∀ i, ∃ z : Ak, i < len → ∀ j u, (cl z)[j]? = some u → w.cell? (a.add (i * 3 + j)) = some u := by
      intro i
      by_cases hij : i < len
      · obtain ⟨cs', hc, ht'⟩ := hi i (by omega)
        rw [hC] at hc
        obtain ⟨z, hz⟩ := act_cells he hs hone hC hty ht'
        obtain ⟨_, _, hat⟩ := World.cells?_some hc
        refine ⟨z, fun _ j u hu => ?_⟩
        have hj : j < 3 := by have := (List.getElem?_eq_some_iff.1 hu).1; simpa [cl] using this
        have := hat j hj
        rw [add_add, hz] at this
        rw [this]
        exact hu
      · exact ⟨o0, fun h1 => (hij h1).elim⟩
    obtain ⟨z, hzz⟩ : ∃ z : Nat → Ak, ∀ i, i < len → ∀ j u, (cl (z i))[j]? = some u → w.cell? (a.add (i * 3 + j)) = some u := ⟨fun i => Classical.choose (hz i), fun i => Classical.choose_spec (hz i)⟩
    have hll : ((List.range len).map z).length = len := by simp
    refine ⟨_, (List.range len).map z, hcs, some a, cap, by rw [hll], by rw [hll]; exact hl, hm, (fun e => by cases e), fun h0 => ?_⟩
    rw [hll] at h0
    have hc0 := hzz 0 h0 0 _ rfl
    obtain ⟨b, off, s⟩ := a
    have hsp : s = none := by simpa [Addr.add] using World.cell?_spot hc0
    subst hsp
    refine ⟨b, off, rfl, fun j u hj => ?_⟩
    have hjl : j < len * 3 := by have := (List.getElem?_eq_some_iff.1 hj).1; rw [acells_len, hll] at this; exact this
    have hi3 : j / 3 < len := by omega
    obtain ⟨q1, q2, q3⟩ := acells_at ((List.range len).map z) (j / 3) (by rw [hll]; exact hi3)
    have hg : ((List.range len).map z).getD (j / 3) o0 = z (j / 3) := by
      rw [List.getD_eq_getElem?_getD, List.getElem?_map, List.getElem?_range hi3]
      rfl
    rw [hg] at q1 q2 q3
    have hm3 : j % 3 = 0 ∨ j % 3 = 1 ∨ j % 3 = 2 := by omega
    rcases hm3 with h3 | h3 | h3
    · have e1 : j = j / 3 * 3 + 0 := by omega
      rw [show j / 3 * 3 = j by omega] at q1
      have := hzz (j / 3) hi3 0 _ rfl
      rw [Addr.add_lit, ← e1] at this
      rw [this, ← q1, hj]
    · have e1 : j = j / 3 * 3 + 1 := by omega
      rw [← e1] at q2
      have := hzz (j / 3) hi3 1 _ rfl
      rw [Addr.add_lit, ← e1] at this
      rw [this, ← q2, hj]
    · have e1 : j = j / 3 * 3 + 2 := by omega
      rw [← e1] at q3
      have := hzz (j / 3) hi3 2 _ rfl
      rw [Addr.add_lit, ← e1] at this
      rw [this, ← q3, hj]
end

/-- a call: its kind, its task, a number, acts -/
structure Dv where
  k : Int
  t : Int
  a : Int
  u : Value
  l : List Ak
def DS (w : World) (v : Value) (n : Nat) (d : Nat → Dv) : Prop :=
  ∃ a cap, v = .slice a n cap ∧ n ≤ cap ∧ cap ≤ maxLen ∧ (0 < n → ∃ b off, a = some ⟨b, off, none⟩ ∧ ∀ i, i < n → w.cell? ⟨b, off + i * 4, none⟩ = some (.int .i64 (d i).k) ∧ w.cell? ⟨b, off + i * 4 + 1, none⟩ = some (.int .i64 (d i).t) ∧ w.cell? ⟨b, off + i * 4 + 2, none⟩ = some (.int .i64 (d i).a) ∧ w.cell? ⟨b, off + i * 4 + 3, none⟩ = some (d i).u ∧ AS w (d i).u (d i).l)
theorem DS.nil (w : World) (d : Nat → Dv) : DS w (.slice none 0 0) 0 d := ⟨none, 0, rfl, Nat.le_refl _, Nat.zero_le _, fun h => by cases h⟩
theorem DS.slice {w : World} {v : Value} {n : Nat} {d : Nat → Dv} (h : DS w v n d) : ∃ a cap, v = .slice a n cap ∧ n ≤ cap ∧ cap ≤ maxLen := by obtain ⟨a, cap, h1, h2, h3, _⟩ := h; exact ⟨a, cap, h1, h2, h3⟩
theorem DS.below {w w' : World} {v : Value} {n : Nat} {d : Nat → Dv} (h : DS w v n d) (q : Below w.heap.size w w') : DS w' v n d := by
  obtain ⟨a, cap, h1, h2, h3, h4⟩ := h
  refine ⟨a, cap, h1, h2, h3, fun hn => ?_⟩
  obtain ⟨b, off, e, hc⟩ := h4 hn
  refine ⟨b, off, e, fun i hi => ?_⟩
  obtain ⟨c0, c1, c2, c3, c4⟩ := hc i hi
  exact ⟨(q.cell (lt_of_cell c0)).trans c0, (q.cell (lt_of_cell c1)).trans c1, (q.cell (lt_of_cell c2)).trans c2, (q.cell (lt_of_cell c3)).trans c3, c4.below q⟩
theorem DS.at {w : World} {n cap : Nat} {a : Option Addr} {d : Nat → Dv} (h : DS w (.slice a n cap) n d) {i : Nat} (hi : i < n) : ∃ b off, a = some ⟨b, off, none⟩ ∧ w.cell? ⟨b, off + i * 4, none⟩ = some (.int .i64 (d i).k) ∧ w.cell? ⟨b, off + i * 4 + 1, none⟩ = some (.int .i64 (d i).t) ∧ w.cell? ⟨b, off + i * 4 + 2, none⟩ = some (.int .i64 (d i).a) ∧ w.cell? ⟨b, off + i * 4 + 3, none⟩ = some (d i).u ∧ AS w (d i).u (d i).l := by
  obtain ⟨a', cap', e, _, _, h4⟩ := h
  injection e with e1 e2 e3
  subst e1
  obtain ⟨b, off, rfl, hc⟩ := h4 (by omega)
  exact ⟨b, off, rfl, hc i hi⟩
section
variable {H : Type} {enc : TypeId × Value → H} {w : World} {spare : Nat → Bool} {held : Bool}
theorem int_cellR {t : TypeId} {n : Nat} {cs : List Value} {x : DataW H × List MemPlace} (ht : Tryz.prog.underlying t = some (.int .i64)) (h : DataW.trod enc Tryz.prog w 0 spare held n t cs = some x) : ∃ z : Int, cs = [.int .i64 z] := by
  obtain ⟨z, hz, _⟩ := DataW.trod_int ht h; exact ⟨z, hz⟩
theorem open_as {fuel : Nat} {cs : List Value} {x : DataW H × List MemPlace} (h : DataW.trod enc Tryz.prog w 0 spare held fuel 31 cs = some x) : ∃ v l, cs = [v] ∧ AS w v l :=
  open_acts Tryz.underlying31 Tryz.underlying57 rfl (by kernel_rfl) (by kernel_rfl) (fun j f hj => by
      match j, hj with
      | 0, hj => injection hj with hj; subst hj; exact ⟨fun _ => Tryz.underlying3, fun h => absurd h (by decide)⟩
      | 1, hj => injection hj with hj; subst hj; exact ⟨fun _ => Tryz.underlying3, fun h => absurd h (by decide)⟩
      | 2, hj => injection hj with hj; subst hj; exact ⟨fun h => absurd h (by decide), fun _ => Tryz.underlying9⟩) h
set_option maxRecDepth 100000 in
theorem open_do {fuel : Nat} {cs : List Value} {x : DataW H × List MemPlace} (h : DataW.trod enc Tryz.prog w 0 spare held fuel 33 cs = some x) :
    ∃ d : Dv, cs = [.int .i64 d.k, .int .i64 d.t, .int .i64 d.a, d.u] ∧ AS w d.u d.l := by
  obtain ⟨xs, n, _, hx, hlen, hxs, hf⟩ := DataW.trod_struct Tryz.underlying33 h
  have hl4 : cs.length = 4 := by rw [hlen]; kernel_rfl
  match cs, hl4, xs, hxs with
  | [c0, c1, c2, c3], _, [x0, x1, x2, x3], _ =>
    have g0 := hf 0 _ rfl
    have g1 := hf 1 _ rfl
    have g2 := hf 2 _ rfl
    have g3 := hf 3 _ rfl
    have q3 : Tryz.prog.cellsOf 3 = 1 := by kernel_rfl
    have q9 : Tryz.prog.cellsOf 31 = 1 := by kernel_rfl
    simp [q3, q9] at g0 g1 g2 g3
    obtain ⟨k, h0⟩ := int_cellR Tryz.underlying3 g0
    obtain ⟨t, h1⟩ := int_cellR Tryz.underlying3 g1
    obtain ⟨a, h2⟩ := int_cellR Tryz.underlying3 g2
    obtain ⟨u, l, h3, h4⟩ := open_as g3
    refine ⟨⟨k, t, a, u, l⟩, ?_, h4⟩
    simp only [List.cons.injEq, and_true] at h0 h1 h2 h3
    rw [h0, h1, h2, h3]
theorem open_ds {fuel : Nat} {cs : List Value} {x : DataW H × List MemPlace} (h : DataW.trod enc Tryz.prog w 0 spare held fuel 23 cs = some x) :
    ∃ v n d, cs = [v] ∧ DS w v n d := by
  rcases open_slice Tryz.underlying23 h with ⟨h0, hx⟩ | ⟨a, len, cap, m, n, D, Pl, hcs, hb, hl, hm, hmm, hx, hi⟩
  · exact ⟨_, 0, fun _ => ⟨0, 0, 0, .bool false, []⟩, h0, DS.nil _ _⟩
  · have hlm : len ≤ m := by rw [hmm]; split <;> omega
    have hC : Tryz.prog.cellsOf 33 = 4 := by kernel_rfl
    rw [hC] at hi
    have each : ∀ i, ∃ q : Dv, i < len → w.cell? (a.add (i * 4)) = some (.int .i64 q.k) ∧ w.cell? (a.add (i * 4 + 1)) = some (.int .i64 q.t) ∧ w.cell? (a.add (i * 4 + 2)) = some (.int .i64 q.a) ∧ w.cell? (a.add (i * 4 + 3)) = some q.u ∧ AS w q.u q.l := by
      intro i
      by_cases hil : i < len
      · obtain ⟨cs', hc, ht⟩ := hi i (by omega)
        obtain ⟨q, rfl, h1⟩ := open_do ht
        obtain ⟨_, _, hat⟩ := World.cells?_some hc
        have a0 := hat 0 (by decide)
        have a1 := hat 1 (by decide)
        have a2 := hat 2 (by decide)
        have a3 := hat 3 (by decide)
        rw [add_add] at a0 a1 a2 a3
        exact ⟨q, fun _ => ⟨by simpa using a0, by simpa using a1, by simpa using a2, by simpa using a3, h1⟩⟩
      · exact ⟨⟨0, 0, 0, .bool false, []⟩, fun hh => absurd hh hil⟩
    obtain ⟨q, hq⟩ : ∃ q : Nat → Dv, ∀ i, i < len → w.cell? (a.add (i * 4)) = some (.int .i64 (q i).k) ∧ w.cell? (a.add (i * 4 + 1)) = some (.int .i64 (q i).t) ∧ w.cell? (a.add (i * 4 + 2)) = some (.int .i64 (q i).a) ∧ w.cell? (a.add (i * 4 + 3)) = some (q i).u ∧ AS w (q i).u (q i).l :=
      ⟨fun i => Classical.choose (each i), fun i => Classical.choose_spec (each i)⟩
    refine ⟨_, len, q, hcs, ⟨some a, cap, rfl, hl, hm, fun hp => ?_⟩⟩
    have hc0 := (hq 0 hp).1
    obtain ⟨b, off, s⟩ := a
    have hsp : s = none := by simpa [Addr.add] using World.cell?_spot hc0
    subst hsp
    refine ⟨b, off, rfl, fun i hi' => ?_⟩
    obtain ⟨b0, b1, b2, b3, b4⟩ := hq i hi'
    rw [Addr.add_lit] at b0 b1 b2 b3
    exact ⟨b0, by rw [← Nat.add_assoc] at b1; exact b1, by rw [← Nat.add_assoc] at b2; exact b2, by rw [← Nat.add_assoc] at b3; exact b3, b4⟩
/-- one task's cells, with their ranges -/
theorem row_cellsR {fs : Array Field} {e : TypeId} (he : Tryz.prog.underlying e = some (.struct fs)) (hs : fs.size = 8) (hone : oneCellFields Tryz.prog fs = true) (hty : ∀ (j : Nat) (f : Field), fs[j]? = some f → Tryz.prog.underlying f.type = some (.int .i64))
    {n : Nat} {cs : List Value} {x : DataW H × List MemPlace} (h : DataW.trod enc Tryz.prog w 0 spare held n e cs = some x) : ∀ j, j < 8 → ∃ z : Int, cs[j]? = some (.int .i64 z) ∧ (Lit.int .i64 z).wf = true := by
  intro j hj
  obtain ⟨xs, k, hn, _, hlen, hxs, hf⟩ := DataW.trod_struct he h
  have hfj : fs[j]? = some (fs[j]'(by omega)) := Array.getElem?_eq_getElem (by omega)
  obtain ⟨ho, hk⟩ := hone_of hone j _ hfj
  have h1 := hf j _ hfj
  rw [ho, hk, List.getElem?_eq_getElem (by omega)] at h1
  obtain ⟨z, hz, _, hw⟩ := DataW.trod_int (hty j _ hfj) h1
  refine ⟨z, ?_, hw⟩
  have h2 : ((cs.drop j).take 1)[0]? = some (.int .i64 z) := by rw [hz]; rfl
  rw [List.getElem?_take, if_pos (by omega), List.getElem?_drop] at h2
  simpa using h2
theorem open_tasksR {fuel : Nat} {cs : List Value} {x : DataW H × List MemPlace} (h : DataW.trod enc Tryz.prog w 0 spare held fuel 22 cs = some x) :
    ∃ v n z, cs = [v] ∧ St.TK w v n z ∧ ∀ i j, (Lit.int .i64 (z i j)).wf = true := by
  rcases open_slice Tryz.underlying22 h with ⟨h0, _⟩ | ⟨a, len, cap, m, n, D, Pl, hcs, hb, hl, hm, hmm, _, hi⟩
  · exact ⟨_, 0, fun _ _ => 0, h0, St.TK.nil w _, fun _ _ => (by decide : (Lit.int .i64 0).wf = true)⟩
  · have hlm : len ≤ m := by rw [hmm]; split <;> omega
    have hC : Tryz.prog.cellsOf 55 = 8 := by kernel_rfl
    have hz : ∀ i j, ∃ z : Int, (i < len → j < 8 → w.cell? (a.add (i * 8 + j)) = some (.int .i64 z)) ∧ (Lit.int .i64 z).wf = true := by
      intro i j
      by_cases hij : i < len ∧ j < 8
      · obtain ⟨cs', hc, ht'⟩ := hi i (by omega)
        rw [hC] at hc
        obtain ⟨z, hz, hw⟩ := row_cellsR Tryz.underlying55 rfl (by kernel_rfl) (fun j f hj => by
          match j, hj with
          | 0, hj | 1, hj | 2, hj | 3, hj | 4, hj | 5, hj | 6, hj | 7, hj => injection hj with hj; subst hj; exact Tryz.underlying3) ht' j hij.2
        obtain ⟨_, _, hat⟩ := World.cells?_some hc
        refine ⟨z, fun _ _ => ?_, hw⟩
        have := hat j hij.2
        rw [add_add] at this
        rw [this, hz]
      · exact ⟨0, fun h1 h2 => (hij ⟨h1, h2⟩).elim, by decide⟩
    obtain ⟨z, hzz⟩ : ∃ z : Nat → Nat → Int, ∀ i j, (i < len → j < 8 → w.cell? (a.add (i * 8 + j)) = some (.int .i64 (z i j))) ∧ (Lit.int .i64 (z i j)).wf = true := ⟨fun i j => Classical.choose (hz i j), fun i j => Classical.choose_spec (hz i j)⟩
    refine ⟨_, len, z, hcs, ⟨some a, cap, rfl, hl, hm, (fun h => by cases h), fun h0 => ?_⟩, fun i j => (hzz i j).2⟩
    have hc0 := (hzz 0 0).1 h0 (by omega)
    obtain ⟨b, off, s⟩ := a
    have hsp : s = none := by simpa [Addr.add] using World.cell?_spot hc0
    subst hsp
    refine ⟨b, off, rfl, fun i h1 j h2 => ?_⟩
    have := (hzz i j).1 h1 h2
    rw [Addr.add_lit, ← Nat.add_assoc] at this
    exact this
end
end Go.Proofs.YtkkmfpllgjoceaaGreat.Ro
