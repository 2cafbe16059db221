/- The gate's Test and Join. -/
import Derived.Test.YtbdiekolkniajaaGatI
namespace Go.Proofs.Ytbdiekolkniajaa
open Go.RowKit Tk De Dl Lo Gt
set_option linter.unusedVariables false

def CBo (w : World) (b : Nat) (pv ov : Value) : Prop := w.heap[b]? = some (.cells #[pv, ov] 25 (0, 0))
theorem CBo.below {w w' : World} {b : Nat} {pv ov : Value} (h : CBo w b pv ov) (q : Below w.heap.size w w') : CBo w' b pv ov := (q.block _ (lt_of_block h)).trans h
theorem CBo.cells {w : World} {b : Nat} {pv ov : Value} (h : CBo w b pv ov) : w.cell? ⟨b, 0, none⟩ = some pv ∧ w.cell? ⟨b, 1, none⟩ = some ov := ⟨cell_of_row _ _ 0 _ _ _ h, cell_of_row _ _ 1 _ _ _ h⟩
def kE (ps : List Pn) (ins : List Bool) : Int := if cMay ps then (if ins.length = ps.length then 0 else 2) else 50
def kpE (ps : List Pn) (ins : List Bool) (part : Int) : Int := if cMay ps then (if ins.length = ps.length then (if 0 ≤ part ∧ part < ins.length then 0 else 9) else 2) else 50
theorem gcheck_any {w : World} {v u : Value} {ps : List Pn} {ins : List Bool} {oa : Option Addr} {oc : Nat} (h : GCo w v ps oa oc) (hb : BV w u ins) : Calls Try.prog 14 #[v, u] w (YI (kE ps ins) w) := by
  obtain ⟨r, hr⟩ : ∃ r, kE ps ins = r := ⟨_, rfl⟩
  have HR := Lib.hid hr
  rw [hr]
  have HK := Lib.hid (fun w' (q : Below w.heap.size w w') => ccheck_any (h.below q))
  obtain ⟨a, cap, rfl, _, _, _⟩ := h
  obtain ⟨bp, bc, rfl, hb1, hb2⟩ := hb.slice
  unfold kE at HR
  unfold cE at HK
  generalize cMay ps = m at *
  have hmx : ins.length ≤ maxLen := by omega
  generalize ins.length = b0 at *
  generalize ps.length = n at *
  have HC : Hid (CBo (w.alloc (.cells #[.slice a n cap, .slice oa 0 oc] 25)) w.heap.size (.slice a n cap) (.slice oa 0 oc)) := heap_alloc_new w _
  have HA := Lib.hid (below_alloc w (.cells #[.slice a n cap, .slice oa 0 oc] 25))
  clear hb hb1 hb2 hr
  cases m with
  | false =>
    have HR2 : Hid (r = 50) := by have := HR.out; rw [if_neg (by simp)] at this; exact this.symm
    go_enter Try.func14, Try.ntmps14
    go_wp2_with fail
    refine (HK.out _ HA.out).mono ?_
    rintro e w1 ⟨rfl, hb⟩
    have HB := Lib.hid (chn HA.out hb)
    clear hb
    go_wp2_with fail
    go_ret
    exact ⟨by rw [HR2.out]; rfl, HB.out⟩
  | true =>
    have HRT : Hid ((if b0 = n then (0 : Int) else 2) = r) := by have := HR.out; rw [if_pos rfl] at this; exact this
    clear HR
    go_enter Try.func14, Try.ntmps14
    go_wp2_with fail
    refine (HK.out _ HA.out).mono ?_
    rintro e w1 ⟨rfl, hb⟩
    have HB := Lib.hid (chn HA.out hb)
    obtain ⟨c0, c1⟩ := (HC.out.below hb).cells
    clear hb
    by_cases he : b0 = n
    · have HR2 : Hid (r = 0) := by have := HRT.out; rw [if_pos he] at this; exact this.symm
      have hd : ((b0 : Int) == (n : Int)) = true := by simp; omega
      have hd2 : (b0 == n) = true := by simp; exact he
      clear HRT
      go_wp2_with fail
      go_ret
      exact ⟨by rw [HR2.out]; rfl, HB.out⟩
    · have HR2 : Hid (r = 2) := by have := HRT.out; rw [if_neg he] at this; exact this.symm
      have hd : ((b0 : Int) == (n : Int)) = false := by simp; omega
      have hd2 : (b0 == n) = false := by simp; exact he
      clear HRT
      go_wp2_with fail
      go_ret
      exact ⟨by rw [HR2.out]; rfl, HB.out⟩
theorem per_pos {ps : List Pn} (h : cMay ps = true) : ps.length ≤ 4 ∧ 1 ≤ ps.length ∧ ∀ x ∈ ps, 1 ≤ x.per := by
  unfold cMay wi at h
  simp only [Bool.and_eq_true, decide_eq_true_eq, List.all_eq_true] at h
  refine ⟨by omega, by omega, fun x hx => ?_⟩
  have := h.2 x hx
  unfold cPart wi at this
  simp only [Bool.and_eq_true, decide_eq_true_eq] at this
  omega
theorem three_or (ps : List Pn) (ins : List Bool) : (cMay ps = true ∧ ins.length = ps.length ∧ kE ps ins = 0 ∧ gtR ps ins = gtIn (subL ps ins) (idxL 0 ins)) ∨ (kE ps ins ≠ 0 ∧ gtR ps ins = (0, 0, kE ps ins)) := by
  unfold kE gtR
  by_cases h : cMay ps = true
  · by_cases h2 : ins.length = ps.length
    · left; exact ⟨h, h2, by rw [if_pos h, if_pos h2], by rw [if_pos h, if_pos h2]⟩
    · right; rw [if_pos h, if_neg h2, if_pos h, if_neg h2]; exact ⟨by decide, rfl⟩
  · right; rw [if_neg h, if_neg h]; exact ⟨by decide, rfl⟩
set_option maxHeartbeats 1000000 in
theorem GTest_o {w : World} {v u : Value} {ps : List Pn} {ins : List Bool} {oa : Option Addr} {oc : Nat} (h : GCo w v ps oa oc) (hb : BV w u ins) : Calls Try.prog 7 #[v, u] w (ThreeR (gtR ps ins) w) := by
  have HK := Lib.hid (fun w' (q : Below w.heap.size w w') => gcheck_any (h.below q) (hb.below q))
  have HT := Lib.hid (fun (a : cMay ps = true) (b : ins.length = ps.length) w' (q : Below w.heap.size w w') v (hp : PS w' v ps) => tested_any hp (hb.below q) b (per_pos a).1 (per_pos a).2.2)
  have H3 := Lib.hid (three_or ps ins)
  obtain ⟨a, cap, rfl, hp, _, _⟩ := h
  have HP := Lib.hid hp
  obtain ⟨bp, bc, rfl, hb1, hb2⟩ := hb.slice
  generalize kE ps ins = r at *
  generalize gtR ps ins = R at *
  have hb3 := hb1
  generalize gtIn (subL ps ins) (idxL 0 ins) = R2 at *
  generalize cMay ps = m at *
  generalize ins.length = b0 at *
  generalize ps.length = n at *
  have HC : Hid (CBo (w.alloc (.cells #[.slice a n cap, .slice oa 0 oc] 25)) w.heap.size (.slice a n cap) (.slice oa 0 oc)) := heap_alloc_new w _
  have HA := Lib.hid (below_alloc w (.cells #[.slice a n cap, .slice oa 0 oc] 25))
  clear hb hb1 hb2 hb3 hp
  rcases H3.out with ⟨hm, hl, rfl, rfl⟩ | ⟨hz, rfl⟩
  · have HM := Lib.hid hm; have HL := Lib.hid hl
    clear hm hl H3
    go_enter Try.func7, Try.ntmps7
    go_wp2_with fail
    refine (HK.out _ HA.out).mono ?_
    rintro e w1 ⟨rfl, hb⟩
    have HB := Lib.hid (chn HA.out hb)
    obtain ⟨c0, c1⟩ := (HC.out.below hb).cells
    clear hb
    go_wp2_with fail
    refine (HT.out HM.out HL.out _ HB.out _ (HP.out.below HB.out)).mono ?_
    rintro e w2 ⟨rfl, hb⟩
    have HB2 := Lib.hid (chn HB.out hb)
    clear hb
    go_wp2_with fail
    go_ret3
    exact ⟨rfl, HB2.out⟩
  · have hz2 : (r == 0) = false := by simp; exact hz
    clear H3
    go_enter Try.func7, Try.ntmps7
    go_wp2_with fail
    refine (HK.out _ HA.out).mono ?_
    rintro e w1 ⟨rfl, hb⟩
    have HB := Lib.hid (chn HA.out hb)
    clear hb
    go_wp2_with fail
    go_ret3
    exact ⟨rfl, HB.out⟩
theorem kp_or (ps : List Pn) (ins : List Bool) (part : Int) : (kE ps ins ≠ 0 ∧ kpE ps ins part = kE ps ins) ∨ (kE ps ins = 0 ∧ cMay ps = true ∧ ins.length = ps.length ∧ ((kpE ps ins part = 0 ∧ 0 ≤ part ∧ part < ps.length) ∨ (kpE ps ins part = 9 ∧ part < 0) ∨ (kpE ps ins part = 9 ∧ 0 ≤ part ∧ (ps.length : Int) ≤ part))) := by
  unfold kE kpE
  by_cases h : cMay ps = true
  · by_cases h2 : ins.length = ps.length
    · right
      rw [if_pos h, if_pos h2, if_pos h, if_pos h2]
      refine ⟨rfl, h, h2, ?_⟩
      by_cases h3 : 0 ≤ part ∧ part < ins.length
      · rw [if_pos h3]; left; exact ⟨rfl, by omega, by omega⟩
      · rw [if_neg h3]
        by_cases h4 : part < 0
        · right; left; exact ⟨rfl, h4⟩
        · right; right; exact ⟨rfl, by omega, by omega⟩
    · left; rw [if_pos h, if_neg h2, if_pos h, if_neg h2]; exact ⟨by decide, rfl⟩
  · left; rw [if_neg h, if_neg h]; exact ⟨by decide, rfl⟩
set_option maxHeartbeats 1000000 in
theorem gcheckPart_any {w : World} {v u : Value} {ps : List Pn} {ins : List Bool} {oa : Option Addr} {oc : Nat} (h : GCo w v ps oa oc) (hb : BV w u ins) (part : Int) : Calls Try.prog 16 #[v, u, .int .i64 part] w (YI (kpE ps ins part) w) := by
  have HK := Lib.hid (fun w' (q : Below w.heap.size w w') => gcheck_any (h.below q) (hb.below q))
  have H3 := kp_or ps ins part
  obtain ⟨a, cap, rfl, hp, _, _⟩ := h
  obtain ⟨bp, bc, rfl, hb1, hb2⟩ := hb.slice
  have hn4 : cMay ps = true → ps.length ≤ 4 := fun h => (per_pos h).1
  generalize kE ps ins = r at *
  generalize kpE ps ins part = R at *
  generalize cMay ps = m at *
  generalize ins.length = b0 at *
  generalize ps.length = n at *
  have HC : Hid (CBo (w.alloc (.cells #[.slice a n cap, .slice oa 0 oc] 25)) w.heap.size (.slice a n cap) (.slice oa 0 oc)) := heap_alloc_new w _
  have HA := Lib.hid (below_alloc w (.cells #[.slice a n cap, .slice oa 0 oc] 25))
  clear hb hb1 hb2 hp
  rcases H3 with ⟨hz, rfl⟩ | ⟨rfl, hm, hl, H3⟩
  · have hz2 : (R == 0) = false := by simp; exact hz
    clear hn4
    go_enter Try.func16, Try.ntmps16
    go_wp2_with fail
    refine (HK.out _ HA.out).mono ?_
    rintro e w1 ⟨rfl, hb⟩
    have HB := Lib.hid (chn HA.out hb)
    clear hb
    go_wp2_with fail
    go_ret
    exact ⟨rfl, HB.out⟩
  · have hn := hn4 hm
    clear hn4 hm hl
    rcases H3 with ⟨rfl, h1, h2⟩ | ⟨rfl, h1⟩ | ⟨rfl, h1, h2⟩
    · have d1 : decide (part < 0) = false := by simp; omega
      have d2 : decide (part ≥ (n : Int)) = false := by simp; omega
      clear h1 h2
      go_enter Try.func16, Try.ntmps16
      go_wp2_with fail
      refine (HK.out _ HA.out).mono ?_
      rintro e w1 ⟨rfl, hb⟩
      have HB := Lib.hid (chn HA.out hb)
      obtain ⟨c0, c1⟩ := (HC.out.below hb).cells
      clear hb
      go_wp2_with fail
      go_ret
      exact ⟨rfl, HB.out⟩
    · have d1 : decide (part < 0) = true := by simp; omega
      clear h1
      go_enter Try.func16, Try.ntmps16
      go_wp2_with fail
      refine (HK.out _ HA.out).mono ?_
      rintro e w1 ⟨rfl, hb⟩
      have HB := Lib.hid (chn HA.out hb)
      obtain ⟨c0, c1⟩ := (HC.out.below hb).cells
      clear hb
      go_wp2_with fail
      go_ret
      exact ⟨rfl, HB.out⟩
    · have d1 : decide (part < 0) = false := by simp; omega
      have d2 : decide (part ≥ (n : Int)) = true := by simp; omega
      clear h1 h2
      go_enter Try.func16, Try.ntmps16
      go_wp2_with fail
      refine (HK.out _ HA.out).mono ?_
      rintro e w1 ⟨rfl, hb⟩
      have HB := Lib.hid (chn HA.out hb)
      obtain ⟨c0, c1⟩ := (HC.out.below hb).cells
      clear hb
      go_wp2_with fail
      go_ret
      exact ⟨rfl, HB.out⟩
theorem BV.rd {w : World} {a : Option Addr} {n c : Nat} {b : List Bool} (h : BV w (.slice a n c) b) : Rd w a (b.map Value.bool) ∧ (a = none → n = 0) := by
  obtain ⟨a', c', e, h1, h2, h3⟩ := h
  obtain ⟨rfl, rfl, rfl⟩ : a = a' ∧ n = b.length ∧ c = c' := by simpa using e
  refine ⟨fun j v hj => ?_, fun ha => ?_⟩
  · rw [List.getElem?_map] at hj
    obtain ⟨x, hx, rfl⟩ := Option.map_eq_some_iff.1 hj
    have hlt := (List.getElem?_eq_some_iff.1 hx).1
    obtain ⟨g, off, e2, hc⟩ := h3 (by omega)
    refine ⟨g, off, e2, ?_⟩
    have := hc j hlt
    rw [show b.getD j false = x by simp [List.getD, hx]] at this
    exact this
  · rcases Nat.eq_zero_or_pos b.length with h0 | h0
    · exact h0
    · obtain ⟨g, off, e2, _⟩ := h3 h0
      rw [ha] at e2
      cases e2
theorem ones_b (b : List Bool) : ∀ u ∈ b.map Value.bool, u.oneCell' = true := fun u hu => by obtain ⟨x, _, rfl⟩ := List.mem_map.1 hu; rfl
theorem bv_of {W : World} {g : Nat} {b : List Bool} (h : W.heap[g]? = some (.cells (b.map Value.bool).toArray 4 (0, 0))) (hb : b.length ≤ maxLen) : BV W (.slice (some ⟨g, 0, none⟩) b.length b.length) b :=
  ⟨_, _, rfl, Nat.le_refl _, hb, fun _ => ⟨g, 0, rfl, fun i hi => by
    rw [Nat.zero_add, cell_of_row _ _ _ _ _ _ h, List.getElem?_toArray, List.getElem?_map]
    simp [List.getD, List.getElem?_eq_getElem hi]⟩⟩
theorem bv_set {W : World} {g k : Nat} {b : List Bool} (h : W.heap[g]? = some (.cells (b.map Value.bool).toArray 4 (0, 0))) (hb : b.length ≤ maxLen) (x : Bool) : BV (W.setCell ⟨g, k, none⟩ (.bool x)) (.slice (some ⟨g, 0, none⟩) b.length b.length) (b.set k x) := by
  have h2 := heap_setCell_same W g k _ _ (.bool x) h
  have e : (b.map Value.bool).toArray.setIfInBounds k (.bool x) = ((b.set k x).map Value.bool).toArray := by simp
  rw [e] at h2
  have := bv_of h2 (by rw [List.length_set]; exact hb)
  rw [List.length_set] at this
  exact this
theorem gj_yes {ps : List Pn} {ins : List Bool} {k : Nat} (h : cMay ps = true) (hl : ins.length = ps.length) (hk : k < ps.length) : gjR ps ins (k : Nat) = (gtIn (subL ps (ins.set k true)) (idxL 0 (ins.set k true))).2.2 := by
  unfold gjR
  rw [if_pos h, if_pos hl, if_pos ⟨by omega, by omega⟩]
  unfold gtR
  rw [if_pos h, Int.toNat_natCast, if_pos (by rw [List.length_set]; exact hl)]
theorem gj_no {ps : List Pn} {ins : List Bool} {part : Int} (h : kpE ps ins part ≠ 0) : gjR ps ins part = kpE ps ins part := by
  unfold kpE gjR at *
  by_cases h1 : cMay ps = true
  · by_cases h2 : ins.length = ps.length
    · rw [if_pos h1, if_pos h2] at *
      by_cases h3 : 0 ≤ part ∧ part < ins.length
      · rw [if_pos h3] at h; exact absurd rfl h
      · rw [if_neg h3, if_pos h1, if_pos h2, if_neg h3]
    · rw [if_pos h1, if_neg h2] at *; rw [if_pos h1, if_neg h2]
  · rw [if_neg h1] at *; rw [if_neg h1]
theorem kp_yes {ps : List Pn} {ins : List Bool} {part : Int} (h : kpE ps ins part = 0) : cMay ps = true ∧ ins.length = ps.length ∧ ∃ k : Nat, part = k ∧ k < ps.length := by
  unfold kpE at h
  by_cases h1 : cMay ps = true
  · by_cases h2 : ins.length = ps.length
    · rw [if_pos h1, if_pos h2] at h
      by_cases h3 : 0 ≤ part ∧ part < ins.length
      · obtain ⟨k, rfl⟩ := Int.eq_ofNat_of_zero_le h3.1
        exact ⟨h1, h2, k, rfl, by omega⟩
      · rw [if_neg h3] at h; exact absurd h (by decide)
    · rw [if_pos h1, if_neg h2] at h; exact absurd h (by decide)
  · rw [if_neg h1] at h; exact absurd h (by decide)
set_option maxHeartbeats 1000000 in
theorem GJoin_o {w : World} {v u : Value} {ps : List Pn} {ins : List Bool} {oa : Option Addr} {oc : Nat} (h : GCo w v ps oa oc) (hb : BV w u ins) (part : Int) : Calls Try.prog 11 #[v, u, .int .i64 part] w (YI (gjR ps ins part) w) := by
  have HK := Lib.hid (fun w' (q : Below w.heap.size w w') => gcheckPart_any (h.below q) (hb.below q) part)
  by_cases hz : kpE ps ins part = 0
  · obtain ⟨hm, hl, k, rfl, hk⟩ := kp_yes hz
    have HJ := Lib.hid (gj_yes hm hl hk)
    obtain ⟨hp4, _, hpp⟩ := per_pos hm
    rw [hz] at HK
    obtain ⟨a, cap, rfl, hp, _, _⟩ := h
    obtain ⟨bp, bc, rfl, hb1, hb2⟩ := hb.slice
    have HT := Lib.hid (fun w' v (hp : PS w' v ps) u (hb : BV w' u (ins.set k true)) => tested_any hp hb (by rw [List.length_set]; exact hl) hp4 hpp)
    have HP := Lib.hid hp
    have HBV := Lib.hid hb
    have HCP := Lib.hid (fun w' (q : Below w.heap.size w w') => copiedBl (cap := bc) (n := ins.length) (by omega) (by rw [List.length_map, Nat.mul_one]) (hb.below q).rd.1 (hb.below q).rd.2 (ones_b ins))
    have HST := Lib.hid (fun (W : World) (g : Nat) (h : W.heap[g]? = some (.cells ((ins.map Value.bool).set k (.bool true)).toArray 4 (0, 0))) => (show BV W (.slice (some ⟨g, 0, none⟩) ins.length ins.length) (ins.set k true) by
      have e : (ins.map Value.bool).set k (.bool true) = (ins.set k true).map Value.bool := by simp
      rw [e] at h
      have := bv_of h (by rw [List.length_set]; unfold maxLen; omega)
      rw [List.length_set] at this
      exact this))
    have hkI : (k : Int) < (ins.length : Int) := by omega
    have hkN : k < ins.length := by omega
    have HLN : Hid ((ins.map Value.bool).length = ins.length) := List.length_map _
    generalize gtIn (subL ps (ins.set k true)) (idxL 0 (ins.set k true)) = R at *
    generalize gjR ps ins (k : Nat) = r at *
    generalize hbm : ins.map Value.bool = bm at *
    generalize ins.length = b0 at *
    generalize ps.length = n at *
    have HC : Hid (CBo (w.alloc (.cells #[.slice a n cap, .slice oa 0 oc] 25)) w.heap.size (.slice a n cap) (.slice oa 0 oc)) := heap_alloc_new w _
    have HA := Lib.hid (below_alloc w (.cells #[.slice a n cap, .slice oa 0 oc] 25))
    have HBM := Lib.hid hbm
    obtain ⟨a1, b1, e1⟩ := R
    unfold CpP at HCP
    clear hb hb1 hb2 hp hz hm hl hk hp4 hpp hbm
    go_enter Try.func11, Try.ntmps11
    go_wp2_with fail
    refine (HK.out _ HA.out).mono ?_
    rintro e w1 ⟨rfl, hb⟩
    have HB := Lib.hid (chn HA.out hb)
    have HC1 := Lib.hid (HC.out.below hb)
    clear hb
    go_wp2_with fail
    refine (HCP.out _ HB.out).mono ?_
    rintro e w2 ⟨rfl, rfl⟩
    have hrow := heap_alloc_new w1 (.cells bm.toArray 4)
    have f0 : (w1.alloc (.cells bm.toArray 4)).frozen? ⟨w1.heap.size, k, none⟩ = false := frozen_of_row _ _ _ _ _ hrow
    have c0 : ∃ x, (w1.alloc (.cells bm.toArray 4)).cell? ⟨w1.heap.size, k, none⟩ = some x := by
      rw [cell_of_row _ _ _ _ _ _ hrow, List.getElem?_toArray]
      exact ⟨_, List.getElem?_eq_getElem (by rw [HLN.out]; exact hkN)⟩
    obtain ⟨x, c0⟩ := c0
    have HS3 := Lib.hid (HST.out (w1.alloc (.cells (bm.set k (.bool true)).toArray 4)) w1.heap.size (heap_alloc_new w1 _))
    have HC3 : Hid (CBo (w1.alloc (.cells (bm.set k (.bool true)).toArray 4)) w.heap.size (.slice a n cap) (.slice oa 0 oc)) := (Below.heap_alloc _ _ _ (lt_of_block HC1.out)).trans HC1.out
    have HB3 : Hid (Below w.heap.size w (w1.alloc (.cells (bm.set k (.bool true)).toArray 4))) := HB.out.alloc HB.out.size _
    obtain ⟨d0, d1⟩ := HC3.out.cells
    clear hrow HST HCP HK HC
    go_wp2_with fail
    refine (HT.out _ _ (HP.out.below HB3.out) _ HS3.out).mono ?_
    rintro e w2 ⟨rfl, hb⟩
    have HB4 := Lib.hid (chn HB3.out hb)
    clear hb
    go_wp2_with fail
    go_ret
    exact ⟨by rw [HJ.out]; rfl, HB4.out⟩
  · have hz2 : (kpE ps ins part == 0) = false := by simp; exact hz
    rw [gj_no hz]
    generalize kpE ps ins part = r at *
    obtain ⟨a, cap, rfl, hp, _, _⟩ := h
    obtain ⟨bp, bc, rfl, hb1, hb2⟩ := hb.slice
    generalize ins.length = b0 at *
    generalize ps.length = n at *
    have HA := Lib.hid (below_alloc w (.cells #[.slice a n cap, .slice oa 0 oc] 25))
    clear hb hb1 hb2 hp hz
    go_enter Try.func11, Try.ntmps11
    go_wp2_with fail
    refine (HK.out _ HA.out).mono ?_
    rintro e w1 ⟨rfl, hb⟩
    have HB := Lib.hid (chn HA.out hb)
    clear hb
    go_wp2_with fail
    go_ret
    exact ⟨rfl, HB.out⟩
end Go.Proofs.Ytbdiekolkniajaa
