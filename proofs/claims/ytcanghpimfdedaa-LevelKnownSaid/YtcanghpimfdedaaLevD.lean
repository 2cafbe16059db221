/- LevelTells and LevelHighest. -/
import Derived.Test.YtcanghpimfdedaaLevC
namespace Go.Proofs.Ytcanghpimfdedaa
open Go.RowKit Lv
set_option linter.unusedVariables false

set_option maxHeartbeats 1000000 in
theorem tells_any {w : World} {v : Value} {n : Nat} {z : Nat → Nat → Int} (h : TK w v n z) (i r : Int) : Calls Try.prog 3 #[v, .int .i64 i, .int .i64 r] w (TrueB w) := by
  obtain ⟨a, cap, rfl, hn1, hn2⟩ := h.slice
  obtain ⟨m, hm⟩ : ∃ m : Nat, m = min n 50 := ⟨_, rfl⟩
  have hmin : (if (50 : Int) < (n : Int) then 50 else (n : Int)) = (m : Int) := by split <;> omega
  have HT := Lib.hid (TK.take h (j := m) (by omega))
  have hmc : m ≤ cap := by omega
  have hm5 : m ≤ 1000000 := by omega
  clear hm h
  go_enter Try.func3, Try.ntmps3
  go_wp2_with fail
  refine (level_any HT.out hm5 i).mono ?_
  rintro e w1 ⟨rfl, hb⟩
  have HT1 := Lib.hid (HT.out.below hb); have HB1 := Lib.hid hb
  clear hb HT
  go_wp2_with fail
  refine (rlevel_any HT1.out hm5 i).mono ?_
  rintro e w2 ⟨rfl, hb⟩
  have HT2 := Lib.hid (HT1.out.below hb); have HB2 := Lib.hid (chn HB1.out hb)
  clear hb HT1 HB1
  generalize lev m (dl z) i = l
  go_wp2_with fail
  refine (uses_any HT2.out i r).mono ?_
  rintro e w3 ⟨rfl, rfl⟩
  go_wp2_with fail
  refine (ruses_any HT2.out i r).mono ?_
  rintro e w3 ⟨rfl, rfl⟩
  generalize us m (lo z) r i = l2
  go_wp2_with fail
  refine (ceil_any HT2.out hm5 r).mono ?_
  rintro e w3 ⟨rfl, hb⟩
  have HT3 := Lib.hid (HT2.out.below hb); have HB3 := Lib.hid (chn HB2.out hb)
  clear hb HT2 HB2
  go_wp2_with fail
  refine (rceil_any HT3.out hm5 r).mono ?_
  rintro e w4 ⟨rfl, hb⟩
  have HB4 := Lib.hid (chn HB3.out hb)
  clear hb HT3 HB3
  generalize ceil m (dl z) (lo z) r = l3
  go_wp2_with fail
  refine (works_any w4).mono ?_
  rintro e w5 ⟨rfl, hb⟩
  have HB5 := Lib.hid (chn HB4.out hb)
  clear hb HB4
  go_wp2_with fail
  go_ret
  exact ⟨rfl, HB5.out⟩
theorem IS.drewN {w : World} {v : Value} {xs : List Int} (h : IS w v xs) (m : Nat) : IS (w.drewN m) v xs := h
set_option maxHeartbeats 1000000 in
theorem highs_any {w : World} {v x : Value} {n : Nat} {z : Nat → Nat → Int} {rs : List Int} (h : TK w v n z) (hx : IS w x rs) : Calls Try.prog 4 #[v, x] w (TrueB w) := by
  obtain ⟨a, cap, rfl, hn1, hn2⟩ := h.slice
  obtain ⟨b, cbp, rfl, hk1, hk2⟩ := hx.slice
  obtain ⟨m, hm⟩ : ∃ m : Nat, m = min n 50 := ⟨_, rfl⟩
  have hmin : (if (50 : Int) < (n : Int) then 50 else (n : Int)) = (m : Int) := by split <;> omega
  obtain ⟨k, hk⟩ : ∃ k : Nat, k = rs.length := ⟨_, rfl⟩
  rw [← hk] at hk1 hx ⊢
  obtain ⟨q, hq⟩ : ∃ q : Nat, q = min k 20 := ⟨_, rfl⟩
  have hmin2 : (if (20 : Int) < (k : Int) then 20 else (k : Int)) = (q : Int) := by split <;> omega
  have HT := Lib.hid (TK.take h (j := m) (by omega))
  have HX := Lib.hid (IS.take hx (j := q) (by omega))
  generalize rs.take q = rq at *
  have hmc : m ≤ cap := by omega
  have hm5 : m ≤ 1000000 := by omega
  have hqc : q ≤ cbp := by omega
  clear hm h hx hq hk
  go_enter Try.func4, Try.ntmps4
  go_wp2_with fail
  go_quiet (fail)
  go_wp2_with fail
  refine (high_any (TK.drewN HT.out _) (IS.drewN HX.out _) hm5).mono ?_
  rintro e w1 ⟨rfl, hb⟩
  have HB1 : Hid (Below w.heap.size w w1) := (below_drewN (Below.refl _ w) _).trans hb
  have HT1 := Lib.hid (HT.out.below HB1.out); have HX1 := Lib.hid (HX.out.below HB1.out)
  clear hb HT HX
  go_wp2_with fail
  refine (rhigh_any HT1.out HX1.out hm5).mono ?_
  rintro e w2 ⟨rfl, hb⟩
  have HB2 := Lib.hid (chn HB1.out hb)
  clear hb HB1 HT1 HX1
  generalize hi (ceil m (dl z) (lo z)) rq rq.length = l
  go_wp2_with fail
  refine (works_any w2).mono ?_
  rintro e w5 ⟨rfl, hb⟩
  have HB5 := Lib.hid (chn HB2.out hb)
  clear hb HB2
  go_wp2_with fail
  go_ret
  exact ⟨rfl, HB5.out⟩
end Go.Proofs.Ytcanghpimfdedaa
