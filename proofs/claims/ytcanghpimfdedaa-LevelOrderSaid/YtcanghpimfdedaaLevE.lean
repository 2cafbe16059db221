/- LevelOrder and LevelCeilings. -/
import Derived.Test.YtcanghpimfdedaaLevD
namespace Go.Proofs.Ytcanghpimfdedaa
open Go.RowKit Lv
set_option linter.unusedVariables false

/-- a number, brought to be one of n -/
def bring (a n : Int) : Int := if a.tmod n < 0 then a.tmod n + n else a.tmod n
theorem bring_range (a : Int) {n : Int} (h : 0 < n) : 0 ≤ bring a n ∧ bring a n < n := by
  unfold bring
  have h1 := Int.lt_tmod_of_pos a h
  have h2 := Int.tmod_lt_of_pos a h
  split <;> omega
set_option maxHeartbeats 400000 in
theorem bring_any (a n : Int) (w : World) (h : 1 ≤ n) (hn : n ≤ 9007199254740992) : Calls Try.prog 17 #[.int .i64 a, .int .i64 n] w (fun e w' => e = .returned (.int .i64 (bring a n)) ∧ w' = w) := by
  unfold bring
  have h1 := Int.lt_tmod_of_pos a (by omega : 0 < n)
  have h2 := Int.tmod_lt_of_pos a (by omega : 0 < n)
  have hz : (n == 0) = false := by simp; omega
  have hw64 : wrap64 (a.tmod n) = a.tmod n := by unfold wrap64; omega
  by_cases hr : a.tmod n < 0
  · rw [if_pos hr]
    have hd : decide (a.tmod n < 0) = true := by simpa using hr
    have hw2 : wrap64 (a.tmod n + n) = a.tmod n + n := by unfold wrap64; omega
    go_enter Try.func17, Try.ntmps17
    go_wp2
    go_ret
    exact ⟨rfl, rfl⟩
  · rw [if_neg hr]
    have hd : decide (a.tmod n < 0) = false := by simpa using hr
    go_enter Try.func17, Try.ntmps17
    go_wp2
    go_ret
    exact ⟨rfl, rfl⟩
theorem bring_nat (a : Int) {n : Nat} (h : 0 < n) : ∃ j : Nat, bring a n = j ∧ j < n := by
  have := bring_range a (n := n) (by omega)
  exact ⟨(bring a n).toNat, by omega, by omega⟩
/-- how two levels compare -/
theorem lev_cmp {n : Nat} {D : Nat → Int} {i j : Nat} (hi : i < n) (hj : j < n) : (D i < D j ∧ lev n D j < lev n D i) ∨ (D i = D j ∧ lev n D i = lev n D j) ∨ (D j < D i ∧ lev n D i < lev n D j) := by
  rw [lev_at hi, lev_at hj]
  rcases Int.lt_trichotomy (D i) (D j) with h | h | h
  · left; have := lc_less (D := D) (x := D i) (j := j) h hj; omega
  · right; left; rw [h]; simp
  · right; right; have := lc_less (D := D) (x := D j) (j := i) h hi; omega
theorem lev_pos {n : Nat} {D : Nat → Int} {i : Nat} (hi : i < n) : 1 ≤ lev n D i ∧ lev n D i ≤ n := by
  have := lev_range n D i
  have h2 := lev_at (D := D) hi
  have := lc_ge D (D i) n
  omega
set_option maxHeartbeats 2000000 in
theorem order_any {w : World} {v : Value} {n : Nat} {z : Nat → Nat → Int} (h : TK w v n z) (i k : Int) : Calls Try.prog 5 #[v, .int .i64 i, .int .i64 k] w (TrueB w) := by
  obtain ⟨a, cap, rfl, hn1, hn2⟩ := h.slice
  obtain ⟨m, hm⟩ : ∃ m : Nat, m = min n 50 := ⟨_, rfl⟩
  have hmin : (if (50 : Int) < (n : Int) then 50 else (n : Int)) = (m : Int) := by split <;> omega
  have HT := Lib.hid (TK.take h (j := m) (by omega))
  have hmc : m ≤ cap := by omega
  have hm5 : m ≤ 1000000 := by omega
  clear hm h
  have HW := Lib.hid (works_any w)
  cases h0 : decide (m = 0) with
  | true =>
    have hl : lev m (dl z) i = 0 := lev_none (by have := of_decide_eq_true h0; omega)
    have hz : ((m : Int) == 0) = true := by have := of_decide_eq_true h0; simp; omega
    have HL := Lib.hid hl
    clear hl h0
    go_enter Try.func5, Try.ntmps5
    go_wp2_with fail
    refine HW.out.mono ?_
    rintro e w1 ⟨rfl, hb⟩
    have HT1 := Lib.hid (HT.out.below hb); have HB1 := Lib.hid hb
    clear hb HT
    go_wp2_with fail
    refine (level_fit HL.out HT1.out hm5).mono ?_
    rintro e w2 ⟨rfl, hb⟩
    have HB2 := Lib.hid (chn HB1.out hb)
    clear hb
    go_wp2_with fail
    go_ret
    exact ⟨rfl, HB2.out⟩
  | false =>
    have hm0 : 0 < m := by have := of_decide_eq_false h0; omega
    have hz : ((m : Int) == 0) = false := by simp; omega
    obtain ⟨p, hp, hpm⟩ := bring_nat i hm0
    obtain ⟨q, hq, hqm⟩ := bring_nat k hm0
    have HP := Lib.hid hp; have HQ := Lib.hid hq
    have hc := lev_cmp (D := dl z) hpm hqm
    have h1 := lev_pos (D := dl z) hpm
    obtain ⟨x, hx⟩ : ∃ x, lev m (dl z) p = x := ⟨_, rfl⟩
    obtain ⟨y, hy⟩ : ∃ y, lev m (dl z) q = y := ⟨_, rfl⟩
    rw [hx] at hc h1
    rw [hy] at hc
    have HX := Lib.hid hx; have HY := Lib.hid hy
    unfold dl at hc
    have hx1 : decide (x < 1) = false := by simp; omega
    have hx2 : decide ((m : Int) < x) = false := by simp; omega
    obtain ⟨t, t2, ha, hb, hc, hd⟩ : ∃ t t2 : Bool, Hid (decide (y < x) = t) ∧ Hid (decide (z p 1 < z q 1) = t) ∧ Hid ((x == y) = t2) ∧ Hid ((z p 1 == z q 1) = t2) := by
      rcases hc with ⟨h1, h2⟩ | ⟨h1, h2⟩ | ⟨h1, h2⟩
      · exact ⟨true, false, by simpa [Hid] using h2, by simpa [Hid] using h1, by simp [Hid]; omega, by simp [Hid]; omega⟩
      · exact ⟨false, true, by simp [Hid]; omega, by simp [Hid]; omega, by simpa [Hid] using h2, by simpa [Hid] using h1⟩
      · exact ⟨false, false, by simp [Hid]; omega, by simp [Hid]; omega, by simp [Hid]; omega, by simp [Hid]; omega⟩
    clear h0 hp hq hx hy h1
    go_enter Try.func5, Try.ntmps5
    go_wp2_with fail
    refine HW.out.mono ?_
    rintro e w1 ⟨rfl, hb1⟩
    have HT1 := Lib.hid (HT.out.below hb1); have HB1 := Lib.hid hb1
    clear hb1 HT
    go_wp2_with fail
    refine (bring_any i m _ (by omega) (by omega)).mono ?_
    rintro e w1' ⟨rfl, rfl⟩
    rw [HP.out]
    go_wp2_with fail
    refine (bring_any k m _ (by omega) (by omega)).mono ?_
    rintro e w1'' ⟨rfl, rfl⟩
    rw [HQ.out]
    go_wp2_with fail
    refine (level_fit HX.out HT1.out hm5).mono ?_
    rintro e w2 ⟨rfl, hb1⟩
    have HT2 := Lib.hid (HT1.out.below hb1); have HB2 := Lib.hid (chn HB1.out hb1)
    clear hb1 HT1 HB1
    go_wp2_with fail
    refine (level_fit HY.out HT2.out hm5).mono ?_
    rintro e w3 ⟨rfl, hb1⟩
    have HT3 := Lib.hid (HT2.out.below hb1); have HB3 := Lib.hid (chn HB2.out hb1)
    clear hb1 HT2 HB2
    obtain ⟨b, off, rfl, c, d⟩ := HT3.out.at2 hpm hqm
    obtain ⟨_, c1, _⟩ := c
    obtain ⟨_, d1, _⟩ := d
    have ha := ha.out; have hb := hb.out; have hc := hc.out; have hd := hd.out
    go_wp2_with fail
    cases t <;> cases t2
    all_goals
      go_quiet (fail)
      go_wp2_with fail
      go_ret
      exact ⟨rfl, below_drewN HB3.out _⟩
end Go.Proofs.Ytcanghpimfdedaa
