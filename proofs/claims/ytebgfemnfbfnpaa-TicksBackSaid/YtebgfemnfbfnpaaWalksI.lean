/- TicksBack: what is added can be taken off again; a product, divided, is what it was made of. -/
import Derived.Test.YtebgfemnfbfnpaaWalksH
namespace Go.Proofs.Ytebgfemnfbfnpaa
open Go.RowKit Tk
set_option linter.unusedVariables false

set_option maxRecDepth 100000 in
set_option maxHeartbeats 1000000 in
theorem back_fit0 (a b A B : Int) (w : World) (la : -9223372036854775808 ≤ a) (lb : -9223372036854775808 ≤ b) (HA : Hid (a % 1099511627777 = A)) (HB : Hid (b % 1099511627777 = B)) (hA0 : 0 ≤ A) (hA1 : A ≤ 1099511627776) (hB0 : 0 ≤ B) (hB1 : B ≤ 1099511627776) (hB2 : B = 0) (hs : Hid (tk A = true)) :
    Calls Try.prog 5 #[.int .i64 a, .int .i64 b] w (TrueB w) := by
  subst hB2
  go_enter Try.func5, Try.ntmps5
  go_wp2_with fail
  refine (works_any _).mono ?_
  rintro e w1 ⟨rfl, hs1⟩
  go_wp2_with fail
  refine (bring_any a 1099511627777 _ (by omega) (by omega) (by omega)).mono ?_
  rintro e w0 ⟨rfl, rfl⟩
  rw [HA.out]
  go_wp2_with fail
  refine (bring_any b 1099511627777 _ (by omega) (by omega) (by omega)).mono ?_
  rintro e w0 ⟨rfl, rfl⟩
  rw [HB.out]
  go_wp2_with fail
  refine (add_fit A 0 A 0 _ (by rw [addN_ok hs.out (by decide +kernel) (by omega)]; omega) (by rw [addE_ok hs.out (by decide +kernel) (by omega)])).mono ?_
  rintro e w2 ⟨rfl, hb2⟩
  have hs2 : Below w.heap.size w w2 := chain hs1 hb2
  clear hs1 hb2
  go_wp2_with fail
  refine (sub_fit A 0 A 0 _ (by rw [subN_ok hs.out (by decide +kernel) (by omega)]; omega) (by rw [subE_ok hs.out (by decide +kernel) (by omega)])).mono ?_
  rintro e w3 ⟨rfl, hb3⟩
  have hs3 : Below w.heap.size w w3 := chain hs2 hb3
  clear hs2 hb3
  go_wp2_with fail
  go_ret
  exact ⟨rfl, hs3⟩

set_option maxRecDepth 100000 in
set_option maxHeartbeats 1000000 in
theorem back_fit (a b A B : Int) (w : World) (la : -9223372036854775808 ≤ a) (lb : -9223372036854775808 ≤ b) (HA : Hid (a % 1099511627777 = A)) (HB : Hid (b % 1099511627777 = B)) (hA0 : 0 ≤ A) (hA1 : A ≤ 1099511627776) (hB0 : 0 ≤ B) (hB1 : B ≤ 1099511627776) (hB2 : 0 < B)
    (q p s t m : Int) (hp : p ≤ A) (hp2 : A - p < B) (hp0 : 0 ≤ p) (hs0 : 0 ≤ s) (hs1' : s ≤ 1048576) (ht0 : 0 ≤ t) (ht1 : t ≤ 1048576)
    (HD1 : Hid (divN A B = q)) (HD2 : Hid (divE A B = 0)) (HM1 : Hid (mulN q B = p)) (HM2 : Hid (mulE q B = 0)) (HS : Hid (A % 1048576 = s)) (HT : Hid (B % 1048576 = t)) (HX1 : Hid (mulN s (t + 1) = m)) (HX2 : Hid (mulE s (t + 1) = 0)) (HY1 : Hid (divN m (t + 1) = s)) (HY2 : Hid (divE m (t + 1) = 0))
    (c : Int) (HC1 : Hid (addN A B = c)) (HC2 : Hid (addE A B = 0)) (HC3 : Hid (subN c B = A)) (HC4 : Hid (subE c B = 0)) :
    Calls Try.prog 5 #[.int .i64 a, .int .i64 b] w (TrueB w) := by
  have hb0 : (B == 0) = false := by simp; omega
  have hd1 : decide (A < p) = false := by simp; omega
  have hd2 : decide (B ≤ A - p) = false := by simp; omega
  go_enter Try.func5, Try.ntmps5
  go_wp2_with fail
  refine (works_any _).mono ?_
  rintro e w1 ⟨rfl, hs1⟩
  go_wp2_with fail
  refine (bring_any a 1099511627777 _ (by omega) (by omega) (by omega)).mono ?_
  rintro e w0 ⟨rfl, rfl⟩
  rw [HA.out]
  go_wp2_with fail
  refine (bring_any b 1099511627777 _ (by omega) (by omega) (by omega)).mono ?_
  rintro e w0 ⟨rfl, rfl⟩
  rw [HB.out]
  go_wp2_with fail
  refine (add_fit A B c 0 _ HC1.out HC2.out).mono ?_
  rintro e w2 ⟨rfl, hb2⟩
  have hs2 : Below w.heap.size w w2 := chain hs1 hb2
  clear hs1 hb2
  go_wp2_with fail
  refine (sub_fit c B A 0 _ HC3.out HC4.out).mono ?_
  rintro e w3 ⟨rfl, hb3⟩
  have hs3 : Below w.heap.size w w3 := chain hs2 hb3
  clear hs2 hb3
  go_wp2_with fail
  refine (div_fit A B q 0 _ HD1.out HD2.out).mono ?_
  rintro e w4 ⟨rfl, hb4⟩
  have hs4 : Below w.heap.size w w4 := chain hs3 hb4
  clear hs3 hb4
  go_wp2_with fail
  refine (mul_fit q B p 0 _ HM1.out HM2.out).mono ?_
  rintro e w5 ⟨rfl, hb5⟩
  have hs5 : Below w.heap.size w w5 := chain hs4 hb5
  clear hs4 hb5
  go_wp2_with fail
  refine (bring_any A 1048576 _ (by omega) (by omega) (by omega)).mono ?_
  rintro e w0 ⟨rfl, rfl⟩
  rw [HS.out]
  go_wp2_with fail
  refine (bring_any B 1048576 _ (by omega) (by omega) (by omega)).mono ?_
  rintro e w0 ⟨rfl, rfl⟩
  rw [HT.out]
  go_wp2_with fail
  refine (mul_fit _ _ m 0 _ HX1.out HX2.out).mono ?_
  rintro e w6 ⟨rfl, hb6⟩
  have hs6 : Below w.heap.size w w6 := chain hs5 hb6
  clear hs5 hb6
  go_wp2_with fail
  refine (bring_any B 1048576 _ (by omega) (by omega) (by omega)).mono ?_
  rintro e w0 ⟨rfl, rfl⟩
  rw [HT.out]
  go_wp2_with fail
  refine (div_fit _ _ s 0 _ HY1.out HY2.out).mono ?_
  rintro e w7 ⟨rfl, hb7⟩
  have hs7 : Below w.heap.size w w7 := chain hs6 hb7
  clear hs6 hb7
  go_wp2_with fail
  go_ret
  exact ⟨rfl, hs7⟩

set_option maxRecDepth 100000 in
set_option maxHeartbeats 1000000 in
theorem back_over (a b A B : Int) (w : World) (la : -9223372036854775808 ≤ a) (lb : -9223372036854775808 ≤ b) (HA : Hid (a % 1099511627777 = A)) (HB : Hid (b % 1099511627777 = B)) (hA0 : 0 ≤ A) (hA1 : A ≤ 1099511627776) (hB0 : 0 ≤ B) (hB1 : B ≤ 1099511627776) (hB2 : 0 < B)
    (q p s t m : Int) (hp : p ≤ A) (hp2 : A - p < B) (hp0 : 0 ≤ p) (hs0 : 0 ≤ s) (hs1' : s ≤ 1048576) (ht0 : 0 ≤ t) (ht1 : t ≤ 1048576)
    (HD1 : Hid (divN A B = q)) (HD2 : Hid (divE A B = 0)) (HM1 : Hid (mulN q B = p)) (HM2 : Hid (mulE q B = 0)) (HS : Hid (A % 1048576 = s)) (HT : Hid (B % 1048576 = t)) (HX1 : Hid (mulN s (t + 1) = m)) (HX2 : Hid (mulE s (t + 1) = 0)) (HY1 : Hid (divN m (t + 1) = s)) (HY2 : Hid (divE m (t + 1) = 0))
    (hov : 1099511627776 < A + B) (HC1 : Hid (addN A B = 0)) (HC2 : Hid (addE A B = 10)) :
    Calls Try.prog 5 #[.int .i64 a, .int .i64 b] w (TrueB w) := by
  have hb0 : (B == 0) = false := by simp; omega
  have hd0 : decide (A ≤ 1099511627776 - B) = false := by simp; omega
  have hd1 : decide (A < p) = false := by simp; omega
  have hd2 : decide (B ≤ A - p) = false := by simp; omega
  go_enter Try.func5, Try.ntmps5
  go_wp2_with fail
  refine (works_any _).mono ?_
  rintro e w1 ⟨rfl, hs1⟩
  go_wp2_with fail
  refine (bring_any a 1099511627777 _ (by omega) (by omega) (by omega)).mono ?_
  rintro e w0 ⟨rfl, rfl⟩
  rw [HA.out]
  go_wp2_with fail
  refine (bring_any b 1099511627777 _ (by omega) (by omega) (by omega)).mono ?_
  rintro e w0 ⟨rfl, rfl⟩
  rw [HB.out]
  go_wp2_with fail
  refine (add_fit A B 0 10 _ HC1.out HC2.out).mono ?_
  rintro e w2 ⟨rfl, hb2⟩
  have hs2 : Below w.heap.size w w2 := chain hs1 hb2
  clear hs1 hb2
  go_wp2_with fail
  refine (div_fit A B q 0 _ HD1.out HD2.out).mono ?_
  rintro e w3 ⟨rfl, hb3⟩
  have hs3 : Below w.heap.size w w3 := chain hs2 hb3
  clear hs2 hb3
  go_wp2_with fail
  refine (mul_fit q B p 0 _ HM1.out HM2.out).mono ?_
  rintro e w4 ⟨rfl, hb4⟩
  have hs4 : Below w.heap.size w w4 := chain hs3 hb4
  clear hs3 hb4
  go_wp2_with fail
  refine (bring_any A 1048576 _ (by omega) (by omega) (by omega)).mono ?_
  rintro e w0 ⟨rfl, rfl⟩
  rw [HS.out]
  go_wp2_with fail
  refine (bring_any B 1048576 _ (by omega) (by omega) (by omega)).mono ?_
  rintro e w0 ⟨rfl, rfl⟩
  rw [HT.out]
  go_wp2_with fail
  refine (mul_fit _ _ m 0 _ HX1.out HX2.out).mono ?_
  rintro e w5 ⟨rfl, hb5⟩
  have hs5 : Below w.heap.size w w5 := chain hs4 hb5
  clear hs4 hb5
  go_wp2_with fail
  refine (bring_any B 1048576 _ (by omega) (by omega) (by omega)).mono ?_
  rintro e w0 ⟨rfl, rfl⟩
  rw [HT.out]
  go_wp2_with fail
  refine (div_fit _ _ s 0 _ HY1.out HY2.out).mono ?_
  rintro e w6 ⟨rfl, hb6⟩
  have hs6 : Below w.heap.size w w6 := chain hs5 hb6
  clear hs5 hb6
  go_wp2_with fail
  go_ret
  exact ⟨rfl, hs6⟩

theorem back_law (a b : Int) (w : World) (la : -9223372036854775808 ≤ a) (lb : -9223372036854775808 ≤ b) : Calls Try.prog 5 #[.int .i64 a, .int .i64 b] w (TrueB w) := by
  obtain ⟨A, HA⟩ : ∃ A, Hid (a % 1099511627777 = A) := ⟨_, rfl⟩
  obtain ⟨B, HB⟩ : ∃ B, Hid (b % 1099511627777 = B) := ⟨_, rfl⟩
  have hA0 : 0 ≤ A := by rw [← HA.out]; exact Int.emod_nonneg _ (by omega)
  have hA1 : A < 1099511627777 := by rw [← HA.out]; exact Int.emod_lt_of_pos _ (by omega)
  have hB0 : 0 ≤ B := by rw [← HB.out]; exact Int.emod_nonneg _ (by omega)
  have hB1 : B < 1099511627777 := by rw [← HB.out]; exact Int.emod_lt_of_pos _ (by omega)
  have tA := tk_yes hA0 (by omega : A ≤ 1099511627776)
  have tB := tk_yes hB0 (by omega : B ≤ 1099511627776)
  by_cases hz : B = 0
  · exact back_fit0 a b A B w la lb HA HB hA0 (by omega) hB0 (by omega) hz tA
  · have hp : 0 < B := by omega
    have q0 : 0 ≤ A / B := Int.ediv_nonneg hA0 hB0
    have q1 : A / B ≤ A := Int.ediv_le_self _ hA0
    have e := Int.mul_ediv_add_emod A B
    have m0 := Int.emod_nonneg A (by omega : B ≠ 0)
    have m1 := Int.emod_lt_of_pos A hp
    have tq := tk_yes q0 (by omega : A / B ≤ 1099511627776)
    have ep : A / B * B = A - A % B := by rw [Int.mul_comm]; omega
    have s0 := Int.emod_nonneg A (by omega : (1048576 : Int) ≠ 0)
    have s1 := Int.emod_lt_of_pos A (by omega : (0 : Int) < 1048576)
    have t0 := Int.emod_nonneg B (by omega : (1048576 : Int) ≠ 0)
    have t1 := Int.emod_lt_of_pos B (by omega : (0 : Int) < 1048576)
    obtain ⟨s, hs⟩ : ∃ s, A % 1048576 = s := ⟨_, rfl⟩
    obtain ⟨t, ht⟩ : ∃ t, B % 1048576 = t := ⟨_, rfl⟩
    rw [hs] at s0 s1
    rw [ht] at t0 t1
    have pm : s * (t + 1) ≤ 1048576 * 1048576 := Int.mul_le_mul (by omega) (by omega) (by omega) (by omega)
    have pn : 0 ≤ s * (t + 1) := Int.mul_nonneg s0 (by omega)
    have ts := tk_yes s0 (by omega : s ≤ 1099511627776)
    have tt := tk_yes (by omega : 0 ≤ t + 1) (by omega : t + 1 ≤ 1099511627776)
    have tm := tk_yes pn (by omega : s * (t + 1) ≤ 1099511627776)
    have pb : A / B * B ≤ 1099511627776 := by omega
    by_cases hs' : A + B ≤ 1099511627776
    · have tc := tk_yes (by omega : 0 ≤ A + B) hs'
      exact back_fit a b A B w la lb HA HB hA0 (by omega) hB0 (by omega) hp (A / B) (A / B * B) s t (s * (t + 1)) (by omega) (by omega) (Int.mul_nonneg q0 hB0) s0 (by omega) t0 (by omega)
        (divN_ok tA tB hp) (divE_ok tA tB hp) (mulN_ok tq tB pb) (mulE_ok tq tB pb) hs ht (mulN_ok ts tt (by omega)) (mulE_ok ts tt (by omega))
        (by rw [Hid, divN_ok tm tt (by omega)]; exact Int.mul_ediv_cancel _ (by omega)) (divE_ok tm tt (by omega)) (A + B) (addN_ok tA tB hs') (addE_ok tA tB hs')
        (by rw [Hid, subN_ok tc tB (by omega)]; omega) (subE_ok tc tB (by omega))
    · exact back_over a b A B w la lb HA HB hA0 (by omega) hB0 (by omega) hp (A / B) (A / B * B) s t (s * (t + 1)) (by omega) (by omega) (Int.mul_nonneg q0 hB0) s0 (by omega) t0 (by omega)
        (divN_ok tA tB hp) (divE_ok tA tB hp) (mulN_ok tq tB pb) (mulE_ok tq tB pb) hs ht (mulN_ok ts tt (by omega)) (mulE_ok ts tt (by omega))
        (by rw [Hid, divN_ok tm tt (by omega)]; exact Int.mul_ediv_cancel _ (by omega)) (divE_ok tm tt (by omega)) (by omega) (addN_over (by omega)) (addE_over tA tB (by omega))

end Go.Proofs.Ytebgfemnfbfnpaa
