/- TicksDivide: the Gcd divides both, and each one that does divides it; Gcd and Lcm of two, multiplied, are their product. -/
import Derived.Test.YtebgfemnfbfnpaaWalksH
namespace Go.Proofs.Ytebgfemnfbfnpaa
open Go.RowKit Tk
set_option linter.unusedVariables false

theorem lcm2c (limit x y n e : Int) (w : World) (h : lcmR limit [x, y] = (n, e)) : Calls Try.prog 22 #[.int .i64 limit, .slice (some ⟨w.heap.size, 0, none⟩) 2 2] (w.alloc (.cells #[.int .i64 x, .int .i64 y] 3)) (TwoB n e (w.alloc (.cells #[.int .i64 x, .int .i64 y] 3))) := by
  have k := lcm_any limit (some ⟨w.heap.size, 0, none⟩) 2 2 [x, y] _ rfl (by omega) (Row.made w [x, y])
  rw [h] at k; exact k

/-- the plain facts: x, y from 1 to 2^20 -/
theorem plain (x y : Int) (hx : 1 ≤ x) (hx' : x ≤ 1048576) (hy : 1 ≤ y) (hy' : y ≤ 1048576) : ∃ g L : Int, gcdN x y = g ∧ gcdE x y = 0 ∧ gcdN y x = g ∧ gcdE y x = 0 ∧ lcmR 1099511627776 [x, y] = (L, 0) ∧ 1 ≤ g ∧ g ≤ 1048576 ∧ 1 ≤ L ∧ L ≤ 1099511627776 ∧
    x % g = 0 ∧ y % g = 0 ∧ L % x = 0 ∧ L % y = 0 ∧ g * L = x * y ∧ x * y ≤ 1099511627776 ∧ 0 ≤ x * y ∧ ∀ d : Int, x % d = 0 → y % d = 0 → g % d = 0 := by
  have tx := tk_yes (by omega : 0 ≤ x) (by omega : x ≤ 1099511627776)
  have ty := tk_yes (by omega : 0 ≤ y) (by omega : y ≤ 1099511627776)
  have ox : ok1 x = true := (ok1_iff x).2 ⟨hx, by omega⟩
  have oy : ok1 y = true := (ok1_iff y).2 ⟨hy, by omega⟩
  obtain ⟨X, rfl⟩ := Int.eq_ofNat_of_zero_le (by omega : 0 ≤ x)
  obtain ⟨Y, rfl⟩ := Int.eq_ofNat_of_zero_le (by omega : 0 ≤ y)
  have p1 : X * Y ≤ 1048576 * 1048576 := Nat.mul_le_mul (by omega) (by omega)
  have gpos : 0 < Nat.gcd X Y := Nat.gcd_pos_of_pos_left _ (by omega)
  have gle : Nat.gcd X Y ≤ X := Nat.gcd_le_left _ (by omega)
  obtain ⟨k, hk⟩ := Nat.gcd_dvd_right X Y
  obtain ⟨j, hj⟩ := Nat.gcd_dvd_left X Y
  have eq : Y / Nat.gcd X Y = k := Nat.div_eq_of_eq_mul_right gpos hk
  have kpos : 0 < k := by
    rcases Nat.eq_zero_or_pos k with h | h
    · rw [h] at hk; omega
    · exact h
  have hL : Nat.gcd X Y * (X * k) = X * Y := by
    conv => rhs; rw [hk]
    rw [← Nat.mul_assoc, ← Nat.mul_assoc, Nat.mul_comm X]
  have hLle : X * k ≤ X * Y := by rw [← hL]; exact Nat.le_mul_of_pos_left _ gpos
  have hLpos : 0 < X * k := Nat.mul_pos (by omega) kpos
  have l1 : lcm2 1 (X : Int) = X := by simp [lcm2]
  have l2 : lcm2 (X : Int) (Y : Int) = ((X * k : Nat) : Int) := by
    simp only [lcm2, Int.toNat_natCast]
    rw [← Int.natCast_ediv, eq]; simp
  have hr : lcmR 1099511627776 [(X : Int), (Y : Int)] = (((X * k : Nat) : Int), 0) := by
    rw [lcmR_yes (by decide) (by simp [ox, oy])]
    have e1 : lcmAll 1 [(X : Int), (Y : Int)] = (((X * k : Nat) : Int), 0) := by
      rw [lcmAll, l1, if_pos (by omega), lcmAll, l2, if_pos (by omega), lcmAll]
    rw [e1, cutTo, if_pos rfl, if_pos (by omega)]
  refine ⟨(Nat.gcd X Y : Nat), (X * k : Nat), ?_, gcdE_ok tx ty, ?_, gcdE_ok ty tx, hr, by omega, by omega, by omega, by omega, ?_, ?_, ?_, ?_, ?_, ?_, by omega, ?_⟩
  · rw [gcdN_ok tx ty]; simp
  · rw [gcdN_ok ty tx, Nat.gcd_comm]; simp
  · rw [← Int.natCast_emod]; exact_mod_cast Nat.mod_eq_zero_of_dvd (Nat.gcd_dvd_left X Y)
  · rw [← Int.natCast_emod]; exact_mod_cast Nat.mod_eq_zero_of_dvd (Nat.gcd_dvd_right X Y)
  · rw [← Int.natCast_emod]; exact_mod_cast Nat.mod_eq_zero_of_dvd (Nat.dvd_mul_right X k)
  · rw [← Int.natCast_emod]
    have : Y ∣ X * k := ⟨j, by
      have e1 : X * k = Nat.gcd X Y * j * k := congrArg (· * k) hj
      have e2 : Y * j = Nat.gcd X Y * k * j := congrArg (· * j) hk
      rw [e1, e2, Nat.mul_assoc, Nat.mul_assoc, Nat.mul_comm j]⟩
    exact_mod_cast Nat.mod_eq_zero_of_dvd this
  · exact_mod_cast hL
  · have : ((X * Y : Nat) : Int) ≤ 1099511627776 := by omega
    simpa using this
  · intro d h1 h2
    have d1 := Int.dvd_of_emod_eq_zero h1
    have d2 := Int.dvd_of_emod_eq_zero h2
    have : d ∣ ((Nat.gcd X Y : Nat) : Int) := by
      rw [← Int.natAbs_dvd]
      exact_mod_cast Nat.dvd_gcd (Int.natCast_dvd_natCast.1 (Int.natAbs_dvd.2 d1)) (Int.natCast_dvd_natCast.1 (Int.natAbs_dvd.2 d2))
    exact Int.emod_eq_zero_of_dvd this

set_option maxRecDepth 100000 in
set_option maxHeartbeats 1000000 in
theorem divide_a (a b c A B C g L : Int) (w : World) (la : -9223372036854775808 ≤ a) (lb : -9223372036854775808 ≤ b) (lc : -9223372036854775808 ≤ c)
    (HA : Hid (a % 1048576 = A)) (HB : Hid (b % 1048576 = B)) (HC : Hid (c % 1000 = C)) (hA0 : 0 ≤ A) (hA1 : A ≤ 1048575) (hB0 : 0 ≤ B) (hB1 : B ≤ 1048575) (hC0 : 0 ≤ C) (hC1 : C ≤ 999)
    (HG1 : Hid (gcdN (1 + A) (1 + B) = g)) (HG2 : Hid (gcdE (1 + A) (1 + B) = 0)) (HG3 : Hid (gcdN (1 + B) (1 + A) = g)) (HG4 : Hid (gcdE (1 + B) (1 + A) = 0)) (HL : Hid (lcmR 1099511627776 [1 + A, 1 + B] = (L, 0)))
    (hg0 : 1 ≤ g) (hg1 : g ≤ 1048576) (hL0 : 1 ≤ L) (hL1 : L ≤ 1099511627776) (hAg : (1 + A) % g = 0) (hBg : (1 + B) % g = 0) (hLA : L % (1 + A) = 0) (hLB : L % (1 + B) = 0) (hp : g * L = (1 + A) * (1 + B)) (hp1 : (1 + A) * (1 + B) ≤ 1099511627776) (hp0 : 0 ≤ (1 + A) * (1 + B)) (hc : ((1 + A) % (1 + C) == 0) = false) : Calls Try.prog 6 #[.int .i64 a, .int .i64 b, .int .i64 c] w (TrueB w) := by
  have z1 : (g == 0) = false := by simp; omega
  have z2 : (1 + C == 0) = false := by simp; omega
  have z3 : (1 + A == 0) = false := by simp; omega
  have z4 : (1 + B == 0) = false := by simp; omega
  have z5 : decide (g < 1) = false := by simp; omega
  go_enter Try.func6, Try.ntmps6
  go_wp2_with fail
  refine (bring_any a 1048576 _ (by omega) (by omega) (by omega)).mono ?_
  rintro e w0 ⟨rfl, rfl⟩
  rw [HA.out]
  go_wp2_with fail
  refine (bring_any b 1048576 _ (by omega) (by omega) (by omega)).mono ?_
  rintro e w0 ⟨rfl, rfl⟩
  rw [HB.out]
  go_wp2_with fail
  refine (bring_any c 1000 _ (by omega) (by omega) (by omega)).mono ?_
  rintro e w0 ⟨rfl, rfl⟩
  rw [HC.out]
  go_wp2_with fail
  refine (gcd_fit _ _ g 0 _ HG1.out HG2.out).mono ?_
  rintro e w1 ⟨rfl, hs1⟩
  go_wp2_with fail
  refine (lcm2c 1099511627776 _ _ L 0 _ HL.out).mono ?_
  rintro e w2 ⟨rfl, hb2⟩
  have hs2 : Below w.heap.size w w2 := chainA hs1 hb2
  clear hs1 hb2
  go_wp2_with fail
  refine (gcd_fit _ _ g 0 _ HG3.out HG4.out).mono ?_
  rintro e w3 ⟨rfl, hb3⟩
  have hs3 : Below w.heap.size w w3 := chain hs2 hb3
  clear hs2 hb3
  go_wp2_with fail
  refine (works_any _).mono ?_
  rintro e w4 ⟨rfl, hb4⟩
  have hs4 : Below w.heap.size w w4 := chain hs3 hb4
  clear hs3 hb4
  go_wp2_with fail
  go_ret
  exact ⟨rfl, hs4⟩

set_option maxRecDepth 100000 in
set_option maxHeartbeats 1000000 in
theorem divide_b (a b c A B C g L : Int) (w : World) (la : -9223372036854775808 ≤ a) (lb : -9223372036854775808 ≤ b) (lc : -9223372036854775808 ≤ c)
    (HA : Hid (a % 1048576 = A)) (HB : Hid (b % 1048576 = B)) (HC : Hid (c % 1000 = C)) (hA0 : 0 ≤ A) (hA1 : A ≤ 1048575) (hB0 : 0 ≤ B) (hB1 : B ≤ 1048575) (hC0 : 0 ≤ C) (hC1 : C ≤ 999)
    (HG1 : Hid (gcdN (1 + A) (1 + B) = g)) (HG2 : Hid (gcdE (1 + A) (1 + B) = 0)) (HG3 : Hid (gcdN (1 + B) (1 + A) = g)) (HG4 : Hid (gcdE (1 + B) (1 + A) = 0)) (HL : Hid (lcmR 1099511627776 [1 + A, 1 + B] = (L, 0)))
    (hg0 : 1 ≤ g) (hg1 : g ≤ 1048576) (hL0 : 1 ≤ L) (hL1 : L ≤ 1099511627776) (hAg : (1 + A) % g = 0) (hBg : (1 + B) % g = 0) (hLA : L % (1 + A) = 0) (hLB : L % (1 + B) = 0) (hp : g * L = (1 + A) * (1 + B)) (hp1 : (1 + A) * (1 + B) ≤ 1099511627776) (hp0 : 0 ≤ (1 + A) * (1 + B)) (hc : (1 + A) % (1 + C) = 0) (hc2 : ((1 + B) % (1 + C) == 0) = false) : Calls Try.prog 6 #[.int .i64 a, .int .i64 b, .int .i64 c] w (TrueB w) := by
  have z1 : (g == 0) = false := by simp; omega
  have z2 : (1 + C == 0) = false := by simp; omega
  have z3 : (1 + A == 0) = false := by simp; omega
  have z4 : (1 + B == 0) = false := by simp; omega
  have z5 : decide (g < 1) = false := by simp; omega
  go_enter Try.func6, Try.ntmps6
  go_wp2_with fail
  refine (bring_any a 1048576 _ (by omega) (by omega) (by omega)).mono ?_
  rintro e w0 ⟨rfl, rfl⟩
  rw [HA.out]
  go_wp2_with fail
  refine (bring_any b 1048576 _ (by omega) (by omega) (by omega)).mono ?_
  rintro e w0 ⟨rfl, rfl⟩
  rw [HB.out]
  go_wp2_with fail
  refine (bring_any c 1000 _ (by omega) (by omega) (by omega)).mono ?_
  rintro e w0 ⟨rfl, rfl⟩
  rw [HC.out]
  go_wp2_with fail
  refine (gcd_fit _ _ g 0 _ HG1.out HG2.out).mono ?_
  rintro e w1 ⟨rfl, hs1⟩
  go_wp2_with fail
  refine (lcm2c 1099511627776 _ _ L 0 _ HL.out).mono ?_
  rintro e w2 ⟨rfl, hb2⟩
  have hs2 : Below w.heap.size w w2 := chainA hs1 hb2
  clear hs1 hb2
  go_wp2_with fail
  refine (gcd_fit _ _ g 0 _ HG3.out HG4.out).mono ?_
  rintro e w3 ⟨rfl, hb3⟩
  have hs3 : Below w.heap.size w w3 := chain hs2 hb3
  clear hs2 hb3
  go_wp2_with fail
  refine (works_any _).mono ?_
  rintro e w4 ⟨rfl, hb4⟩
  have hs4 : Below w.heap.size w w4 := chain hs3 hb4
  clear hs3 hb4
  go_wp2_with fail
  go_ret
  exact ⟨rfl, hs4⟩

set_option maxRecDepth 100000 in
set_option maxHeartbeats 1000000 in
theorem divide_c (a b c A B C g L : Int) (w : World) (la : -9223372036854775808 ≤ a) (lb : -9223372036854775808 ≤ b) (lc : -9223372036854775808 ≤ c)
    (HA : Hid (a % 1048576 = A)) (HB : Hid (b % 1048576 = B)) (HC : Hid (c % 1000 = C)) (hA0 : 0 ≤ A) (hA1 : A ≤ 1048575) (hB0 : 0 ≤ B) (hB1 : B ≤ 1048575) (hC0 : 0 ≤ C) (hC1 : C ≤ 999)
    (HG1 : Hid (gcdN (1 + A) (1 + B) = g)) (HG2 : Hid (gcdE (1 + A) (1 + B) = 0)) (HG3 : Hid (gcdN (1 + B) (1 + A) = g)) (HG4 : Hid (gcdE (1 + B) (1 + A) = 0)) (HL : Hid (lcmR 1099511627776 [1 + A, 1 + B] = (L, 0)))
    (hg0 : 1 ≤ g) (hg1 : g ≤ 1048576) (hL0 : 1 ≤ L) (hL1 : L ≤ 1099511627776) (hAg : (1 + A) % g = 0) (hBg : (1 + B) % g = 0) (hLA : L % (1 + A) = 0) (hLB : L % (1 + B) = 0) (hp : g * L = (1 + A) * (1 + B)) (hp1 : (1 + A) * (1 + B) ≤ 1099511627776) (hp0 : 0 ≤ (1 + A) * (1 + B)) (hc : (1 + A) % (1 + C) = 0) (hc2 : (1 + B) % (1 + C) = 0) (hc3 : g % (1 + C) = 0) : Calls Try.prog 6 #[.int .i64 a, .int .i64 b, .int .i64 c] w (TrueB w) := by
  have z1 : (g == 0) = false := by simp; omega
  have z2 : (1 + C == 0) = false := by simp; omega
  have z3 : (1 + A == 0) = false := by simp; omega
  have z4 : (1 + B == 0) = false := by simp; omega
  have z5 : decide (g < 1) = false := by simp; omega
  go_enter Try.func6, Try.ntmps6
  go_wp2_with fail
  refine (bring_any a 1048576 _ (by omega) (by omega) (by omega)).mono ?_
  rintro e w0 ⟨rfl, rfl⟩
  rw [HA.out]
  go_wp2_with fail
  refine (bring_any b 1048576 _ (by omega) (by omega) (by omega)).mono ?_
  rintro e w0 ⟨rfl, rfl⟩
  rw [HB.out]
  go_wp2_with fail
  refine (bring_any c 1000 _ (by omega) (by omega) (by omega)).mono ?_
  rintro e w0 ⟨rfl, rfl⟩
  rw [HC.out]
  go_wp2_with fail
  refine (gcd_fit _ _ g 0 _ HG1.out HG2.out).mono ?_
  rintro e w1 ⟨rfl, hs1⟩
  go_wp2_with fail
  refine (lcm2c 1099511627776 _ _ L 0 _ HL.out).mono ?_
  rintro e w2 ⟨rfl, hb2⟩
  have hs2 : Below w.heap.size w w2 := chainA hs1 hb2
  clear hs1 hb2
  go_wp2_with fail
  refine (gcd_fit _ _ g 0 _ HG3.out HG4.out).mono ?_
  rintro e w3 ⟨rfl, hb3⟩
  have hs3 : Below w.heap.size w w3 := chain hs2 hb3
  clear hs2 hb3
  go_wp2_with fail
  refine (works_any _).mono ?_
  rintro e w4 ⟨rfl, hb4⟩
  have hs4 : Below w.heap.size w w4 := chain hs3 hb4
  clear hs3 hb4
  go_wp2_with fail
  go_ret
  exact ⟨rfl, hs4⟩

theorem divide_law (a b c : Int) (w : World) (la : -9223372036854775808 ≤ a) (lb : -9223372036854775808 ≤ b) (lc : -9223372036854775808 ≤ c) : Calls Try.prog 6 #[.int .i64 a, .int .i64 b, .int .i64 c] w (TrueB w) := by
  have hA0 := Int.emod_nonneg a (by omega : (1048576 : Int) ≠ 0)
  have hA1 := Int.emod_lt_of_pos a (by omega : (0 : Int) < 1048576)
  have hB0 := Int.emod_nonneg b (by omega : (1048576 : Int) ≠ 0)
  have hB1 := Int.emod_lt_of_pos b (by omega : (0 : Int) < 1048576)
  have hC0 := Int.emod_nonneg c (by omega : (1000 : Int) ≠ 0)
  have hC1 := Int.emod_lt_of_pos c (by omega : (0 : Int) < 1000)
  obtain ⟨g, L, g1, g2, g3, g4, l1, f1, f2, f3, f4, f5, f6, f7, f8, f9, f10, f11, hd⟩ := plain (1 + a % 1048576) (1 + b % 1048576) (by omega) (by omega) (by omega) (by omega)
  by_cases c1 : (1 + a % 1048576) % (1 + c % 1000) = 0
  · by_cases c2 : (1 + b % 1048576) % (1 + c % 1000) = 0
    · exact divide_c a b c _ _ _ g L w la lb lc rfl rfl rfl hA0 (by omega) hB0 (by omega) hC0 (by omega) g1 g2 g3 g4 l1 f1 f2 f3 f4 f5 f6 f7 f8 f9 f10 f11 c1 c2 (hd _ c1 c2)
    · exact divide_b a b c _ _ _ g L w la lb lc rfl rfl rfl hA0 (by omega) hB0 (by omega) hC0 (by omega) g1 g2 g3 g4 l1 f1 f2 f3 f4 f5 f6 f7 f8 f9 f10 f11 c1 (by simpa using c2)
  · exact divide_a a b c _ _ _ g L w la lb lc rfl rfl rfl hA0 (by omega) hB0 (by omega) hC0 (by omega) g1 g2 g3 g4 l1 f1 f2 f3 f4 f5 f6 f7 f8 f9 f10 f11 (by simpa using c1)

end Go.Proofs.Ytebgfemnfbfnpaa
