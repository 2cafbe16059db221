/- The document's sum and test: the walk. -/
import Derived.Test.YtlifkclgflfnlaaShaE
namespace Go.Proofs.Ytlifkclgflfnlaa.Sh
open Go.RowKit Tk De Dl Go.Proofs.Ytlifkclgflfnlaa.Lo
set_option linter.unusedVariables false

theorem step_sum {T D P G : Nat} (ht1 : T ≤ 67108864) (ht2 : D ≤ 16777216) (hP : P ≤ 64) (hG : G ≤ 64) : ∃ M1 M2 M3 M4 : Nat, T * P + G * D = M4 ∧ D * P = M3 ∧ (T : Int) * P = (M1 : Nat) ∧ (G : Int) * D = (M2 : Nat) ∧ (D : Int) * P = (M3 : Nat) ∧ ((M1 : Nat) : Int) + (M2 : Nat) = (M4 : Nat) ∧
    M1 ≤ 1099511627776 ∧ M2 ≤ 1099511627776 ∧ M3 ≤ 1099511627776 ∧ M4 ≤ 1099511627776 := by
  have b1 : T * P ≤ 67108864 * 64 := Nat.mul_le_mul ht1 hP
  have b2 : G * D ≤ 64 * 16777216 := Nat.mul_le_mul hG ht2
  have b3 : D * P ≤ 16777216 * 64 := Nat.mul_le_mul ht2 hP
  exact ⟨T * P, G * D, D * P, T * P + G * D, rfl, rfl, (Int.natCast_mul T P).symm, (Int.natCast_mul G D).symm, (Int.natCast_mul D P).symm, (Int.natCast_add _ _).symm, by omega, by omega, by omega, by omega⟩
set_option maxRecDepth 100000 in
set_option maxHeartbeats 4000000 in
theorem rsum_any {w : World} {v : Value} {n : Nat} {p b : Nat → Int} (h : SV w v n p b) : Calls Try.prog 8 #[v] w (ThreeB (suA n p b) (suB n p b) (suE n p b) w) := by
  obtain ⟨a, cap, rfl, hn1, hn2⟩ := h.slice
  have HP := Lib.hid h
  have hmx : n ≤ 9223372036854775807 := by unfold maxLen at hn2; omega
  have mixed : Try.prog.follows .mixedOrders = true := by kernel_rfl
  obtain ⟨A, hA⟩ : ∃ A, A = suA n p b := ⟨_, rfl⟩
  obtain ⟨B, hB⟩ : ∃ B, B = suB n p b := ⟨_, rfl⟩
  obtain ⟨C, hC⟩ : ∃ C, C = suE n p b := ⟨_, rfl⟩
  rw [← hA, ← hB, ← hC]
  have HNO : Hid (mayS n p b = false → A = 0 ∧ B = 0 ∧ C = 2) := fun h => by obtain ⟨h1, h2, h3, _⟩ := su_no h; exact ⟨hA.trans h1, hB.trans h2, hC.trans h3⟩
  have HYES : Hid (mayS n p b = true → A = ((suF n p b).1 : Nat) ∧ B = ((suF n p b).2 : Nat) ∧ C = 0) := fun h => by obtain ⟨h1, h2, h3, _⟩ := su_yes h; exact ⟨hA.trans h1, hB.trans h2, hC.trans h3⟩
  clear h hn1 hn2 hA hB hC
  by_cases hn4 : n ≤ 4
  · have hd4 : decide ((4 : Int) < (n : Int)) = false := by simp; omega
    have HMAY : Hid (mayS n p b = okS p b n) := by unfold Hid mayS; rw [decide_eq_true hn4]; rfl
    go_enter Try.func8, Try.ntmps8
    go_wp2_with fail
    go_loopw [5, 6, 7] (fun tv bv iv W => ∃ k : Nat, k ≤ n ∧ iv = .int .i64 k ∧ tv = .int .i64 ((un (nn b) (nn p) k).1 : Nat) ∧ bv = .int .i64 ((un (nn b) (nn p) k).2 : Nat) ∧ Hid (okS p b k = true) ∧ Hid (Below w.heap.size w W)) (fun _ _ iv _ => n - (intOf iv).toNat)
    case atStart => exact ⟨0, Nat.zero_le _, rfl, rfl, rfl, rfl, Below.refl _ _⟩
    case round =>
      obtain ⟨k, hk, rfl, rfl, rfl, HOK, HB⟩ := hrel
      by_cases hlt : k < n
      · have hkI : (k : Int) < n := by omega
        have hk0 : (0 : Int) ≤ k := by omega
        obtain ⟨g, off, ta, tn, tc, rfl, c0, c1, c2⟩ := (HP.out.below HB.out).at hlt
        have HB2 := Lib.hid (HB.out.alloc HB.out.size (.cells #[.int .i64 (p k), .int .i64 (b k), .slice ta tn tc] 36))
        have HN2 : Hid (okT (p k) (b k) = false → A = 0 ∧ B = 0 ∧ C = 2) := fun h => HNO.out (by rw [HMAY.out]; exact okS_no hlt h)
        have HO2 : Hid (okT (p k) (b k) = true → okS p b (k + 1) = true) := fun h => by unfold okS; rw [HOK.out, h]; rfl
        have HTT : Hid ((un (nn b) (nn p) (k + 1)).1 = (un (nn b) (nn p) k).1 * (p k).toNat + (b k).toNat * (un (nn b) (nn p) k).2 ∧ (un (nn b) (nn p) (k + 1)).2 = (un (nn b) (nn p) k).2 * (p k).toNat) := ⟨rfl, rfl⟩
        obtain ⟨ht1, ht2⟩ := un_small (B := nn b) (P := nn p) (show k ≤ 4 by omega) fun i hi => by have := nn_bd HOK.out i hi; omega
        generalize (un (nn b) (nn p) k).1 = T at *
        generalize (un (nn b) (nn p) k).2 = D at *
        generalize p k = pk at *
        generalize b k = bk at *
        by_cases q1 : pk < 1
        · have d1 : decide (pk < 1) = true := decide_eq_true q1
          obtain ⟨rfl, rfl, rfl⟩ := HN2.out (by unfold okT; exact decide_eq_false (by omega))
          clear q1 HTT HO2 ht1 ht2
          go_wp2_with fail
          go_ret3
          exact ⟨rfl, HB2.out⟩
        · have d1 : decide (pk < 1) = false := decide_eq_false q1
          by_cases q2 : (64 : Int) < pk
          · have d2 : decide ((64 : Int) < pk) = true := decide_eq_true q2
            obtain ⟨rfl, rfl, rfl⟩ := HN2.out (by unfold okT; exact decide_eq_false (by omega))
            clear q1 q2 HTT HO2 ht1 ht2
            go_wp2_with fail
            go_ret3
            exact ⟨rfl, HB2.out⟩
          · have d2 : decide ((64 : Int) < pk) = false := decide_eq_false q2
            by_cases q3 : bk < 1
            · have d3 : decide (bk < 1) = true := decide_eq_true q3
              obtain ⟨rfl, rfl, rfl⟩ := HN2.out (by unfold okT; exact decide_eq_false (by omega))
              clear q1 q2 q3 HTT HO2 ht1 ht2
              go_wp2_with fail
              go_ret3
              exact ⟨rfl, HB2.out⟩
            · have d3 : decide (bk < 1) = false := decide_eq_false q3
              by_cases q4 : pk < bk
              · have d4 : decide (pk < bk) = true := decide_eq_true q4
                obtain ⟨rfl, rfl, rfl⟩ := HN2.out (by unfold okT; exact decide_eq_false (by omega))
                clear q1 q2 q3 q4 HTT HO2 ht1 ht2
                go_wp2_with fail
                go_ret3
                exact ⟨rfl, HB2.out⟩
              · have d4 : decide (pk < bk) = false := decide_eq_false q4
                have HO3 := Lib.hid (HO2.out (by unfold okT; exact decide_eq_true (by omega)))
                obtain ⟨P, hP⟩ : ∃ P : Nat, pk = (P : Int) := ⟨pk.toNat, by omega⟩
                obtain ⟨G, hG⟩ : ∃ G : Nat, bk = (G : Int) := ⟨bk.toNat, by omega⟩
                subst hP; subst hG
                rw [Int.toNat_natCast, Int.toNat_natCast] at HTT
                obtain ⟨M1, M2, M3, M4, e0, e00, e1, e2, e3, e4, l1, l2, l3, l4⟩ := step_sum ht1 ht2 (show P ≤ 64 by omega) (show G ≤ 64 by omega)
                rw [e0, e00] at HTT
                obtain ⟨x1, y1⟩ := wr3 e1 l1
                obtain ⟨x2, y2⟩ := wr3 e2 l2
                obtain ⟨x3, y3⟩ := wr3 e3 l3
                obtain ⟨x4, y4⟩ := wr3 e4 l4
                have z1 := (wr3 (x := (M1 : Int)) rfl l1).1
                have z2 := (wr3 (x := (M2 : Int)) rfl l2).1
                have z3 := (wr3 (x := (M3 : Int)) rfl l3).1
                have z4 := (wr3 (x := (M4 : Int)) rfl l4).1
                have d4' : decide (P < G) = false := decide_eq_false (by omega)
                clear e0 e00 l1 l2 l3 l4 q1 q2 q3 q4 ht1 ht2 HN2 HO2 HOK
                go_wp2_with fail
                rw [z4, z3]
                go_roundw
                case rel => exact ⟨k + 1, by omega, by go_num, by rw [HTT.out.1], by rw [HTT.out.2], HO3.out, HB2.out⟩
                case measure => simp [intOf]; omega
      · obtain rfl : k = n := by omega
        obtain ⟨hy1, hy2, rfl⟩ := HYES.out (by rw [HMAY.out]; exact HOK.out)
        have hF := sumF_un (B := nn b) (P := nn p) (n := k) (fun i hi => (nn_bd HOK.out i hi).1)
        have hpos := un_pos (B := nn b) (P := nn p) (n := k) (fun i hi => (nn_bd HOK.out i hi).1)
        obtain ⟨ht1, ht2⟩ := un_small (B := nn b) (P := nn p) hn4 fun i hi => by have := nn_bd HOK.out i hi; omega
        rw [show suF k p b = low (un (nn b) (nn p) k).1 (un (nn b) (nn p) k).2 from hF] at hy1 hy2
        generalize (un (nn b) (nn p) k).1 = T at *
        generalize (un (nn b) (nn p) k).2 = D at *
        subst hy1; subst hy2
        clear hF HNO HYES HMAY
        have hgp := Nat.gcd_pos_of_pos_right T hpos
        have hgl := Nat.le_of_dvd hpos (Nat.gcd_dvd_right T D)
        obtain ⟨g, hg⟩ : ∃ g, g = Nat.gcd T D := ⟨_, rfl⟩
        have HL : Hid (low T D = (T / g, D / g)) := by unfold Hid low; rw [← hg]
        rw [← hg] at hgp hgl
        have HG := Lib.hid hg
        clear hg
        go_wp2_with fail
        obtain ⟨wo, rfl⟩ : ∃ wo, wo = wr := ⟨_, rfl⟩
        go_loopw [9, 10] (fun xv yv W => ∃ x y : Nat, xv = .int .i64 x ∧ yv = .int .i64 y ∧ x ≤ 67108864 ∧ y ≤ 16777216 ∧ Hid (Nat.gcd x y = g) ∧ Hid (Below w.heap.size w W)) (fun _ yv _ => (intOf yv).toNat)
        case atStart => exact ⟨T, D, rfl, rfl, ht1, ht2, HG.out.symm, HB.out⟩
        case round =>
          clear HB
          obtain ⟨x, y, rfl, rfl, hx, hy, HGC, HB⟩ := hrel
          by_cases hy0 : 0 < y
          · have hd : decide ((0 : Int) < (y : Nat)) = true := by simp; omega
            have hd2 : decide (0 < y) = true := by simp; omega
            have hz : ((y : Int) == 0) = false := by simp; omega
            have hz2 : ¬ y = 0 := by omega
            have hmod : (x : Int).tmod (y : Int) = ((x % y : Nat) : Int) := by rw [Int.tmod_eq_emod_of_nonneg (by omega)]; rfl
            have hml := Nat.mod_lt x hy0
            have HGC2 : Hid (Nat.gcd y (x % y) = g) := gcd_step.trans HGC.out
            generalize x % y = r at *
            have hwr := (wr3 (x := (r : Int)) rfl (by omega)).2
            go_wp2_with fail
            go_quiet (fail)
            go_wp2_with fail
            go_roundw
            case rel => exact ⟨y, r, rfl, by go_num, by omega, by omega, HGC2.out, below_drewN HB.out _⟩
            case measure => simp [intOf]; omega
          · obtain rfl : y = 0 := by omega
            have HX := HGC.out
            rw [Nat.gcd_zero_right] at HX
            subst HX
            have hz : ((x : Int) == 0) = false := by simp; omega
            have hz2 : ¬ x = 0 := by omega
            have e1 : (T : Int).tdiv (x : Int) = ((T / x : Nat) : Int) := rfl
            have e2 : (D : Int).tdiv (x : Int) = ((D / x : Nat) : Int) := rfl
            have l1 := Nat.div_le_self T x
            have l2 := Nat.div_le_self D x
            clear HG HGC
            generalize T / x = u at *
            generalize D / x = q at *
            have hw1 := (wr3 (x := (u : Int)) rfl (by omega)).2
            have hw2 := (wr3 (x := (q : Int)) rfl (by omega)).2
            go_wp2_with fail
            go_quiet (fail)
            go_wp2_with fail
            go_ret3
            exact ⟨by rw [HL.out]; rfl, below_drewN HB.out _⟩
  · have hd4 : decide ((4 : Int) < (n : Int)) = true := by simp; omega
    obtain ⟨rfl, rfl, rfl⟩ := HNO.out (by unfold mayS; rw [decide_eq_false hn4]; rfl)
    go_enter Try.func8, Try.ntmps8
    go_wp2_with fail
    go_ret3
    exact ⟨rfl, Below.refl _ _⟩
set_option maxHeartbeats 1000000 in
theorem rtest_any {w : World} {v : Value} {n : Nat} {p b : Nat → Int} (h : SV w v n p b) : Calls Try.prog 10 #[v] w (YI (teE n p b) w) := by
  have H := Lib.hid (rsum_any h)
  obtain ⟨a, cap, rfl, hn1, hn2⟩ := h.slice
  clear h hn1 hn2
  cases hm : mayS n p b with
  | false =>
    obtain ⟨h1, h2, h3, h4⟩ := su_no hm
    rw [h1, h2, h3] at H
    rw [h4]
    clear hm h1 h2 h3 h4
    go_enter Try.func10, Try.ntmps10
    go_wp2_with fail
    refine H.out.mono ?_
    rintro e w' ⟨rfl, hb⟩
    go_wp2_with fail
    go_ret
    exact ⟨rfl, hb⟩
  | true =>
    obtain ⟨h1, h2, h3, h4⟩ := su_yes hm
    rw [h1, h2, h3] at H
    rw [h4]
    clear hm h1 h2 h3 h4
    generalize (suF n p b).1 = x at *
    generalize (suF n p b).2 = y at *
    by_cases hxy : y < x
    · have hd : decide (((y : Nat) : Int) < (x : Nat)) = true := by simp; omega
      rw [if_pos hxy]
      go_enter Try.func10, Try.ntmps10
      go_wp2_with fail
      refine H.out.mono ?_
      rintro e w' ⟨rfl, hb⟩
      go_wp2_with fail
      go_ret
      exact ⟨rfl, hb⟩
    · have hd : decide (((y : Nat) : Int) < (x : Nat)) = false := by simp; omega
      rw [if_neg hxy]
      go_enter Try.func10, Try.ntmps10
      go_wp2_with fail
      refine H.out.mono ?_
      rintro e w' ⟨rfl, hb⟩
      go_wp2_with fail
      go_ret
      exact ⟨rfl, hb⟩
end Go.Proofs.Ytlifkclgflfnlaa.Sh
