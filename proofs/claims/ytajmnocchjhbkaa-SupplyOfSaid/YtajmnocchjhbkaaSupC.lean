/- The document's Of and Wait. -/
import Derived.Test.YtajmnocchjhbkaaSupB
namespace Go.Proofs.Ytajmnocchjhbkaa
open Go.RowKit Tk Su
set_option linter.unusedVariables false

theorem rserver_any (p b : Int) (w : World) : Calls Try.prog 20 #[.int .i64 p, .int .i64 b] w (IsB (okS p b) w) := by
  cases h1 : decide (1 ≤ p) with
  | false =>
    have E : Hid (okS p b = false) := by have := of_decide_eq_false h1; simp [okS, Hid]; omega
    go_enter Try.func20, Try.ntmps20
    go_wp2
    go_ret
    exact ⟨by rw [E.out]; rfl, rfl⟩
  | true =>
    cases h2 : decide (p ≤ 64) with
    | false =>
      have E : Hid (okS p b = false) := by have := of_decide_eq_false h2; simp [okS, Hid]; omega
      go_enter Try.func20, Try.ntmps20
      go_wp2
      go_ret
      exact ⟨by rw [E.out]; rfl, rfl⟩
    | true =>
      cases h3 : decide (1 ≤ b) with
      | false =>
        have E : Hid (okS p b = false) := by have := of_decide_eq_false h3; simp [okS, Hid]; omega
        go_enter Try.func20, Try.ntmps20
        go_wp2
        go_ret
        exact ⟨by rw [E.out]; rfl, rfl⟩
      | true =>
        have E : Hid (okS p b = decide (b ≤ p)) := by simp [okS, Hid]; have := of_decide_eq_true h3; have := of_decide_eq_true h2; simp [*]
        go_enter Try.func20, Try.ntmps20
        go_wp2
        go_ret
        exact ⟨by rw [E.out]; rfl, rfl⟩
theorem gives_any (P B i : Nat) (w : World) (hB : 0 < B) (hBP : B ≤ P) (hP : P ≤ 64) (hi : i ≤ 2097152) :
    Calls Try.prog 21 #[.int .i64 P, .int .i64 B, .int .i64 i] w (IsB (decide (P - B ≤ i ∧ P - B ≤ (i - (P - B)) % P)) w) := by
  have hs : (P : Int) - B = ((P - B : Nat) : Int) := by omega
  obtain ⟨I, hI⟩ : ∃ I, I = P - B := ⟨_, rfl⟩
  rw [← hI] at hs ⊢
  have hPz : ((P : Int) == 0) = false := by simp; omega
  cases hc : decide (I ≤ i) with
  | false =>
    have E : Hid (decide (I ≤ i ∧ I ≤ (i - I) % P) = false) := by have := of_decide_eq_false hc; simp [Hid]; omega
    clear hI
    go_enter Try.func21, Try.ntmps21
    go_wp2
    go_ret
    exact ⟨by rw [E.out]; rfl, rfl⟩
  | true =>
    have hle := of_decide_eq_true hc
    have E : Hid (decide (I ≤ i ∧ I ≤ (i - I) % P) = decide (I ≤ (i - I) % P)) := by simp [Hid, hle]
    have hd : (i : Int) - I = ((i - I : Nat) : Int) := by omega
    generalize i - I = u at *
    have hm := Nat.mod_lt u (show 0 < P by omega)
    have ht : ((u : Int) % P) = ((u % P : Nat) : Int) := rfl
    generalize u % P = r at *
    clear hI
    go_enter Try.func21, Try.ntmps21
    go_wp2
    go_ret
    exact ⟨by rw [E.out]; rfl, rfl⟩
theorem rof_ok (P B t : Nat) (w : World) (hB : 0 < B) (hBP : B ≤ P) (hP : P ≤ 64) (ht : t ≤ 1048576) :
    Calls Try.prog 10 #[.int .i64 P, .int .i64 B, .int .i64 t] w (Two (sp P (P - B) t : Nat) 0 w) := by
  have HR := Lib.hid (rserver_any P B); rw [okS_yes hB hBP hP] at HR
  have HG := Lib.hid (fun (i : Nat) (h : i ≤ 2097152) (w : World) => gives_any P B i w hB hBP hP h)
  have hs : (P : Int) - B = ((P - B : Nat) : Int) := by omega
  have HQ := Lib.hid (fun t => sp_step (P := P) (I := P - B) (t := t) (by omega) (by omega))
  have HL := Lib.hid (fun (t : Nat) (h : t ≤ P - B) => sp_low (P := P) (t := t) (by omega) h)
  have HM := Lib.hid (fun t => sp_le (t := t) hB hBP)
  have HW : Hid (∀ q, sp P (P - B) (P - B + q * P) = q * B) := fun q => by
    unfold sp
    rw [Nat.add_sub_cancel_left, Nat.mul_div_cancel _ (by omega), Nat.mul_mod_left, show P - (P - B) = B by omega]; omega
  have hI64 : P - B ≤ 64 := by omega
  obtain ⟨I, hI⟩ : ∃ I, I = P - B := ⟨_, rfl⟩
  rw [← hI] at hs HG HQ HL HM HW hI64 ⊢
  have hPz : ((P : Int) == 0) = false := by simp; omega
  cases hc : decide (t < I) with
  | true =>
    have HS := Lib.hid (HL.out t (by have := of_decide_eq_true hc; omega))
    clear HQ HL HM HW hI
    go_enter Try.func10, Try.ntmps10
    go_wp2_with fail
    refine (HR.out _).mono ?_
    rintro e w1 ⟨rfl, rfl⟩
    go_wp2_with fail
    go_ret2
    exact ⟨by rw [HS.out]; rfl, rfl⟩
  | false =>
    have hle := of_decide_eq_false hc
    have hd : (t : Int) - I = ((t - I : Nat) : Int) := by omega
    have hq1 : (t - I) / P ≤ t := Nat.le_trans (Nat.div_le_self _ _) (by omega)
    have hq2 : (t - I) / P * P ≤ t - I := Nat.div_mul_le_self _ _
    have hu : I + (t - I) / P * P ≤ t := by omega
    have he : (((t - I : Nat) : Int) / (P : Int)) = (((t - I) / P : Nat) : Int) := rfl
    have HW2 := Lib.hid (HW.out ((t - I) / P))
    have hqB : (t - I) / P * B ≤ 1048576 * 64 := Nat.mul_le_mul (by omega) (by omega)
    generalize (t - I) / P = q at *
    have e1 : (q : Int) * B = ((q * B : Nat) : Int) := by push_cast; rfl
    have e2 : (q : Int) * P = ((q * P : Nat) : Int) := by push_cast; rfl
    generalize q * B = x at *
    generalize q * P = y at *
    have hw1 : wrap64 ((q : Int) * B) = x := by rw [e1]; unfold wrap64; omega
    have hw2 : wrap64 ((q : Int) * P) = y := by rw [e2]; unfold wrap64; omega
    clear e1 e2 hqB HW HL hle hI
    generalize t - I = u at *
    go_enter Try.func10, Try.ntmps10
    go_wp2_with fail
    refine (HR.out _).mono ?_
    rintro e w1 ⟨rfl, rfl⟩
    go_wp2_with fail
    go_loop [10, 11] (fun n i => ∃ k : Nat, I ≤ k ∧ k ≤ t ∧ i = .int .i64 k ∧ n = .int .i64 (sp P I k : Nat)) (fun _ i => t - (intOf i).toNat)
    case atStart => exact ⟨I + y, by omega, hu, by push_cast; rfl, by rw [HW2.out]; first | rfl | rw [hw1]⟩
    case round =>
      clear HW2 hw1 hw2 he hd hq1 hq2 hu
      obtain ⟨k, hk1, hk2, rfl, rfl⟩ := hrel
      by_cases hlt : k < t
      · have HK := Lib.hid (HG.out k (by omega))
        have HS := Lib.hid (HQ.out k)
        have hM := HM.out k
        generalize sp P I k = S at *
        cases hb : decide (I ≤ k ∧ I ≤ (k - I) % P) with
        | true =>
          rw [hb] at HK
          have HS2 : Hid (sp P I (k + 1) = S + 1) := HS.out.trans (by rw [if_pos (of_decide_eq_true hb)])
          clear HS hb
          go_wp2_with fail
          refine (HK.out _).mono ?_
          rintro e w1 ⟨rfl, rfl⟩
          go_wp2_with fail
          go_round
          case rel => exact ⟨k + 1, by omega, by omega, by go_num, by rw [HS2.out]; rfl⟩
          case measure => simp [intOf]; omega
        | false =>
          rw [hb] at HK
          have HS2 : Hid (sp P I (k + 1) = S) := HS.out.trans (by rw [if_neg (of_decide_eq_false hb), Nat.add_zero])
          clear HS hb
          go_wp2_with fail
          refine (HK.out _).mono ?_
          rintro e w1 ⟨rfl, rfl⟩
          go_wp2_with fail
          go_round
          case rel => exact ⟨k + 1, by omega, by omega, by go_num, by rw [HS2.out]⟩
          case measure => simp [intOf]; omega
      · obtain rfl : k = t := by omega
        go_wp2_with fail
        go_ret2
        exact ⟨rfl, rfl⟩
theorem rof_any (p b t : Int) (w : World) : Calls Try.prog 10 #[.int .i64 p, .int .i64 b, .int .i64 t] w (Two (ofN p b t) (ofE p b t) w) := by
  have HR := Lib.hid (rserver_any p b)
  cases h1 : okS p b with
  | false =>
    rw [ofN_no1 h1, ofE_no1 h1]
    rw [h1] at HR
    clear h1
    go_enter Try.func10, Try.ntmps10
    go_wp2_with fail
    refine (HR.out _).mono ?_
    rintro e w1 ⟨rfl, rfl⟩
    go_wp2_with fail
    go_ret2
    exact ⟨rfl, rfl⟩
  | true =>
    cases h2 : upTo 1048576 t with
    | false =>
      rw [ofN_no2 h2, ofE_no2 h2]
      rw [h1] at HR
      clear h1
      cases h0 : decide (t < 0) with
      | true =>
        clear h2
        go_enter Try.func10, Try.ntmps10
        go_wp2_with fail
        refine (HR.out _).mono ?_
        rintro e w1 ⟨rfl, rfl⟩
        go_wp2_with fail
        go_ret2
        exact ⟨rfl, rfl⟩
      | false =>
        have h3 : decide (1048576 < t) = true := by have := of_decide_eq_false h0; simp [upTo] at h2; simp; omega
        clear h2
        go_enter Try.func10, Try.ntmps10
        go_wp2_with fail
        refine (HR.out _).mono ?_
        rintro e w1 ⟨rfl, rfl⟩
        go_wp2_with fail
        go_ret2
        exact ⟨rfl, rfl⟩
    | true =>
      obtain ⟨P, B, rfl, rfl, g1, g2, g3⟩ := okS_nat h1
      obtain ⟨T, rfl, g4⟩ := upTo_nat h2
      rw [ofN_ok g1 g2 g3 (by omega), ofE_ok g1 g2 g3 (by omega)]
      exact rof_ok P B T w g1 g2 g3 (by omega)
theorem rwait_ok (P B n : Nat) (w : World) (hB : 0 < B) (hBP : B ≤ P) (hP : P ≤ 64) (hn : n ≤ 4096) :
    Calls Try.prog 13 #[.int .i64 P, .int .i64 B, .int .i64 n] w (Two (wt P (P - B) n : Nat) 0 w) := by
  have HR := Lib.hid (rserver_any P B); rw [okS_yes hB hBP hP] at HR
  have HO := Lib.hid (fun (t : Nat) (h : t ≤ 1048576) (w : World) => rof_ok P B t w hB hBP hP h)
  have HW1 := Lib.hid (sp_wt hB hBP n)
  have HW2 := Lib.hid (fun t => sp_less (n := n) (t := t) hB hBP)
  have HW3 := Lib.hid (fun t => sp_le (t := t) hB hBP)
  have hX := wt_le hB hBP hP hn
  have hs : (P : Int) - B = ((P - B : Nat) : Int) := by omega
  have HT := Lib.hid (wt_start (P := P) (n := n) hB hBP)
  have hI64 : P - B ≤ 64 := by omega
  obtain ⟨I, hI⟩ : ∃ I, I = P - B := ⟨_, rfl⟩
  rw [← hI] at hs HO HW1 HW2 HW3 hX HT hI64 ⊢
  obtain ⟨X, hXX⟩ : ∃ X, X = wt P I n := ⟨_, rfl⟩
  rw [← hXX] at HW1 HW2 hX HT ⊢
  have hBz : ((B : Int) == 0) = false := by simp; omega
  clear hXX hI
  have body : True := trivial
  cases hc : decide (B < n) with
  | false =>
    go_enter Try.func13, Try.ntmps13
    go_wp2_with fail
    refine (HR.out _).mono ?_
    rintro e w1 ⟨rfl, rfl⟩
    go_wp2_with fail
    refine (HO.out 0 (by omega) _).mono ?_
    rintro e w1 ⟨rfl, rfl⟩
    go_wp2_with fail
    go_loop [8, 9] (fun t k => ∃ j : Nat, j ≤ X ∧ t = .int .i64 j ∧ k = .int .i64 (sp P I j : Nat)) (fun t _ => X - (intOf t).toNat)
    case atStart => exact ⟨0, by omega, rfl, rfl⟩
    case round =>
      obtain ⟨j, hj, rfl, rfl⟩ := hrel
      by_cases hlt : j < X
      · have hl := HW2.out j hlt
        have HO2 := Lib.hid (HO.out (j + 1) (by omega))
        have hM := HW3.out j
        generalize sp P I j = S at *
        have e1 : ((j + 1 : Nat) : Int) = (j : Int) + 1 := by omega
        rw [e1] at HO2
        clear e1
        go_wp2_with fail
        refine (HO2.out _).mono ?_
        rintro e w1 ⟨rfl, rfl⟩
        go_wp2_with fail
        go_round
        case rel => exact ⟨j + 1, by omega, by go_num, rfl⟩
        case measure => simp [intOf]; omega
      · obtain rfl : j = X := by omega
        rw [HW1.out]
        go_wp2_with fail
        go_ret2
        exact ⟨rfl, rfl⟩
  | true =>
    have hlt := of_decide_eq_true hc
    have hT := HT.out hlt
    have hd : (n : Int) - B = ((n - B : Nat) : Int) := by omega
    have he : (((n - B : Nat) : Int) / (B : Int)) = (((n - B) / B : Nat) : Int) := rfl
    have hq1 : (n - B) / B ≤ 4096 := Nat.le_trans (Nat.div_le_self _ _) (by omega)
    generalize (n - B) / B = q at *
    have e2 : (q : Int) * P = ((q * P : Nat) : Int) := by push_cast; rfl
    generalize q * P = y at *
    have hw2 : wrap64 ((q : Int) * P) = y := by rw [e2]; unfold wrap64; omega
    generalize n - B = u at *
    clear e2 hlt
    go_enter Try.func13, Try.ntmps13
    go_wp2_with fail
    refine (HR.out _).mono ?_
    rintro e w1 ⟨rfl, rfl⟩
    have HO2 := Lib.hid (HO.out (I + y) (by omega))
    have e1 : ((I + y : Nat) : Int) = (I : Int) + y := by omega
    rw [e1] at HO2
    clear e1
    go_wp2_with fail
    refine (HO2.out _).mono ?_
    rintro e w1 ⟨rfl, rfl⟩
    go_wp2_with fail
    go_loop [8, 9] (fun t k => ∃ j : Nat, j ≤ X ∧ t = .int .i64 j ∧ k = .int .i64 (sp P I j : Nat)) (fun t _ => X - (intOf t).toNat)
    case atStart => exact ⟨I + y, by omega, by push_cast; rfl, rfl⟩
    case round =>
      clear hw2 he hd hq1 hT HO2
      obtain ⟨j, hj, rfl, rfl⟩ := hrel
      by_cases hlt : j < X
      · have hl := HW2.out j hlt
        have HO2 := Lib.hid (HO.out (j + 1) (by omega))
        have hM := HW3.out j
        generalize sp P I j = S at *
        have e1 : ((j + 1 : Nat) : Int) = (j : Int) + 1 := by omega
        rw [e1] at HO2
        clear e1
        go_wp2_with fail
        refine (HO2.out _).mono ?_
        rintro e w1 ⟨rfl, rfl⟩
        go_wp2_with fail
        go_round
        case rel => exact ⟨j + 1, by omega, by go_num, rfl⟩
        case measure => simp [intOf]; omega
      · obtain rfl : j = X := by omega
        rw [HW1.out]
        go_wp2_with fail
        go_ret2
        exact ⟨rfl, rfl⟩
theorem rwait_any (p b t : Int) (w : World) : Calls Try.prog 13 #[.int .i64 p, .int .i64 b, .int .i64 t] w (Two (waN p b t) (waE p b t) w) := by
  have HR := Lib.hid (rserver_any p b)
  cases h1 : okS p b with
  | false =>
    rw [waN_no1 h1, waE_no1 h1]
    rw [h1] at HR
    clear h1
    go_enter Try.func13, Try.ntmps13
    go_wp2_with fail
    refine (HR.out _).mono ?_
    rintro e w1 ⟨rfl, rfl⟩
    go_wp2_with fail
    go_ret2
    exact ⟨rfl, rfl⟩
  | true =>
    cases h2 : upTo 4096 t with
    | false =>
      rw [waN_no2 h2, waE_no2 h2]
      rw [h1] at HR
      clear h1
      cases h0 : decide (t < 0) with
      | true =>
        clear h2
        go_enter Try.func13, Try.ntmps13
        go_wp2_with fail
        refine (HR.out _).mono ?_
        rintro e w1 ⟨rfl, rfl⟩
        go_wp2_with fail
        go_ret2
        exact ⟨rfl, rfl⟩
      | false =>
        have h3 : decide (4096 < t) = true := by have := of_decide_eq_false h0; simp [upTo] at h2; simp; omega
        clear h2
        go_enter Try.func13, Try.ntmps13
        go_wp2_with fail
        refine (HR.out _).mono ?_
        rintro e w1 ⟨rfl, rfl⟩
        go_wp2_with fail
        go_ret2
        exact ⟨rfl, rfl⟩
    | true =>
      obtain ⟨P, B, rfl, rfl, g1, g2, g3⟩ := okS_nat h1
      obtain ⟨T, rfl, g4⟩ := upTo_nat h2
      rw [waN_ok g1 g2 g3 (by omega), waE_ok g1 g2 g3 (by omega)]
      exact rwait_ok P B T w g1 g2 g3 (by omega)
end Go.Proofs.Ytajmnocchjhbkaa
