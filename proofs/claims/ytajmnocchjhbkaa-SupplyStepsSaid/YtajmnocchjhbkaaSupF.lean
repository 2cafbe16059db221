/- SupplySteps. -/
import Derived.Test.YtajmnocchjhbkaaSupE
namespace Go.Proofs.Ytajmnocchjhbkaa
open Go.RowKit Tk Su
set_option linter.unusedVariables false

set_option maxRecDepth 100000 in
set_option maxHeartbeats 2000000 in
theorem steps_law (x y t n : Int) (w : World) (hx : -9223372036854775808 ≤ x) (hy : -9223372036854775808 ≤ y) (ht : -9223372036854775808 ≤ t) (hn : -9223372036854775808 ≤ n) : Calls Try.prog 7 #[sv x y, .int .i64 t, .int .i64 n] w (TrueB w) := by
  obtain ⟨P, B, hB, hBP, hP, hM⟩ := made_any x y hx hy
  obtain ⟨T, hT, hT2⟩ := bring_nat t (m := 524288) (by omega)
  obtain ⟨N, hN, hN2⟩ := bring_nat n (m := 4097) (by omega)
  have HM := Lib.hid hM
  have HT := Lib.hid (fun w => bring_any t 524288 w ht (by omega) (by omega))
  have HN := Lib.hid (fun w => bring_any n 4097 w hn (by omega) (by omega))
  have hT' : t % (524288 : Int) = T := hT
  have hN' : n % (4097 : Int) = N := hN
  rw [hT'] at HT
  rw [hN'] at HN
  have hs : (P : Int) - B = ((P - B : Nat) : Int) := by omega
  -- the supplies
  have HA := Lib.hid (of_fit (ofN_ok hB hBP hP (show T ≤ 1048576 by omega)) (ofE_ok hB hBP hP (show T ≤ 1048576 by omega)))
  have HA2 := Lib.hid (of_fit (ofN_ok hB hBP hP (show T + 1 ≤ 1048576 by omega)) (ofE_ok hB hBP hP (show T + 1 ≤ 1048576 by omega)))
  have HA3 := Lib.hid (of_fit (ofN_ok hB hBP hP (show T + P ≤ 1048576 by omega)) (ofE_ok hB hBP hP (show T + P ≤ 1048576 by omega)))
  have hX := wt_le hB hBP hP (show N ≤ 4096 by omega)
  have HW := Lib.hid (wa_fit (waN_ok hB hBP hP (show N ≤ 4096 by omega)) (waE_ok hB hBP hP (show N ≤ 4096 by omega)))
  have HW1 := Lib.hid (sp_wt hB hBP N)
  have HW2 := Lib.hid (fun t => sp_less (n := N) (t := t) hB hBP)
  obtain ⟨X, hXX⟩ : ∃ X, X = wt P (P - B) N := ⟨_, rfl⟩
  rw [← hXX] at HW HW1 HW2 hX
  have HX := Lib.hid (of_fit (ofN_ok hB hBP hP (show X ≤ 1048576 by omega)) (ofE_ok hB hBP hP (show X ≤ 1048576 by omega)))
  have HX1 := Lib.hid (of_fit (ofN_ok hB hBP hP (show X - 1 ≤ 1048576 by omega)) (ofE_ok hB hBP hP (show X - 1 ≤ 1048576 by omega)))
  rw [HW1.out] at HX
  have h1 : sp P (P - B) (T + 1) = sp P (P - B) T ∨ sp P (P - B) (T + 1) = sp P (P - B) T + 1 := by
    rw [sp_step (by omega) (by omega)]
    split
    · exact Or.inr rfl
    · exact Or.inl rfl
  have h2 : P - B ≤ T → sp P (P - B) (T + P) = sp P (P - B) T + B := fun h => by rw [sp_period (by omega) h]; omega
  have h3 := sp_le (t := T) hB hBP
  have h4 := sp_le (t := X - 1) hB hBP
  have e1 : ((T + 1 : Nat) : Int) = (T : Int) + 1 := by omega
  have e2 : ((T + P : Nat) : Int) = (T : Int) + P := by omega
  rw [e1] at HA2
  rw [e2] at HA3
  have H4 : Hid (0 < X → sp P (P - B) (X - 1) < N) := fun h => HW2.out _ (by omega)
  obtain ⟨v2, hv2⟩ : ∃ v2 : Int, v2 = (sp P (P - B) (T + 1) : Nat) := ⟨_, rfl⟩
  obtain ⟨v3, hv3⟩ : ∃ v3 : Int, v3 = (sp P (P - B) (T + P) : Nat) := ⟨_, rfl⟩
  rw [← hv2] at HA2
  rw [← hv3] at HA3
  have H1 : Hid (v2 = (sp P (P - B) T : Nat) ∨ v2 = (sp P (P - B) T : Nat) + 1) := by
    rcases h1 with h | h
    · exact Or.inl (by rw [hv2, h])
    · exact Or.inr (by rw [hv2, h]; push_cast; rfl)
  have H2 : Hid (P - B ≤ T → v3 = (sp P (P - B) T : Nat) + (B : Int)) := fun h => by rw [hv3, h2 h]; push_cast; rfl
  clear hM hT hT' hN hN' hXX HW1 HW2 e1 e2 h1 h2 hv2 hv3
  generalize sp P (P - B) (X - 1) = S4 at *
  generalize sp P (P - B) T = S1 at *
  generalize P - B = I at *
  go_enter Try.func7, Try.ntmps7
  go_wp2_with fail
  refine (HM.out _).mono ?_
  rintro e w1 ⟨rfl, hb⟩
  obtain ⟨f0, f1, c0, c1, hs⟩ := SB.made P B hb
  have HS := Lib.hid hs
  clear hb HM hs
  go_wp2_with fail
  refine (HT.out _).mono ?_
  rintro e w2 ⟨rfl, rfl⟩
  clear f0 f1 c0 c1
  generalize (w1.setCell ⟨w.heap.size, 0, none⟩ (.int .i64 P)).setCell ⟨w.heap.size, 1, none⟩ (.int .i64 B) = W at *
  have c0 := HS.out.c0
  have c1 := HS.out.c1
  go_wp2_with fail
  refine (HN.out _).mono ?_
  rintro e w2 ⟨rfl, rfl⟩
  go_wp2_with fail
  refine (HA.out _).mono ?_
  rintro e w2 ⟨rfl, hb⟩
  have HS2 := Lib.hid (HS.out.below hb)
  clear hb c0 c1 HT HN HA HS
  have c0 := HS2.out.c0
  have c1 := HS2.out.c1
  go_wp2_with fail
  refine (HA2.out _).mono ?_
  rintro e w3 ⟨rfl, hb⟩
  have HS3 := Lib.hid (HS2.out.below hb)
  clear hb c0 c1 HA2 HS2
  have c0 := HS3.out.c0
  have c1 := HS3.out.c1
  go_wp2_with fail
  refine (HA3.out _).mono ?_
  rintro e w4 ⟨rfl, hb⟩
  have HS4 := Lib.hid (HS3.out.below hb)
  clear hb c0 c1 HA3 HS3
  have c0 := HS4.out.c0
  have c1 := HS4.out.c1
  have hs1 : (((S1 : Int) + 1) != (S1 : Int)) = true := by simp; omega
  have hI0 : (decide (I ≤ T) = true ∧ v3 = (S1 : Int) + B) ∨ decide (I ≤ T) = false := by
    by_cases h : I ≤ T
    · exact Or.inl ⟨by simpa using h, H2.out h⟩
    · exact Or.inr (by simpa using h)
  have h1 := H1.out
  clear H1 H2
  rcases h1 with rfl | rfl <;> rcases hI0 with ⟨hI, rfl⟩ | hI
  all_goals
    go_wp2_with fail
    refine (HW.out _).mono ?_
    rintro e w5 ⟨rfl, hb⟩
    have HS5 := Lib.hid (HS4.out.below hb)
    clear hb c0 c1 HW HS4 hs1 hI
    have c0 := HS5.out.c0
    have c1 := HS5.out.c1
    go_wp2_with fail
    refine (HX.out _).mono ?_
    rintro e w6 ⟨rfl, hb⟩
    have HS6 := Lib.hid (HS5.out.below hb)
    clear hb c0 c1 HX HS5
    have c0 := HS6.out.c0
    have c1 := HS6.out.c1
    cases hz : decide (0 < X) with
    | false =>
      go_wp2_with fail
      refine (works_any _).mono ?_
      rintro e w7 ⟨rfl, hb⟩
      have HS7 := Lib.hid (HS6.out.below hb)
      clear hb
      go_wp2_with fail
      go_ret
      exact ⟨rfl, HS7.out.2⟩
    | true =>
      have hlt := H4.out (of_decide_eq_true hz)
      have e : ((X - 1 : Nat) : Int) = (X : Int) - 1 := by have := of_decide_eq_true hz; omega
      rw [e] at HX1
      clear e
      go_wp2_with fail
      refine (HX1.out _).mono ?_
      rintro e w7 ⟨rfl, hb⟩
      have HS7 := Lib.hid (HS6.out.below hb)
      clear hb
      go_wp2_with fail
      refine (works_any _).mono ?_
      rintro e w8 ⟨rfl, hb⟩
      have HS8 := Lib.hid (HS7.out.below hb)
      clear hb
      go_wp2_with fail
      go_ret
      exact ⟨rfl, HS8.out.2⟩
end Go.Proofs.Ytajmnocchjhbkaa
