/- What has bytes is read as it was; what can be read has these bytes; bytes that are cut. -/
import Derived.Test.YthbhkcofhhkcoaaConfN
namespace Go.Proofs.Ythbhkcofhhkcoaa
open Go.RowKit Pk Cn
set_option linter.unusedVariables false

theorem two_box {w : World} {a b : Value} {t : TypeId} {w' : World} (h : Below (w.alloc (.cells #[a, b] t)).heap.size (w.alloc (.cells #[a, b] t)) w') : w'.cell? ⟨w.heap.size, 0, none⟩ = some a ∧ w'.cell? ⟨w.heap.size, 1, none⟩ = some b :=
  pz2 (blk (heap_alloc_new w _) h)
theorem nums_bys {L : List Int} (h : L.all isN = true) : Bys (nums L) := by
  induction L with
  | nil => exact Bys.nil
  | cons x L ih =>
    simp only [List.all_cons, Bool.and_eq_true] at h
    exact (num_bys (isN_yes h.1).1).append (ih h.2)
theorem row_bytes {c : Cf} (h : may c = true) : Bys (nums c.row) ∧ 1 ≤ (nums c.row).length ∧ (nums c.row).length ≤ 1710 := by
  have hk := may_ok h
  refine ⟨nums_bys (row_isN hk), ?_, ?_⟩
  · have e : c.row = (c.ps.length : Int) :: (c.ps.flatMap Pt.row ++ rowO c.os) := rfl
    rw [e, nums, List.length_append]
    have := num_bounds (c.ps.length : Int)
    omega
  · have h1 := nums_length c.row
    have h2 := row_len hk
    omega

set_option maxRecDepth 100000 in
set_option maxHeartbeats 4000000 in
theorem back_law {w : World} {B : Nat} {v : Value} {c : Cf} (h : CF w B v c) : Calls Try.prog 5 #[v] w (TrueB w) := by
  obtain ⟨pv, ov, rfl, hp, ho⟩ := h
  obtain ⟨pa, pc, hpv, _⟩ := hp.slice
  obtain ⟨oa, oc, hov, _⟩ := OS.slice ho
  have HC := Lib.hid (fun w' (b : Below w.heap.size w w') => (⟨_, _, rfl, hp.below b, OS.below ho b⟩ : CF w' B (.agg #[pv, ov]) c))
  clear hp ho
  generalize c.ps.length = n at *
  generalize c.os.length = m at *
  subst hpv hov
  have HA := Lib.hid ((Below.refl w.heap.size w).alloc (Nat.le_refl _) (.cells #[.slice pa n pc, .slice oa m oc] 25))
  have HWK := Lib.hid (works_any (w.alloc (.cells #[.slice pa n pc, .slice oa m oc] 25)))
  go_enter Try.func5, Try.ntmps5
  go_wp2_with fail
  refine HWK.out.mono ?_
  rintro e w1 ⟨rfl, hb1⟩
  have BX1 := Lib.hid (blk (heap_alloc_new w _) hb1)
  have HB1 := Lib.hid (HA.out.trans (hb1.mono HA.out.size))
  obtain ⟨z0, z1⟩ := pz2 BX1.out
  have HBY := Lib.hid (bytes_any (HC.out _ HB1.out))
  clear hb1 HWK
  go_wp2_with fail
  refine HBY.out.mono ?_
  intro e w2 hby
  have hb2 := hby.1
  have BX2 := Lib.hid (blk BX1.out hb2)
  have HB2 := Lib.hid (chn HB1.out hb2)
  clear z0 z1 HBY
  obtain ⟨z0, z1⟩ := pz2 BX2.out
  cases hm : may c with
  | false =>
    obtain ⟨rfl, _⟩ := hby.no hm
    have HCK := Lib.hid (check_fit (r := 50) (by unfold ck; rw [hm]; rfl) (HC.out _ HB2.out))
    clear hby hb2 hm BX1 HB1
    go_wp2_with fail
    refine HCK.out.mono ?_
    rintro e w3 ⟨rfl, hb3⟩
    have HB3 := Lib.hid (chn HB2.out hb3)
    clear hb3
    go_wp2_with fail
    go_ret
    exact ⟨rfl, HB3.out⟩
  | true =>
    obtain ⟨bv, rfl, ho2, _⟩ := hby.yes hm
    have hr := row_bytes hm
    have HPR := Lib.hid (parse_eq (parse_row hm) ho2.bs hr.1 (by omega))
    have HCK0 : Hid (ck c = 0) := by unfold Hid ck; rw [hm]; rfl
    clear hby hb2 hm hr ho2 BX1 HB1
    go_wp2_with fail
    refine HPR.out.mono ?_
    rintro e w3 ⟨p3, o3, rfl, hp3, ho3, _, hb3⟩
    obtain ⟨_, _, hq3, _⟩ := hp3.slice
    obtain ⟨_, _, hr3, _⟩ := OS.slice ho3
    have hA3 := fun o => (Below.refl w3.heap.size w3).alloc (Nat.le_refl _) o
    have HC3 := Lib.hid (fun o => (⟨_, _, rfl, hp3.below (hA3 o), OS.below ho3 (hA3 o)⟩ : CF (w3.alloc o) w2.heap.size (.agg #[p3, o3]) c))
    have HB3 := Lib.hid (fun o => alb (chn HB2.out hb3) o)
    have BX3 := Lib.hid (fun o => blk (blk BX2.out hb3) (hA3 o))
    clear hp3 ho3 hb3 hA3 HPR z0 z1
    have zz := fun o => (pz2 (BX3.out o)).1
    have zy := fun o => (pz2 (BX3.out o)).2
    generalize c.ps.length = n3 at *
    generalize c.os.length = m3 at *
    subst hq3 hr3
    have HSM := Lib.hid (fun o => same_any (HC3.out o) (HC.out _ (HB3.out o)))
    go_wp2_with fail
    refine (HSM.out _).mono ?_
    rintro e w4 ⟨rfl, hb4⟩
    have HB4 := Lib.hid (chn (HB3.out _) hb4)
    obtain ⟨z0, z1⟩ := pz2 (blk (BX3.out _) hb4)
    have HCK := Lib.hid (check_fit HCK0.out (HC.out _ HB4.out))
    clear hb4 zz zy HSM
    go_wp2_with fail
    refine HCK.out.mono ?_
    rintro e w5 ⟨rfl, hb5⟩
    have HB5 := Lib.hid (chn HB4.out hb5)
    clear hb5
    go_wp2_with fail
    go_ret
    exact ⟨rfl, HB5.out⟩

set_option maxRecDepth 100000 in
set_option maxHeartbeats 4000000 in
theorem again_law {w : World} {v : Value} {xs : List Int} (hv : BS w v xs) (hb : Bys xs) (hl : xs.length ≤ 140737488351232) : Calls Try.prog 9 #[v] w (TrueB w) := by
  have HV := Lib.hid (fun w' (b : Below w.heap.size w w') => hv.below b)
  obtain ⟨c, E, hp⟩ : ∃ c E, parse xs = (c, E) := ⟨_, _, rfl⟩
  have HP := Lib.hid (parse_eq hp hv hb (by omega))
  have HE := Lib.hid (parse_err xs)
  have HNO : Hid (E ≠ 0 → c = c0) := fun hne => by have := parse_no (xs := xs); rw [hp] at this; exact this hne
  have HMY : Hid (E = 0 → may c = true) := fun he => by have := parse_may (xs := xs); rw [hp] at this; exact this he
  have HRW : Hid (E = 0 → nums c.row = xs) := fun he => by have := row_parse hb; rw [hp] at this; exact this he
  have hE := HE.out
  rw [hp] at hE
  obtain ⟨a, cap, rfl, _⟩ := hv
  clear hb hp HE
  go_enter Try.func9, Try.ntmps9
  go_wp2_with fail
  refine HP.out.mono ?_
  rintro e w1 ⟨p1, o1, rfl, hp1, ho1, _, hb1⟩
  obtain ⟨pa, pc, hq1, _⟩ := hp1.slice
  obtain ⟨oa, oc, hr1, _⟩ := OS.slice ho1
  have hA1 := fun o => (Below.refl w1.heap.size w1).alloc (Nat.le_refl _) o
  have HC1 := Lib.hid (fun o => (⟨_, _, rfl, hp1.below (hA1 o), OS.below ho1 (hA1 o)⟩ : CF (w1.alloc o) w.heap.size (.agg #[p1, o1]) c))
  have HB1 := Lib.hid (fun o => alb hb1 o)
  clear hp1 ho1 hb1 hA1 HP
  by_cases h0 : E = 0
  · subst h0
    have HMY' := Lib.hid (HMY.out rfl)
    have HRW' := Lib.hid (HRW.out rfl)
    have HCK0 : Hid (ck c = 0) := by unfold Hid ck; rw [HMY'.out]; rfl
    clear HMY HRW HNO hE
    generalize c.ps.length = n1 at *
    generalize c.os.length = m1 at *
    subst hq1 hr1
    have HBY := Lib.hid (fun o => bytes_any (HC1.out o))
    have BX1 := Lib.hid (heap_alloc_new w1 (.cells #[.slice pa n1 pc, .slice oa m1 oc] 25))
    go_wp2_with fail
    refine (HBY.out _).mono ?_
    intro e w2 hby
    obtain ⟨bv, rfl, ho2, hb2⟩ := hby.yes HMY'.out
    rw [HRW'.out] at ho2
    have HB2 := Lib.hid (chn (HB1.out _) hb2)
    have BX2 := Lib.hid (blk BX1.out hb2)
    obtain ⟨z0, z1⟩ := pz2 BX2.out
    have HEQ := Lib.hid (eq_any ho2.bs (HV.out _ HB2.out))
    have HCK := Lib.hid (check_fit HCK0.out (CF.below (HC1.out _) hb2))
    have HWK := Lib.hid works_any
    clear hby ho2 hb2 HBY
    go_wp2_with fail
    refine HEQ.out.mono ?_
    rintro e w3 ⟨rfl, rfl⟩
    go_wp2_with fail
    refine HCK.out.mono ?_
    rintro e w4 ⟨rfl, hb4⟩
    have HB4 := Lib.hid (chn HB2.out hb4)
    clear hb4 z0 z1
    go_wp2_with fail
    refine (HWK.out _).mono ?_
    rintro e w5 ⟨rfl, hb5⟩
    have HB5 := Lib.hid (chn HB4.out hb5)
    clear hb5
    go_wp2_with fail
    go_ret
    exact ⟨rfl, HB5.out⟩
  · obtain rfl := HNO.out h0
    clear HMY HRW HNO
    have hl1 : c0.ps.length = 0 := rfl
    have hl2 : c0.os.length = 0 := rfl
    rw [hl1] at hq1
    rw [hl2] at hr1
    subst hq1 hr1
    clear hl1 hl2 HC1
    have hn0 : (E != 0) = true := by simpa using h0
    have HWK := Lib.hid works_any
    have hE2 : E = 3 ∨ E = 4 ∨ E = 50 := by rcases hE with h | h | h | h
                                            · exact absurd h h0
                                            · exact Or.inl h
                                            · exact Or.inr (Or.inl h)
                                            · exact Or.inr (Or.inr h)
    clear hE h0
    rcases hE2 with rfl | rfl | rfl
    all_goals
      go_wp2_with fail
      refine (HWK.out _).mono ?_
      rintro e w5 ⟨rfl, hb5⟩
      have HB5 := Lib.hid (chn (HB1.out _) hb5)
      clear hb5
      go_wp2_with fail
      go_ret
      exact ⟨rfl, HB5.out⟩

end Go.Proofs.Ythbhkcofhhkcoaa
