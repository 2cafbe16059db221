/- The document's Use and Hyper. -/
import Derived.Test.YtdlhnkjghiphoaaDemH
namespace Go.Proofs.Ytdlhnkjghiphoaa
open Go.RowKit Tk De
set_option linter.unusedVariables false

set_option maxHeartbeats 2000000 in
theorem ruse_any {w : World} {v u : Value} {n : Nat} {z : Nat → Nat → Int} {xs : List Int} (h : TK w v n z) (hx : IS w u xs) (t : Int) :
    Calls Try.prog 18 #[v, u, .int .i64 t] w (TwoB (useR n z xs t).1 (useR n z xs t).2 w) := by
  have HCk := Lib.hid (rcheck_any h hx)
  have HT := Lib.hid h; have HX := Lib.hid hx
  obtain ⟨a, cap, rfl, hn1, hn2⟩ := h.slice
  obtain ⟨b, cap2, rfl, hm1, hm2⟩ := hx.slice
  clear h hx
  cases hc : chk n z xs with
  | false =>
    rw [chkE_no hc] at HCk
    have HO := Lib.hid (useR_no1 (t := t) hc)
    clear hc
    go_enter Try.func18, Try.ntmps18
    go_wp2_with fail
    refine HCk.out.mono ?_
    rintro e w1 ⟨rfl, hb⟩
    have HB := Lib.hid hb
    clear hb
    go_wp2_with fail
    go_ret2
    exact ⟨by rw [HO.out]; rfl, HB.out⟩
  | true =>
    rw [chkE_yes hc] at HCk
    cases ht : inn 1 1048576 t with
    | false =>
      have HO := Lib.hid (useR_no2 (n := n) (z := z) (xs := xs) ht)
      rcases inn_no ht with h1 | ⟨h1, h2⟩
      · clear hc ht
        go_enter Try.func18, Try.ntmps18
        go_wp2_with fail
        refine HCk.out.mono ?_
        rintro e w1 ⟨rfl, hb⟩
        have HB := Lib.hid hb
        clear hb
        go_wp2_with fail
        go_ret2
        exact ⟨by rw [HO.out]; rfl, HB.out⟩
      · clear hc ht
        go_enter Try.func18, Try.ntmps18
        go_wp2_with fail
        refine HCk.out.mono ?_
        rintro e w1 ⟨rfl, hb⟩
        have HB := Lib.hid hb
        clear hb
        go_wp2_with fail
        go_ret2
        exact ⟨by rw [HO.out]; rfl, HB.out⟩
    | true =>
      obtain ⟨T, rfl⟩ := inn_nat ht (by omega)
      have hT : 1 ≤ T ∧ T ≤ 1048576 := by have := inn_iff.1 ht; omega
      obtain ⟨hT1, hT⟩ := hT
      have HYes := Lib.hid (fun hd => useR_ok hc hT1 hT hd)
      have HNo := Lib.hid (fun hd => useR_no3 (n := n) (z := z) (xs := xs) (t := T) hd)
      have hgd := goods_of hc
      have HGd := Lib.hid hgd
      have hn4 := hgd.t.n4
      have hl := hgd.l
      rw [hl] at HX hm1 HCk ⊢
      have HL := Lib.hid hl
      have hd0 : decide ((T : Int) < 1) = false := by simp; omega
      have hd1 : decide ((1048576 : Int) < (T : Int)) = false := by simp; omega
      clear hc ht hgd hl
      go_enter Try.func18, Try.ntmps18
      go_wp2_with fail
      refine HCk.out.mono ?_
      rintro e w1 ⟨rfl, hb⟩
      have HB0 := Lib.hid hb
      clear hb HCk
      go_wp2_with fail
      clear hd0 hd1
      go_loopw [8, 9] (fun s i wr => ∃ k : Nat, k ≤ n ∧ i = .int .i64 k ∧ s = .int .i64 (use (per z) (asks z xs) T k : Nat) ∧ Hid (∀ j, j < k → T % per z j = 0) ∧ Hid (Below w.heap.size w wr)) (fun _ i _ => n - (intOf i).toNat)
      case atStart => exact ⟨0, by omega, rfl, rfl, (fun j hj => by omega), HB0.out⟩
      case round =>
        clear HB0
        obtain ⟨k, hk, rfl, rfl, HA, HB⟩ := hrel
        by_cases hlt : k < n
        · obtain ⟨b1, off, rfl, c⟩ := (HT.out.below HB.out).at hlt
          obtain ⟨c0, c1, c2, _, _, _, _, _⟩ := c
          have hxs := HX.out.below HB.out
          rw [← HL.out] at hxs
          obtain ⟨b2, off2, rfl, cx⟩ := hxs.at (i := k) (by rw [HL.out]; exact hlt)
          obtain ⟨e0, e1, p0, p1, p2, p3, p4, p5⟩ := HGd.out.t.at' k hlt
          obtain ⟨m0, m1, m2, m3⟩ := HGd.out.m k hlt
          have hle := HGd.out.use_le hT hk
          have hnx : use (per z) (asks z xs) T (k + 1) = use (per z) (asks z xs) T k + T / per z k * asks z xs k := rfl
          have HStep : Hid (T % per z k = 0 → ∀ j, j < k + 1 → T % per z j = 0) := fun h j hj => by
            by_cases e : j = k
            · rw [e]; exact h
            · exact HA.out j (by omega)
          have HBad : Hid (¬ T % per z k = 0 → useR n z xs T = (0, 2)) := fun h => HNo.out (dvs_no hlt h)
          obtain ⟨s2, hs2⟩ : ∃ s2, use (per z) (asks z xs) T (k + 1) = s2 := ⟨_, rfl⟩
          rw [hs2] at hnx
          have HS2 := Lib.hid hs2
          clear hs2
          generalize use (per z) (asks z xs) T k = s at *
          generalize per z k = P at *
          generalize dea z k = D at *
          generalize asks z xs k = J at *
          generalize xs.getD k 0 = x at *
          generalize z k 0 = z0 at *
          generalize z k 1 = z1 at *
          generalize z k 2 = z2 at *
          subst e0; subst e1
          have hk4 : k * 4362076160 ≤ 4 * 4362076160 := Nat.mul_le_mul_right _ (by omega)
          have hP0 : ((P : Int) == 0) = false := by simp; omega
          have hm : (T : Int) % P = ((T % P : Nat) : Int) := rfl
          have hq1 := Nat.div_le_self T P
          have hpl : T / P * J ≤ 1048576 * 4160 := Nat.mul_le_mul (by omega) m3
          have hdq : (T : Int) / P = ((T / P : Nat) : Int) := rfl
          have hdt : (T : Int).tdiv P = ((T / P : Nat) : Int) := rfl
          generalize T / P = q at *
          generalize hr : T % P = r at *
          clear hxs HA
          cases hz : decide (r = 0) with
          | false =>
            have HE := Lib.hid (HBad.out (of_decide_eq_false hz))
            have hr0 : ((r : Int) != 0) = true := by have := of_decide_eq_false hz; simp; omega
            clear hnx hpl hdq hdt hk4
            go_wp2_with fail
            go_ret2
            exact ⟨by rw [HE.out]; rfl, HB.out⟩
          | true =>
            obtain rfl := of_decide_eq_true hz
            have HA2 := Lib.hid (HStep.out rfl)
            have hs3 : IntKind.i64.wrap (z2 + x) = J := by rw [m2]; exact IntWalk.i64_in _ (by omega)
            have hpn : (q : Int) * J = ((q * J : Nat) : Int) := by push_cast; rfl
            have hs4 : IntKind.i64.wrap ((q : Int) * J) = ((q * J : Nat) : Int) := by rw [hpn]; exact IntWalk.i64_in _ (by omega)
            generalize q * J = pr at *
            have hs5 : IntKind.i64.wrap ((s : Int) + pr) = s2 := by rw [show (s : Int) + pr = s2 by omega]; exact IntWalk.i64_in _ (by omega)
            have hsq : IntKind.i64.wrap (q : Int) = q := IntWalk.i64_in _ (by omega)
            clear hpn hnx hpl m2 hk4 HStep HBad hz
            go_wp2_with fail
            go_quiet (fail)
            go_wp2_with fail
            go_roundw
            case rel => exact ⟨k + 1, by omega, by go_num, by rw [HS2.out], HA2, below_drewN HB.out _⟩
            case measure => simp [intOf]; omega
        · obtain rfl : k = n := by omega
          have HO := Lib.hid (HYes.out (dvs_iff.2 HA.out))
          go_wp2_with fail
          go_ret2
          exact ⟨by rw [HO.out]; rfl, HB.out⟩
theorem hyp_next {n : Nat} {z : Nat → Nat → Int} {p m : Nat} (h : hypL n z p ≤ 4096 → m ≤ hypL n z p) (hm : p ∣ m) (hp : 0 < p) (hne : ¬ ∀ i, i < n → m % per z i = 0) : hypL n z p ≤ 4096 → m + p ≤ hypL n z p := by
  intro hL
  have h1 := h hL
  have hd : p ∣ hypL n z p := (hypL_dvd.1 (Nat.dvd_refl _)).1
  have hne2 : m ≠ hypL n z p := fun e => hne (fun i hi => by
    have := (hypL_dvd.1 (Nat.dvd_refl (hypL n z p))).2 i hi
    rw [e]
    exact Nat.mod_eq_zero_of_dvd this)
  obtain ⟨q, hq⟩ := Nat.dvd_sub hd hm
  have hq0 : 0 < q := by
    rcases Nat.eq_zero_or_pos q with e | e
    · subst e; omega
    · exact e
  have : p ≤ p * q := Nat.le_mul_of_pos_right _ hq0
  omega
theorem hyp_is {n : Nat} {z : Nat → Nat → Int} {p m : Nat} (h : hypL n z p ≤ 4096 → m ≤ hypL n z p) (hm : p ∣ m) (hm0 : 0 < m) (hm4 : m ≤ 4096) (hall : ∀ i, i < n → m % per z i = 0) : hypL n z p = m := by
  have hd : hypL n z p ∣ m := hypL_dvd.2 ⟨hm, fun i hi => Nat.dvd_of_mod_eq_zero (hall i hi)⟩
  have hle := Nat.le_of_dvd hm0 hd
  have := h (by omega)
  omega
set_option maxHeartbeats 2000000 in
theorem rhyper_any {w : World} {v : Value} {n : Nat} {z : Nat → Nat → Int} (h : TK w v n z) (p : Int) :
    Calls Try.prog 16 #[v, .int .i64 p] w (TwoB (hyR n z p).1 (hyR n z p).2 w) := by
  have HCk := Lib.hid (rtasks_any h)
  have HT := Lib.hid h
  obtain ⟨a, cap, rfl, hn1, hn2⟩ := h.slice
  clear h
  cases hc : tasksOK n z with
  | false =>
    rw [hc] at HCk
    have HO := Lib.hid (hyR_no1 (p := p) hc)
    clear hc
    go_enter Try.func16, Try.ntmps16
    go_wp2_with fail
    refine HCk.out.mono ?_
    rintro e w1 ⟨rfl, hb⟩
    have HB := Lib.hid hb
    clear hb
    go_wp2_with fail
    go_ret2
    exact ⟨by rw [HO.out]; rfl, HB.out⟩
  | true =>
    rw [hc] at HCk
    cases ht : inn 1 64 p with
    | false =>
      have HO := Lib.hid (hyR_no2 (n := n) (z := z) ht)
      rcases inn_no ht with h1 | ⟨h1, h2⟩
      · clear hc ht
        go_enter Try.func16, Try.ntmps16
        go_wp2_with fail
        refine HCk.out.mono ?_
        rintro e w1 ⟨rfl, hb⟩
        have HB := Lib.hid hb
        clear hb
        go_wp2_with fail
        go_ret2
        exact ⟨by rw [HO.out]; rfl, HB.out⟩
      · clear hc ht
        go_enter Try.func16, Try.ntmps16
        go_wp2_with fail
        refine HCk.out.mono ?_
        rintro e w1 ⟨rfl, hb⟩
        have HB := Lib.hid hb
        clear hb
        go_wp2_with fail
        go_ret2
        exact ⟨by rw [HO.out]; rfl, HB.out⟩
    | true =>
      obtain ⟨P, rfl⟩ := inn_nat ht (by omega)
      have hP : 0 < P ∧ P ≤ 64 := by have := inn_iff.1 ht; omega
      obtain ⟨hP0, hP64⟩ := hP
      have HR := Lib.hid (hyR_yes hc ht)
      have hgd := good_of hc
      have HGd := Lib.hid hgd
      have hn4 := hgd.n4
      have hd0 : decide ((P : Int) < 1) = false := by simp; omega
      have hd1 : decide ((64 : Int) < (P : Int)) = false := by simp; omega
      have HStart : Hid (hypL n z P ≤ 4096 → P ≤ hypL n z P) := fun _ => Nat.le_of_dvd (hgd.hyp_pos hP0 hP64) (hypL_dvd.1 (Nat.dvd_refl _)).1
      obtain ⟨R, hR⟩ : ∃ R, R = hyR n z P := ⟨_, rfl⟩
      rw [← hR] at HR ⊢
      clear hc ht hgd hR
      go_enter Try.func16, Try.ntmps16
      go_wp2_with fail
      refine HCk.out.mono ?_
      rintro e w1 ⟨rfl, hb⟩
      have HB0 := Lib.hid hb
      clear hb HCk
      go_wp2_with fail
      clear hd0 hd1
      go_loopw [6] (fun m wr => ∃ M : Nat, m = .int .i64 M ∧ 0 < M ∧ M ≤ 4096 + 64 ∧ Hid (P ∣ M) ∧ Hid (hypL n z P ≤ 4096 → M ≤ hypL n z P) ∧ Hid (Below w.heap.size w wr)) (fun m _ => 5000 - (intOf m).toNat)
      case atStart => exact ⟨P, rfl, hP0, by omega, Nat.dvd_refl _, HStart.out, HB0.out⟩
      case round =>
        clear HB0 HStart
        obtain ⟨M, rfl, hM0, hM, HDv, HLe, HB⟩ := hrel
        by_cases hlt : M ≤ 4096
        · have hdl : decide ((M : Int) ≤ 4096) = true := by simp; omega
          go_wp2_with fail
          clear hdl
          obtain ⟨wo, rfl⟩ : ∃ wo : World, wo = wr := ⟨_, rfl⟩
          go_loopw [7, 8] (fun o i wr => ∃ (k : Nat) (q : Bool), k ≤ n ∧ i = .int .i64 k ∧ o = .bool q ∧ Hid (q = true ↔ ∀ j, j < k → M % per z j = 0) ∧ Hid (Below w.heap.size w wr)) (fun _ i _ => n - (intOf i).toNat)
          case atStart => exact ⟨0, true, by omega, rfl, rfl, ⟨fun _ j hj => by omega, fun _ => rfl⟩, HB.out⟩
          case round =>
            clear HB
            obtain ⟨k, q, hk, rfl, rfl, HQ, HB⟩ := hrel
            by_cases hlt2 : k < n
            · cases q with
              | false =>
                have HQ2 : Hid (false = true ↔ ∀ j, j < k + 1 → M % per z j = 0) := ⟨(fun h => by cases h), fun h => HQ.out.2 (fun j hj => h j (by omega))⟩
                go_wp2_with fail
                go_roundw
                case rel => exact ⟨k + 1, false, by omega, by go_num, rfl, HQ2, HB.out⟩
                case measure => simp [intOf]; omega
              | true =>
                obtain ⟨b1, off, rfl, c⟩ := (HT.out.below HB.out).at hlt2
                obtain ⟨c0, c1, c2, _, _, _, _, _⟩ := c
                obtain ⟨e0, _, p0, p1, _⟩ := HGd.out.at' k hlt2
                have HQ2 : Hid (∀ b : Bool, (b = true ↔ M % per z k = 0) → (b = true ↔ ∀ j, j < k + 1 → M % per z j = 0)) := fun b hb => ⟨fun h j hj => by
                  by_cases e : j = k
                  · rw [e]; exact hb.1 h
                  · exact HQ.out.1 rfl j (by omega), fun h => hb.2 (h k (by omega))⟩
                generalize per z k = Q at *
                generalize z k 0 = z0 at *
                subst e0
                have hQ0 : ((Q : Int) == 0) = false := by simp; omega
                have hm : (M : Int) % Q = ((M % Q : Nat) : Int) := rfl
                generalize hr : M % Q = r at *
                cases hz : decide (r = 0) with
                | true =>
                  obtain rfl := of_decide_eq_true hz
                  have HQ3 := Lib.hid (HQ2.out true ⟨fun _ => rfl, fun _ => rfl⟩)
                  clear HQ2 HQ
                  go_wp2_with fail
                  go_roundw
                  case rel => exact ⟨k + 1, true, by omega, by go_num, rfl, HQ3, HB.out⟩
                  case measure => simp [intOf]; omega
                | false =>
                  have hr0 : ((r : Int) == 0) = false := by have := of_decide_eq_false hz; simp; omega
                  have HQ3 := Lib.hid (HQ2.out false ⟨(fun h => by cases h), fun h => absurd h (of_decide_eq_false hz)⟩)
                  clear HQ2 HQ hz
                  go_wp2_with fail
                  go_roundw
                  case rel => exact ⟨k + 1, false, by omega, by go_num, rfl, HQ3, HB.out⟩
                  case measure => simp [intOf]; omega
            · obtain rfl : k = n := by omega
              cases q with
              | true =>
                have hL := hyp_is HLe.out HDv.out hM0 hlt (HQ.out.1 rfl)
                have HE : Hid (R = ((M : Int), 0)) := by rw [Hid, HR.out, hL, if_pos hlt]
                clear hL
                go_wp2_with fail
                go_ret2
                exact ⟨by rw [HE.out]; rfl, HB.out⟩
              | false =>
                have HN := Lib.hid (hyp_next HLe.out HDv.out hP0 (fun h => by have := HQ.out.2 h; cases this))
                have HD2 : Hid (P ∣ M + P) := Nat.dvd_add HDv.out (Nat.dvd_refl _)
                go_wp2_with fail
                go_roundw
                case rel => exact ⟨M + P, by go_num, by omega, by omega, HD2, HN, HB.out⟩
                case measure => simp [intOf]; omega
        · have hdl : decide ((M : Int) ≤ 4096) = false := by simp; omega
          have HE : Hid (R = (0, 5)) := by
            rw [Hid, HR.out, if_neg (fun h => by have := HLe.out h; omega)]
          go_wp2_with fail
          go_ret2
          exact ⟨by rw [HE.out]; rfl, HB.out⟩
end Go.Proofs.Ytdlhnkjghiphoaa
