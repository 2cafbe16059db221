/- Check, the document's. -/
import Derived.Test.YtldnlioafneejaaDelG
namespace Go.Proofs.Ytldnlioafneejaa
open Go.RowKit Tk De Dl Go.Sort
set_option linter.unusedVariables false

theorem okP_five (p : Pn) : okP p = (!(decide (p.per < 1)) && (!(decide (64 < p.per)) && (!(decide (p.bud < 1)) && (!(decide (p.per < p.bud)) && (tasksOK p.n p.z && okTs p.bud p.z p.n))))) := by
  have e1 : decide (1 ≤ p.per) = !(decide (p.per < 1)) := by rw [Bool.eq_iff_iff]; simp
  have e2 : decide (p.per ≤ 64) = !(decide (64 < p.per)) := by rw [Bool.eq_iff_iff]; simp
  have e3 : decide (1 ≤ p.bud) = !(decide (p.bud < 1)) := by rw [Bool.eq_iff_iff]; simp
  have e4 : decide (p.bud ≤ p.per) = !(decide (p.per < p.bud)) := by rw [Bool.eq_iff_iff]; simp
  unfold okP
  rw [e1, e2, e3, e4]
  simp only [Bool.and_assoc]
set_option maxRecDepth 100000 in
set_option maxHeartbeats 8000000 in
theorem rcheck9_any {w : World} {v : Value} {ps : List Pn} (h : PS w v ps) : Calls Try.prog 13 #[v] w (YI (chkPE ps) w) := by
  obtain ⟨a, cap, rfl, hn1, hn2⟩ := h.slice
  have HP := Lib.hid h
  obtain ⟨n, hn⟩ : ∃ n, n = ps.length := ⟨_, rfl⟩
  have HN := Lib.hid hn
  rw [← hn] at hn1 HP ⊢
  clear h hn
  have hmx : n ≤ 9223372036854775807 := by unfold maxLen at hn2; omega
  obtain ⟨R, hR⟩ : ∃ R, R = chkPE ps := ⟨_, rfl⟩
  have HR0 : Hid (chkP ps = false → R = 2) := fun hf => by rw [hR]; unfold chkPE; rw [hf]; rfl
  have HR1 : Hid (chkP ps = true → R = 0) := fun hf => by rw [hR]; unfold chkPE; rw [hf]; rfl
  rw [← hR]
  clear hR
  cases hx : decide (n ≤ 4) with
  | false =>
    have h4 : decide ((4 : Int) < (n : Int)) = true := by have := of_decide_eq_false hx; simp; omega
    have HF : Hid (R = 2) := HR0.out (okP_len (by have := of_decide_eq_false hx; have := HN.out; omega))
    clear hx
    go_enter Try.func13, Try.ntmps13
    go_wp2_with fail
    go_ret
    exact ⟨by rw [HF.out]; rfl, Below.refl _ _⟩
  | true =>
    have h4 : decide ((4 : Int) < (n : Int)) = false := by have := of_decide_eq_true hx; simp; omega
    have HL : Hid (ps.length ≤ 4) := by have := of_decide_eq_true hx; have := HN.out; unfold Hid; omega
    clear hx
    go_enter Try.func13, Try.ntmps13
    go_wp2_with fail
    go_loopw [3] (fun i wr => ∃ k : Nat, k ≤ n ∧ i = .int .i64 k ∧ Hid (okK ps k = true) ∧ Hid (Below w.heap.size w wr)) (fun i _ => n - (intOf i).toNat)
    case atStart => exact ⟨0, by omega, rfl, rfl, Below.refl _ _⟩
    case round =>
      obtain ⟨k, hk, rfl, HA, HB⟩ := hrel
      obtain ⟨wo, rfl⟩ : ∃ wo, wo = wr := ⟨_, rfl⟩
      by_cases hlt : k < n
      · obtain ⟨b, off, ta, tcap, rfl, c0, c1, c2, hT, l1, l2, l3⟩ := (HP.out.below HB.out).at hlt
        obtain ⟨p, hp⟩ : ∃ p, p = ps.getD k p0 := ⟨_, rfl⟩
        have HNO : Hid (okP p = false → R = 2) := fun hf => HR0.out (okP_no (by rw [← HN.out]; exact hlt) (by rw [← hp]; exact hf))
        have HYE : Hid (okP p = true → okK ps (k + 1) = true) := fun hf => by unfold okK; rw [HA.out, ← hp, hf]; rfl
        rw [← hp] at c0 c1 c2 hT l1 l3
        have HO := Lib.hid (okP_five p)
        clear hp HA
        obtain ⟨per, bud, m, z⟩ := p
        dsimp only at c0 c1 c2 hT l1 l3 HO
        generalize okP ⟨per, bud, m, z⟩ = q at *
        have HK := Lib.hid (KB.made wo per bud ta m tcap)
        have HT := Lib.hid (fun W (hb : Below wo.heap.size wo W) => rtasks_any (w := W) (hT.below hb))
        have HTT := Lib.hid hT
        unfold pvo at HK
        have d0 := HK.out.c0; have d1 := HK.out.c1; have d2 := HK.out.c2
        have hmm : m ≤ 9223372036854775807 := by omega
        clear hT l1
        cases g0 : decide (per < 1) with
        | true =>
          have HE : Hid (R = 2) := HNO.out (by rw [HO.out, g0]; rfl)
          clear HO HNO HYE HT
          go_wp2_with fail
          go_ret
          exact ⟨by rw [HE.out]; rfl, chn HB.out HK.out.b⟩
        | false =>
          cases g1 : decide (64 < per) with
          | true =>
            have HE : Hid (R = 2) := HNO.out (by rw [HO.out, g0, g1]; rfl)
            clear HO HNO HYE HT
            go_wp2_with fail
            go_ret
            exact ⟨by rw [HE.out]; rfl, chn HB.out HK.out.b⟩
          | false =>
            cases g2 : decide (bud < 1) with
            | true =>
              have HE : Hid (R = 2) := HNO.out (by rw [HO.out, g0, g1, g2]; rfl)
              clear HO HNO HYE HT
              go_wp2_with fail
              go_ret
              exact ⟨by rw [HE.out]; rfl, chn HB.out HK.out.b⟩
            | false =>
              cases g3 : decide (per < bud) with
              | true =>
                have HE : Hid (R = 2) := HNO.out (by rw [HO.out, g0, g1, g2, g3]; rfl)
                clear HO HNO HYE HT
                go_wp2_with fail
                go_ret
                exact ⟨by rw [HE.out]; rfl, chn HB.out HK.out.b⟩
              | false =>
                have hbd : bud ≤ 64 := by have h1 := of_decide_eq_false g1; have h3 := of_decide_eq_false g3; omega
                have HQ : Hid (q = (tasksOK m z && okTs bud z m)) := by unfold Hid; rw [HO.out, g0, g1, g2, g3]; rfl
                have HT1 := Lib.hid (HT.out _ HK.out.b)
                clear HO HT
                cases g4 : tasksOK m z with
                | false =>
                  have HE : Hid (R = 2) := HNO.out (by rw [HQ.out, g4]; rfl)
                  rw [g4] at HT1
                  clear HNO HYE HQ g4
                  go_wp2_with fail
                  refine HT1.out.mono ?_
                  rintro e w1 ⟨rfl, hb⟩
                  have HB2 := Lib.hid (chn HB.out (HK.out.below hb).b)
                  clear hb HT1 c0 c1 c2 d0 d1 d2 HK HB
                  go_wp2_with fail
                  go_ret
                  exact ⟨by rw [HE.out]; rfl, HB2.out⟩
                | true =>
                  rw [g4] at HT1
                  have HN2 : Hid (okTs bud z m = false → R = 2) := fun hf => HNO.out (by rw [HQ.out, g4, hf]; rfl)
                  have HY2 : Hid (okTs bud z m = true → okK ps (k + 1) = true) := fun hf => HYE.out (by rw [HQ.out, g4, hf]; rfl)
                  have HG := Lib.hid g4
                  clear HNO HYE HQ g4
                  go_wp2_with fail
                  refine HT1.out.mono ?_
                  rintro e w1 ⟨rfl, hb⟩
                  have HK1 := Lib.hid (HK.out.below hb)
                  have HB1 := Lib.hid (chn HB.out HK1.out.b)
                  clear hb HT1 c0 c1 c2 d0 d1 d2 HK
                  clear g0 g1 g2 g3
                  go_wp2_with fail
                  go_loopw [5] (fun i wq => ∃ j : Nat, j ≤ m ∧ i = .int .i64 j ∧ Hid (okTs bud z j = true) ∧ Hid (KB wo wq per bud ta m tcap)) (fun i _ => m - (intOf i).toNat)
                  case atStart => exact ⟨0, by omega, rfl, rfl, HK1.out⟩
                  case round =>
                    clear HK1 HB1
                    obtain ⟨j, hj, rfl, HAj, HKj⟩ := hrel
                    have e1 := HKj.out.c1
                    have e2 := HKj.out.c2
                    by_cases hjm : j < m
                    · obtain ⟨tb, toff, rfl, t0, t1, t2, t3, t4, t5, t6, t7⟩ := (HTT.out.below HKj.out.b).at hjm
                      have hjmI : (j : Int) < m := by omega
                      have hj0 : (0 : Int) ≤ j := by omega
                      have mixed : Try.prog.follows .mixedOrders = true := by kernel_rfl
                      obtain ⟨x, hx⟩ : ∃ x, okT bud (z j) = x := ⟨_, rfl⟩
                      have hok : tOK (z j) = true := (good_of HG.out).task hjm
                      have HC := Lib.hid (fun W => rtask9_fit hx hok hbd W)
                      have HXN : Hid (x = false → R = 2) := fun hf => HN2.out (okTs_no hjm (by rw [hx, hf]))
                      have HXY : Hid (x = true → okTs bud z (j + 1) = true) := fun hf => okTs_next HAj.out (by rw [hx, hf])
                      unfold tv at HC
                      have k1 := cell_regrown e1; have k2 := cell_regrown e2
                      have f0 := cell_regrown t0; have f1 := cell_regrown t1; have f2 := cell_regrown t2; have f3 := cell_regrown t3; have f4 := cell_regrown t4; have f5 := cell_regrown t5; have f6 := cell_regrown t6; have f7 := cell_regrown t7
                      have cQ := Lib.hid (fun d os => Calls.regrown_of (HC.out (grow (redrawn wr d) os)))
                      have HKW := Lib.hid (fun W' (bw : Below wr.heap.size wr W') => HKj.out.below bw)
                      clear hx hok HAj HC HKj t0 t1 t2 t3 t4 t5 t6 t7
                      go_wp2_with fail
                      clear e1 e2
                      refine wp_region_quiet_below (by assumption) (by kernel_rfl) ?_
                      repeat (quiet_step (first | exact cQ.out _ _))
                      refine wpQuiet_nil ?_
                      intro _ hw'
                      obtain ⟨⟨dq, osq⟩, hw''⟩ := hw'
                      subst hw''
                      have HK2 := Lib.hid (HKW.out _ (below_regrown wr dq osq))
                      clear k1 k2 f0 f1 f2 f3 f4 f5 f6 f7 cQ HKW
                      cases x with
                      | false =>
                        have HE := Lib.hid (HXN.out rfl)
                        clear HXN HXY
                        go_wp2_with fail
                        go_ret
                        exact ⟨by rw [HE.out]; rfl, chn HB.out HK2.out.b⟩
                      | true =>
                        have HE := Lib.hid (HXY.out rfl)
                        clear HXN HXY
                        go_wp2_with fail
                        go_roundw
                        case rel => exact ⟨j + 1, by omega, by go_num, HE, HK2⟩
                        case measure => simp [intOf]; omega
                    · obtain rfl : j = m := by omega
                      have HE := Lib.hid (HY2.out HAj.out)
                      have HB2 := Lib.hid (chn HB.out HKj.out.b)
                      clear HAj
                      go_wp2_with fail
                      go_roundw
                      case rel => exact ⟨k + 1, by omega, by go_num, HE, HB2⟩
                      case measure => simp [intOf]; omega
      · obtain rfl : k = n := by omega
        have HE : Hid (R = 0) := HR1.out (okK_chk (by rw [← HN.out]; exact HA.out) HL.out)
        go_wp2_with fail
        go_ret
        exact ⟨by rw [HE.out]; rfl, HB.out⟩
end Go.Proofs.Ytldnlioafneejaa
