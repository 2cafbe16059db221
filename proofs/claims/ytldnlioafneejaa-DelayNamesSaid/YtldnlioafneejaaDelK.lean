/- Of, the document's. -/
import Derived.Test.YtldnlioafneejaaDelJ
namespace Go.Proofs.Ytldnlioafneejaa
open Go.RowKit Tk De Dl Go.Sort
set_option linter.unusedVariables false

theorem max_step {D t4 x : Int} : max (max D t4) x = max D (max t4 x) := by omega
set_option maxRecDepth 100000 in
set_option maxHeartbeats 8000000 in
theorem rOf_any {w : World} {v : Value} {ps : List Pn} (h : PS w v ps) (q T : Int) : Calls Try.prog 17 #[v, .int .i64 q, .int .i64 T] w (TwoB (deR ps q T).1 (deR ps q T).2 w) := by
  obtain ⟨a, cap, rfl, hn1, hn2⟩ := h.slice
  obtain ⟨m, hm⟩ : ∃ m, m = ps.length := ⟨_, rfl⟩
  rw [← hm] at h hn1 ⊢
  have hmx : m ≤ 9223372036854775807 := by unfold maxLen at hn2; omega
  clear hn1 hn2
  obtain ⟨X, hX⟩ : ∃ X, X = deR ps q T := ⟨_, rfl⟩
  rw [← hX]
  cases hok : chkP ps with
  | false =>
    have HC := Lib.hid (rcheck9_fit (chkPE_no hok) h)
    have HE : Hid (X = (0, 2)) := by unfold Hid; rw [hX]; unfold deR; rw [hok]; rfl
    clear hX hok h hm
    go_enter Try.func17, Try.ntmps17
    go_wp2_with fail
    refine HC.out.mono ?_
    rintro e w1 ⟨rfl, hb⟩
    have HB := Lib.hid hb
    clear hb
    go_wp2_with fail
    go_ret2
    exact ⟨by rw [HE.out]; rfl, HB.out⟩
  | true =>
    have HC := Lib.hid (rcheck9_fit (chkPE_yes hok) h)
    have HX : Hid (X = if 0 ≤ q ∧ q < m then (if T < 0 then (0, 2) else (del ps q.toNat T (ps.getD q.toNat p0).n, 0)) else (0, 9)) := by unfold Hid; rw [hX]; unfold deR; rw [hok, if_pos rfl, hm]
    have HOK := Lib.hid hok
    have HP := Lib.hid h
    have HM := Lib.hid hm
    clear hX hok h hm
    cases h0 : decide (q < 0) with
    | true =>
      have HE : Hid (X = (0, 9)) := HX.out.trans (if_neg (fun hc => by have := of_decide_eq_true h0; omega))
      clear HX
      go_enter Try.func17, Try.ntmps17
      go_wp2_with fail
      refine HC.out.mono ?_
      rintro e w1 ⟨rfl, hb⟩
      have HB := Lib.hid hb
      clear hb
      go_wp2_with fail
      go_ret2
      exact ⟨by rw [HE.out]; rfl, HB.out⟩
    | false =>
      cases h1 : decide ((m : Int) ≤ q) with
      | true =>
        have HE : Hid (X = (0, 9)) := HX.out.trans (if_neg (fun hc => by have := of_decide_eq_true h1; omega))
        clear HX
        go_enter Try.func17, Try.ntmps17
        go_wp2_with fail
        refine HC.out.mono ?_
        rintro e w1 ⟨rfl, hb⟩
        have HB := Lib.hid hb
        clear hb
        go_wp2_with fail
        go_ret2
        exact ⟨by rw [HE.out]; rfl, HB.out⟩
      | false =>
        obtain ⟨qn, rfl⟩ : ∃ qn : Nat, q = qn := ⟨q.toNat, by have := of_decide_eq_false h0; omega⟩
        have hq : qn < m := by have := of_decide_eq_false h1; omega
        have hqm : (qn : Int) < m := by omega
        have hq0 : (0 : Int) ≤ qn := by omega
        rw [show ((qn : Int)).toNat = qn by omega] at HX
        cases h2 : decide (T < 0) with
        | true =>
          have HE : Hid (X = (0, 2)) := HX.out.trans (by rw [if_pos ⟨by omega, by omega⟩, if_pos (of_decide_eq_true h2)])
          clear HX
          go_enter Try.func17, Try.ntmps17
          go_wp2_with fail
          refine HC.out.mono ?_
          rintro e w1 ⟨rfl, hb⟩
          have HB := Lib.hid hb
          clear hb
          go_wp2_with fail
          go_ret2
          exact ⟨by rw [HE.out]; rfl, HB.out⟩
        | false =>
          have hpb := chkP_at HOK.out (i := qn) (by rw [← HM.out]; exact hq)
          have HE0 : Hid (X = (del ps qn T (ps.getD qn p0).n, 0)) := HX.out.trans (by rw [if_pos ⟨by omega, by omega⟩, if_neg (of_decide_eq_false h2)])
          obtain ⟨b, off, ta, tcap, rfl, d0, d1, d2, hT, l1, l2, l3⟩ := HP.out.at hq
          have HST : Hid (∀ i, del ps qn T (i + 1) = if (ps.getD qn p0).z i 1 ≤ T then del ps qn T i else max (del ps qn T i) (del1 ps qn ((ps.getD qn p0).z i))) := fun i => rfl
          have HD1 : Hid (∀ t, del1 ps qn t = if 0 < t 5 then max (t 4) (wait ps qn t + 2 * t 6 - 1) else t 4) := fun t => rfl
          have HWB : Hid (∀ t, 0 ≤ wait ps qn t ∧ wait ps qn t ≤ 512) := fun t => wait_bd HOK.out qn t
          obtain ⟨p, hp⟩ : ∃ p, p = ps.getD qn p0 := ⟨_, rfl⟩
          rw [← hp] at d0 d1 d2 hT l1 l3 HE0 hpb HST
          clear hp HX
          obtain ⟨per, bud, n, z⟩ := p
          dsimp only at d0 d1 d2 hT l1 l3 HE0 hpb HST
          have HTB := Lib.hid hpb.t
          have hn4 := hpb.n4
          dsimp only at HTB hn4
          have HT := Lib.hid hT
          have HDD := Lib.hid d2
          have hnx : n ≤ 9223372036854775807 := by omega
          clear hT d0 d1 d2 l1 l3 hpb hn4
          have mixed : Try.prog.follows .mixedOrders = true := by kernel_rfl
          go_enter Try.func17, Try.ntmps17
          go_wp2_with fail
          refine HC.out.mono ?_
          rintro e w1 ⟨rfl, hb⟩
          have HB0 := Lib.hid hb
          clear hb HC
          go_wp2_with fail
          go_loopw [9, 10] (fun s i wr => ∃ (k : Nat) (D : Int), k ≤ n ∧ i = .int .i64 k ∧ s = .int .i64 D ∧ Hid (D = del ps qn T k) ∧ Hid (Below w.heap.size w wr)) (fun _ i _ => n - (intOf i).toNat)
          case atStart => exact ⟨0, 0, Nat.zero_le _, rfl, rfl, rfl, HB0.out⟩
          case round =>
            clear HB0
            obtain ⟨k, D, hk, rfl, rfl, HD, HB⟩ := hrel
            have e2 := (HB.out.cell (World.block_lt_of_cell? _ _ HDD.out)).trans HDD.out
            by_cases hlt : k < n
            · obtain ⟨tb, toff, rfl, c⟩ := (HT.out.below HB.out).at hlt
              obtain ⟨c0, c1, c2, c3, c4, c5, c6, c7⟩ := c
              have hA := (Below.refl _ wr).alloc (Nat.le_refl _) (tko (z k))
              have hB2 := HB.out.trans (hA.mono HB.out.size)
              obtain ⟨W2, hW2⟩ : ∃ W2, W2 = wr.alloc (tko (z k)) := ⟨_, rfl⟩
              have bt : ∀ j, j < 8 → (wr.alloc (tko (z k))).cell? ⟨wr.heap.size, j, none⟩ = some (.int .i64 (z k j)) := fun j hj => tko_at wr (z k) hj
              rw [← hW2] at hB2 bt
              have HB2 := Lib.hid hB2
              have HS := Lib.hid (HST.out k)
              have HW := Lib.hid (fun W (bw : Below W2.heap.size W2 W) => rwait_any (q := qn) (t := z k) (HP.out.below (hB2.trans (bw.mono hB2.size))) HOK.out)
              have htb := HTB.out k hlt
              have hg0 := htb.g0
              have h6 := tb_b6 htb
              have hn0 := htb.n0
              have HDL := Lib.hid (HD1.out (z k))
              have hwb := HWB.out (z k)
              rw [← HD.out] at HS
              generalize wait ps qn (z k) = wa at *
              generalize del1 ps qn (z k) = Y at *
              unfold tv at HW
              have b0 := bt 0 (by decide); have b1 := bt 1 (by decide); have b2 := bt 2 (by decide); have b3 := bt 3 (by decide); have b4 := bt 4 (by decide); have b5 := bt 5 (by decide); have b6 := bt 6 (by decide); have b7 := bt 7 (by decide)
              clear bt hA hB2 htb
              unfold tko at hW2
              have HW2 := Lib.hid hW2
              have k0 := cell_regrown b0; have k1 := cell_regrown b1; have k2 := cell_regrown b2; have k3 := cell_regrown b3; have k4 := cell_regrown b4; have k5 := cell_regrown b5; have k6 := cell_regrown b6; have k7 := cell_regrown b7
              have cQ := Lib.hid (fun d os => Calls.regrown_of (HW.out _ (below_regrown W2 d os)))
              clear hW2 HW b0 b1 b2 b3 b4 b5 b6 b7
              cases hd : decide (z k 1 ≤ T) with
              | true =>
                have HE : Hid (D = del ps qn T (k + 1)) := by unfold Hid; rw [HS.out, if_pos (of_decide_eq_true hd)]
                clear HS cQ HDL hwb hg0 h6 hn0
                go_wp2_with fail
                go_roundw
                case rel => rw [← HW2.out]; exact ⟨k + 1, D, by omega, by go_num, rfl, HE, HB2⟩
                case measure => simp [intOf]; omega
              | false =>
                have HE : Hid (del ps qn T (k + 1) = max D Y) := by unfold Hid; rw [HS.out, if_neg (of_decide_eq_false hd)]
                clear HS
                cases hg : decide (0 < z k 5) with
                | false =>
                  have HE2 : Hid (Y = z k 4) := by unfold Hid; rw [HDL.out, if_neg (of_decide_eq_false hg)]
                  clear HDL cQ hwb hg0 h6 hn0
                  go_wp2_with fail
                  all_goals go_roundw
                  all_goals first | (rw [← HW2.out]; exact ⟨k + 1, _, by omega, by go_num, rfl, by unfold Hid; rw [HE.out, HE2.out]; omega, HB2⟩) | (simp [intOf]; omega)
                | true =>
                  have hg' := of_decide_eq_true hg
                  have h6' := h6 hg'
                  have hn0' := (hn0 hg').1
                  have HE2 : Hid (Y = max (z k 4) (wa + 2 * z k 6 - 1)) := by unfold Hid; rw [HDL.out, if_pos hg']
                  have w0 : IntKind.i64.wrap (2 * z k 6) = 2 * z k 6 := IntWalk.i64_in _ (by omega)
                  have w1 : IntKind.i64.wrap (wa + 2 * z k 6) = wa + 2 * z k 6 := IntWalk.i64_in _ (by omega)
                  have w2 : IntKind.i64.wrap (wa + 2 * z k 6 - 1) = wa + 2 * z k 6 - 1 := IntWalk.i64_in _ (by omega)
                  have v0 : wrap64 (2 * z k 6) = 2 * z k 6 := by unfold wrap64; omega
                  have v1 : wrap64 (wa + 2 * z k 6) = wa + 2 * z k 6 := by unfold wrap64; omega
                  have v2 : wrap64 (wa + 2 * z k 6 - 1) = wa + 2 * z k 6 - 1 := by unfold wrap64; omega
                  clear HDL hwb hg0 h6 hn0 h6' hn0' hg'
                  go_wp2_with fail
                  all_goals rw [← HW2.out]
                  all_goals refine wp_region_quiet_below (by assumption) (by kernel_rfl) ?_
                  all_goals
                    repeat (quiet_step (first | exact cQ.out _ _))
                    refine wpQuiet_nil ?_
                    intro _ hw'
                    obtain ⟨⟨dq, osq⟩, hw''⟩ := hw'
                    subst hw''
                    have HB3 := Lib.hid (HB2.out.trans ((below_regrown W2 dq osq).mono HB2.out.size))
                    clear k0 k1 k2 k3 k4 k5 k6 k7 cQ
                    go_wp2_with fail
                    all_goals go_roundw
                    all_goals first | (exact ⟨k + 1, _, by omega, by go_num, rfl, by unfold Hid; rw [HE.out, HE2.out]; omega, HB3⟩) | (exact ⟨k + 1, by omega, by go_num, by unfold Hid; rw [HE.out, HE2.out]; omega⟩) | (simp [intOf]; omega)
            · obtain rfl : k = n := by omega
              go_wp2_with fail
              go_ret2
              exact ⟨by rw [HE0.out, HD.out]; rfl, HB.out⟩
end Go.Proofs.Ytldnlioafneejaa
