/- BellOnce. -/
import Derived.Test.YtdfolbnnhglpeaaBellJ
namespace Go.Proofs.Ytdfolbnnhglpeaa
open Go.RowKit Rk
set_option linter.unusedVariables false

set_option maxRecDepth 100000 in
set_option maxHeartbeats 16000000 in
theorem once_law (b off cap n0 : Nat) (zw zk zi za : Nat → Int) (w : World) (hle : n0 ≤ cap) (hmx : cap ≤ 9223372036854775807) (hpos : 0 < n0) (hc : Calls4 w b off n0 zw zk zi za) :
    Calls Try.prog 4 #[.slice (some ⟨b, off, none⟩) n0 cap] w (TrueB w) := by
  have HC := Lib.hid hc
  clear hc
  go_enter Try.func4, Try.ntmps4
  go_wp2_with fail
  refine (works_any w).mono ?_
  rintro e w1 ⟨rfl, hb1⟩
  have HB1 := Lib.hid hb1; clear hb1
  go_wp2_with fail
  refine (ob_new w1).mono ?_
  rintro e w2 ⟨bb, rb, hb, rfl, h2⟩
  have HS : ∀ c : Array Value, c = Array.replicate 64 (.int .i64 0) → Hid (RI w bb rb hb w2.heap.size (w2.alloc (.cells c 38))) := fun c e =>
    ⟨_, _, ⟨(OB.mono HB1.out h2).below ((Below.refl _ _).alloc (Nat.le_refl _) _), ak_new w2 c e, by have := HB1.out.size; have := h2.bel.size; omega⟩, Rl.start⟩
  clear h2 HB1
  go_wp2_with fail
  generalize w2.heap.size = tb at *
  go_loopw [5, 6] (fun nv iv wr => ∃ nw i : Nat, i ≤ n0 ∧ i ≤ 200 ∧ nw ≤ 11 * i ∧ nv = .int .i64 nw ∧ iv = .int .i64 i ∧ Hid (RI w bb rb hb tb wr)) (fun _ iv _ => 200 - (intOf iv).toNat)
  case atStart => exact ⟨0, 0, Nat.zero_le _, by omega, by omega, rfl, rfl, HS _ rfl⟩
  case round =>
    clear HS
    obtain ⟨nw, i, hi, hi2, hnw, rfl, rfl, HI⟩ := hrel
    obtain ⟨P, ks, hoc, hrl⟩ := HI.out
    clear HI
    by_cases hg : i < n0 ∧ i < 200
    · obtain ⟨hin, hi3⟩ := hg
      have hd1 : decide ((i : Int) < 200) = true := by simp; omega
      obtain ⟨i1, i2, i3, i4⟩ := Calls4.below HC.out hoc.O.bel i hin
      have hk := bring_bd (zk i) 4 (by omega)
      have hid := bring_bd (zi i) 16 (by omega)
      have hz30 := bring_bd (za i) 30 (by omega)
      have hz12 := bring_bd (za i) 12 (by omega)
      have hwhat := bring_bd (zw i) 3 (by omega)
      obtain ⟨q1, hq1⟩ : ∃ q : Nat, bringN (zk i) 4 = q := ⟨(bringN (zk i) 4).toNat, by omega⟩
      obtain ⟨q2, hq2⟩ : ∃ q : Nat, bringN (zi i) 16 = q := ⟨(bringN (zi i) 16).toNat, by omega⟩
      have hb1 : q1 < 4 := by omega
      have hb2 : q2 < 16 := by omega
      obtain ⟨kN, hkn⟩ : ∃ k : Nat, 16 * q1 + q2 = k := ⟨_, rfl⟩
      have hkN : kN < 64 := by omega
      have HQ1 := Lib.hid hq1
      have HQ2 := Lib.hid hq2
      have HKI : Hid (16 * (q1 : Int) + (q2 : Int) = (kN : Int)) := by unfold Hid; omega
      have HKN : Hid (bk q1 q2 = (kN : Int)) := by unfold Hid; rw [bk_yes (by omega)]; omega
      have hwhat3 : Hid (bringN (zw i) 3 = 0 ∨ bringN (zw i) 3 = 1 ∨ bringN (zw i) 3 = 2) := by unfold Hid; omega
      clear hk hid hq1 hq2 hkn hwhat
      have HO0 := Lib.hid hoc
      have HRl := Lib.hid hrl
      clear hoc hrl
      go_wp2_with fail
      go_quiet ((go_at_call 18; exact Calls.quiet_of_same (bring_q _ _ (by omega) (by omega) _)))
      rw [HQ1.out, HQ2.out]
      go_wp2_with fail
      rw [HKI.out]
      have hbx : Below wr.heap.size wr ((wr.alloc (.cells #[.int .i64 (zw i), .int .i64 (zk i), .int .i64 (zi i), .int .i64 (za i)] 29)).drewN nq) := below_drewN ((Below.refl _ _).alloc (Nat.le_refl _) _) _
      have c0 : ((wr.alloc (.cells #[.int .i64 (zw i), .int .i64 (zk i), .int .i64 (zi i), .int .i64 (za i)] 29)).drewN nq).cell? ⟨wr.heap.size, 0, none⟩ = some (.int .i64 (zw i)) := (cell_of_row _ _ _ _ _ _ (heap_alloc_new wr _)).trans rfl
      have c3 : ((wr.alloc (.cells #[.int .i64 (zw i), .int .i64 (zk i), .int .i64 (zi i), .int .i64 (za i)] 29)).drewN nq).cell? ⟨wr.heap.size, 3, none⟩ = some (.int .i64 (za i)) := (cell_of_row _ _ _ _ _ _ (heap_alloc_new wr _)).trans rfl
      generalize (wr.alloc (.cells #[.int .i64 (zw i), .int .i64 (zk i), .int .i64 (zi i), .int .i64 (za i)] 29)).drewN nq = wx at hbx c0 c3 ⊢
      have HO : Hid (OC w.heap.size w wx bb rb hb tb P ks) := HO0.out.below hbx
      clear hbx HO0 i1 i2 i3 i4 HQ1 HQ2
      refine (bring_any (zw i) 3 _ (by omega) (by omega)).mono ?_
      rintro e w0 ⟨rfl, rfl⟩
      rcases hwhat3.out with hw0 | hw0 | hw0
      · rw [hw0]
        clear hw0 hwhat3
        obtain ⟨at', hat⟩ : ∃ t : Nat, (nw : Int) + bringN (za i) 30 = t := ⟨((nw : Int) + bringN (za i) 30).toNat, by omega⟩
        have hatb : at' ≤ 100000 := by omega
        have HAt := Lib.hid hat
        have e1 : armE q1 q2 at' = 0 ∧ armP q1 q2 at' P = armed (kN : Nat) at' P := by
          have := arm_ok (kind := q1) (id := q2) (k := at') P (by omega) (by omega)
          rw [HKN.out] at this; exact this
        have HE1 := Lib.hid e1
        have hkn0 : (0 : Int) ≤ (kN : Int) := by omega
        have hkn1 : (kN : Int) < 64 := by omega
        clear hat e1
        go_wp2_with fail
        refine (bring_any (za i) 30 _ (by omega) (by omega)).mono ?_
        rintro e w0 ⟨rfl, rfl⟩
        go_wp2_with fail
        rw [HAt.out]
        refine (oc_arm q1 q2 at' 0 HO.out HE1.out.1 HE1.out.2).mono ?_
        rintro e w4 ⟨rfl, h4⟩
        have H4 := Lib.hid h4
        have cK := h4.T.cell hkN
        have fK := h4.T.free kN
        have HF : Hid (RI w bb rb hb tb (w4.setCell ⟨tb, kN, none⟩ (.int .i64 ((at' : Int) + 1)))) := ⟨_, _, H4.out.set hkN _, HRl.out.arm HO.out.O.wf kN at'⟩
        clear h4 HO H4

        go_wp2_with fail
        go_roundw
        case rel => exact ⟨nw, i + 1, by omega, by omega, by omega, rfl, by go_num, HF⟩
        case measure => simp [intOf]; omega
      · rw [hw0]
        clear hw0 hwhat3
        cases hbb : (mp P kN).isSome with
        | false =>
          have HB : Hid ((mp P (bk q1 q2)).isSome = false) := by unfold Hid; rw [HKN.out]; exact hbb
          have HKv : Hid (decide (0 < ks kN) = false) := by unfold Hid; rw [HRl.out kN hkN, kv_pos (fun k hk => (HO.out.O.wf.key _ (HO.out.O.wf.look.1 hk)).1)]; exact hbb
          have hkn0 : (0 : Int) ≤ (kN : Int) := by omega
          have hkn1 : (kN : Int) < 64 := by omega
          have HD : Hid (OC w.heap.size w wx.drew bb rb hb tb P ks) := HO.out.drew
          have HDel : Hid (del (bk q1 q2) P = del (kN : Nat) P) := by unfold Hid; rw [HKN.out]
          have cK : wx.cell? ⟨tb, kN, none⟩ = some (.int .i64 (ks kN)) := HO.out.T.cell hkN
          obtain ⟨c, hc⟩ : ∃ c, ks kN = c := ⟨_, rfl⟩
          rw [hc] at cK
          have hdc : decide (0 < c) = false := by have := HKv.out; rwa [hc] at this
          have HCan := Lib.hid (oc_can_cell (i := kN) q1 q2 false HD.out hkN HB.out HDel.out)
          rw [hc] at HCan
          clear hbb hc
          go_wp2_with fail
          go_region_held3 (fun w' => w'.cell? ⟨tb, kN, none⟩ = some (.int .i64 c)) (first | assumption | go_keep)
            (first | (go_at_call 20; refine HCan.out.mono ?_; rintro e w4 ⟨rfl, hq4, H4⟩))
          all_goals
            have HF : Hid (RI w bb rb hb tb (w4.setCell ⟨tb, kN, none⟩ (.int .i64 0))) := ⟨_, _, H4.out.set hkN _, HRl.out.can HO.out.O.wf kN⟩
            have fK := H4.out.T.free kN
            clear H4 HO HD
            go_wp2_with fail
            go_roundw
            case rel => exact ⟨nw, i + 1, by omega, by omega, by omega, rfl, by go_num, HF⟩
            case measure => simp [intOf]; omega
        | true =>
          have HB : Hid ((mp P (bk q1 q2)).isSome = true) := by unfold Hid; rw [HKN.out]; exact hbb
          have HKv : Hid (decide (0 < ks kN) = true) := by unfold Hid; rw [HRl.out kN hkN, kv_pos (fun k hk => (HO.out.O.wf.key _ (HO.out.O.wf.look.1 hk)).1)]; exact hbb
          have hkn0 : (0 : Int) ≤ (kN : Int) := by omega
          have hkn1 : (kN : Int) < 64 := by omega
          have HD : Hid (OC w.heap.size w wx.drew bb rb hb tb P ks) := HO.out.drew
          have HDel : Hid (del (bk q1 q2) P = del (kN : Nat) P) := by unfold Hid; rw [HKN.out]
          have cK : wx.cell? ⟨tb, kN, none⟩ = some (.int .i64 (ks kN)) := HO.out.T.cell hkN
          obtain ⟨c, hc⟩ : ∃ c, ks kN = c := ⟨_, rfl⟩
          rw [hc] at cK
          have hdc : decide (0 < c) = true := by have := HKv.out; rwa [hc] at this
          have HCan := Lib.hid (oc_can_cell (i := kN) q1 q2 true HD.out hkN HB.out HDel.out)
          rw [hc] at HCan
          clear hbb hc
          go_wp2_with fail
          go_region_held3 (fun w' => w'.cell? ⟨tb, kN, none⟩ = some (.int .i64 c)) (first | assumption | go_keep)
            (first | (go_at_call 20; refine HCan.out.mono ?_; rintro e w4 ⟨rfl, hq4, H4⟩))
          all_goals
            have HF : Hid (RI w bb rb hb tb (w4.setCell ⟨tb, kN, none⟩ (.int .i64 0))) := ⟨_, _, H4.out.set hkN _, HRl.out.can HO.out.O.wf kN⟩
            have fK := H4.out.T.free kN
            clear H4 HO HD
            go_wp2_with fail
            go_roundw
            case rel => exact ⟨nw, i + 1, by omega, by omega, by omega, rfl, by go_num, HF⟩
            case measure => simp [intOf]; omega
      · rw [hw0]
        clear hw0 hwhat3
        obtain ⟨nx, hnx⟩ : ∃ t : Nat, (nw : Int) + bringN (za i) 12 = t := ⟨((nw : Int) + bringN (za i) 12).toNat, by omega⟩
        have hnxb : nx ≤ nw + 11 := by omega
        have HNx := Lib.hid hnx
        obtain ⟨a, b, hcut⟩ := HO.out.O.wf.cut nx
        have HCut := Lib.hid hcut
        have HAppW : Hid (Wf (a ++ b)) := by unfold Hid; rw [← hcut.eq]; exact HO.out.O.wf
        have HRa : Hid (Rl (a ++ b) ks) := by unfold Hid; rw [← hcut.eq]; exact HRl.out
        clear hnx hcut hkN
        go_wp2_with fail
        refine (bring_any (za i) 12 _ (by omega) (by omega)).mono ?_
        rintro e w0 ⟨rfl, rfl⟩
        go_wp2_with fail
        rw [HNx.out]
        refine (oc_due HO.out HCut.out).mono ?_
        rintro e w4 ⟨v, rfl, hr, h4⟩
        have H4 := Lib.hid h4
        have h4s := h4.O.size
        obtain ⟨va, vc, hv⟩ := hr.slice
        obtain ⟨m, hm⟩ : ∃ m, a.length = m := ⟨_, rfl⟩
        have HM := Lib.hid hm
        rw [hm] at hv
        subst hv
        have hm64 : m ≤ 64 := by have := HAppW.out.len; rw [List.length_append, hm] at this; omega
        have hva : Hid (0 < m → ∃ g, va = some ⟨g, 0, none⟩ ∧ m ≤ vc ∧ vc ≤ 9223372036854775807) := fun h0 => by
          obtain ⟨g, cap, hv, _, _, h3, h4'⟩ := hr.form (by omega)
          injection hv with e1 e2 e3
          unfold maxLen at h4'
          exact ⟨g, e1, by omega, by omega⟩
        have HBx : Hid (∃ B, BR w4 B (.slice va m vc) a) := ⟨_, hr⟩
        clear hr h4 HO hm HRl hz30 hz12 c0 c3
        go_wp2_with fail
        go_loopw [13] (fun jv wr => ∃ (j : Nat) (ks : Nat → Int), j ≤ m ∧ jv = .int .i64 j ∧ Hid (OC w.heap.size w wr bb rb hb tb b ks) ∧ Hid (Rl (a.drop j ++ b) ks) ∧ Hid (∃ B, BR wr B (.slice va m vc) a)) (fun jv _ => m - (intOf jv).toNat)
        case atStart => exact ⟨0, ks, Nat.zero_le _, rfl, H4.out, HRa.out, HBx.out⟩
        case round =>
          clear H4 HRa HBx
          obtain ⟨j, ks, hj, rfl, H4, HRa, HBx⟩ := hrel
          by_cases hjm : j < m
          · obtain ⟨g, hg, hvc, hvm⟩ := hva.out (by omega)
            subst hg
            obtain ⟨Bx, hr⟩ := HBx.out
            have hja : j < a.length := by rw [HM.out]; exact hjm
            have HV : Hid ((Value.slice (some ⟨g, 0, none⟩) m vc) = .slice (some ⟨g, 0, none⟩) a.length vc) := by unfold Hid; rw [HM.out]
            obtain ⟨d1, d2, d3⟩ := hr.cells HV.out j hja
            have hdrop := List.drop_eq_getElem_cons hja
            have hWj : Wf (a.drop j ++ b) := Wf.drop (l := a.take j) (by rw [← List.append_assoc, List.take_append_drop]; exact HAppW.out)
            have hdom := HAppW.out.dom (a[j]) (List.mem_append_left _ (List.getElem_mem _))
            have hkey := HAppW.out.key (a[j]) (List.mem_append_left _ (List.getElem_mem _))
            have hdue := HCut.out.due (a[j]) (List.getElem_mem _)
            obtain ⟨x, hx⟩ : ∃ x, a[j] = x := ⟨_, rfl⟩
            have HX := Lib.hid hx
            rw [hdrop, hx] at hWj
            rw [hx] at d1 d2 d3 hdom hkey hdue
            have HRj : Hid (Rl (x :: (a.drop (j + 1) ++ b)) ks) := by have := HRa.out; rw [hdrop, hx] at this; exact this
            have HWj : Hid (Wf (x :: (a.drop (j + 1) ++ b))) := hWj
            have HJ := Lib.hid hja
            have HR := Lib.hid hr
            clear hdrop hWj hx hr
            obtain ⟨x1, x2⟩ := x
            dsimp only at d1 d2 d3 hdom hkey hdue
            obtain ⟨n, rfl⟩ : ∃ n : Nat, x1 = n := ⟨x1.toNat, by omega⟩
            have hn64 : n < 64 := by omega
            have HRn : Hid (Rl (a.drop (j + 1) ++ b) (kup ks n 0)) := HRj.out.tail HWj.out
            have HKs : Hid (ks n = x2 + 1) := by unfold Hid; rw [HRj.out n hn64, HWj.out.first.1]; rfl
            obtain ⟨q, hq⟩ : ∃ q, (n : Int) / 16 = q := ⟨_, rfl⟩
            obtain ⟨r, hr'⟩ : ∃ r, (n : Int) % 16 = r := ⟨_, rfl⟩
            have HQ : Hid (16 * q + r = n) := by unfold Hid; omega
            have hq0 : 0 ≤ q ∧ q < 4 := by omega
            have HWr : Hid (wrap64 (wrap64 (16 * q) + r) = n) := by
              have e := HQ.out
              unfold Hid
              rw [IntWalk.wrap64_in (16 * q) ⟨by omega, by omega⟩, e, IntWalk.wrap64_in _ ⟨by omega, by omega⟩]
            have hr0 : 0 ≤ r ∧ r < 16 := by omega
            have HQq := Lib.hid hq
            have HRr := Lib.hid hr'
            rw [hq] at d2
            rw [hr'] at d3
            have HB1 : Hid (bringN q 4 = q) := bring_fix hq0.1 hq0.2
            have HB2 : Hid (bringN r 16 = r) := bring_fix hr0.1 hr0.2
            have hdn : decide ((nx : Int) < x2) = false := by simp; omega
            have hn0 : (0 : Int) ≤ (n : Int) := by omega
            have hn1 : (n : Int) < 64 := by omega
            clear HRj HWj HRa HBx hq hr' hdue
            go_wp2_with fail
            go_quiet ((go_at_call 18; exact Calls.quiet_of_same (bring_q _ _ (by omega) (by omega) _)))
            rw [HB1.out, HB2.out, HWr.out]
            go_wp2_with fail
            have hBy : Below wr.heap.size wr (wr.drewN nq) := below_drewN (Below.refl _ _) _
            clear d1 d2 d3
            generalize wr.drewN nq = wy at hBy ⊢
            have H5 : Hid (OC w.heap.size w wy bb rb hb tb b ks) := H4.out.below hBy
            have HR5 : Hid (BR wy Bx (.slice (some ⟨g, 0, none⟩) m vc) a) := HR.out.below hBy
            obtain ⟨d1, d2, d3⟩ := HR5.out.cells HV.out j HJ.out
            rw [HX.out] at d1 d2 d3
            dsimp only at d1 d2 d3
            rw [HQq.out] at d2
            rw [HRr.out] at d3
            have cK : wy.cell? ⟨tb, n, none⟩ = some (.int .i64 (x2 + 1)) := by rw [H5.out.T.cell hn64, HKs.out]
            have hgl := (HR5.out.lt g rfl).2
            have htl := H5.out.T.lt
            clear hBy H4 HR
            by_cases hj0 : 0 < j
            · obtain ⟨jj, hjj⟩ : ∃ jj, j = jj + 1 := ⟨j - 1, by omega⟩
              have hjja : jj < a.length := by have := HJ.out; omega
              obtain ⟨p1, p2, p3⟩ := HR5.out.cells HV.out jj hjja
              have hord : lt (a[jj]) ((n : Int), x2) := by
                have := Wf.order HAppW.out (i := jj) (j := j) (by omega) (by rw [List.length_append]; have := HJ.out; omega)
                rw [List.getElem_append_left (by omega), List.getElem_append_left HJ.out, HX.out] at this
                exact this
              have hA := ahd_lt (x := a[jj]) (y := ((n : Int), x2))
              rw [decide_eq_true hord] at hA
              dsimp only at hA
              rw [HQq.out, HRr.out] at hA
              obtain ⟨y2, hy2⟩ : ∃ y, (a[jj]).2 = y := ⟨_, rfl⟩
              obtain ⟨yq, hyq⟩ : ∃ y, (a[jj]).1 / 16 = y := ⟨_, rfl⟩
              obtain ⟨yr, hyr⟩ : ∃ y, (a[jj]).1 % 16 = y := ⟨_, rfl⟩
              rw [hy2] at p1 hA
              rw [hyq] at p2 hA
              rw [hyr] at p3 hA
              have HCall : ∀ w', Hid (Calls Try.prog 21 #[.agg #[.int .i64 y2, .int .i64 yq, .int .i64 yr], .agg #[.int .i64 x2, .int .i64 q, .int .i64 r]] w' (AhdP true w')) := fun w' => by have := lahead_any y2 yq yr x2 q r w'; rw [hA] at this; exact this
              have hjd : decide ((0 : Int) < (j : Int)) = true := decide_eq_true (by omega)
              have hwr1 : IntKind.i64.wrap (x2 + 1) = x2 + 1 := IntWalk.i64_in _ ⟨by omega, by omega⟩
              have hwr2 : IntKind.i64.wrap ((j : Int) - 1) = (jj : Int) := by rw [IntWalk.i64_in _ ⟨by omega, by omega⟩]; omega
              have hjjm : jj < m := by omega
              have CK := fun n' os => cell_grown (w := wy) (a := ⟨tb, n, none⟩) htl cK n' os
              have D1 := fun n' os => cell_grown (w := wy) (a := ⟨g, j * 3, none⟩) hgl d1 n' os
              have D2 := fun n' os => cell_grown (w := wy) (a := ⟨g, j * 3 + 1, none⟩) hgl d2 n' os
              have D3 := fun n' os => cell_grown (w := wy) (a := ⟨g, j * 3 + 2, none⟩) hgl d3 n' os
              have P1 := fun n' os => cell_grown (w := wy) (a := ⟨g, jj * 3, none⟩) hgl p1 n' os
              have P2 := fun n' os => cell_grown (w := wy) (a := ⟨g, jj * 3 + 1, none⟩) hgl p2 n' os
              have P3 := fun n' os => cell_grown (w := wy) (a := ⟨g, jj * 3 + 2, none⟩) hgl p3 n' os
              have mixed : Try.prog.follows .mixedOrders = true := by kernel_rfl
              clear d1 d2 d3 p1 p2 p3 cK hA hord hy2 hyq hyr hjja hjj
              go_quiet_grown ((go_at_call 21; refine Calls.grown_of ((HCall _).out.mono fun _ _ h => h)))
              have hBz : Below wy.heap.size wy (Sort.grow (wy.drewN nq) osq) := Grw.below ⟨nq, osq, rfl⟩
              clear CK D1 D2 D3 P1 P2 P3 HCall mixed

              generalize Sort.grow (wy.drewN nq) osq = wz at hBz ⊢
              have H6 : Hid (OC w.heap.size w wz bb rb hb tb b ks) := H5.out.below hBz
              have hr6 := HR5.out.below hBz
              have cK6 : wz.cell? ⟨tb, n, none⟩ = some (.int .i64 (x2 + 1)) := by rw [H6.out.T.cell hn64, HKs.out]
              have fK6 := H6.out.T.free n
              have hgt6 : g ≠ tb := H6.out.T.row hr6 rfl
              have HFF : Hid (OC w.heap.size w (wz.setCell ⟨tb, n, none⟩ (.int .i64 0)) bb rb hb tb b (kup ks n 0) ∧ ∃ B, BR (wz.setCell ⟨tb, n, none⟩ (.int .i64 0)) B (.slice (some ⟨g, 0, none⟩) m vc) a) :=
                ⟨H6.out.set hn64 0, _, hr6.keep fun k hk hv => heap_set_other (by have e : g = k := by simpa [Value.ownBlock] using hv
                                                                                  omega)⟩
              clear hBz H5 HR5 H6 hr6 hgt6
              go_wp2_with fail
              go_roundw
              case rel => exact ⟨j + 1, _, by omega, by go_num, HFF.out.1, HRn.out, HFF.out.2⟩
              case measure => simp [intOf]; omega
            · have hj00 : j = 0 := by omega
              subst hj00
              simp only [Nat.zero_mul, Nat.zero_add] at d1 d2 d3
              go_quiet (fail)
              have hBz : Below wy.heap.size wy (wy.drewN nq) := below_drewN (Below.refl _ _) _
              clear d1 d2 d3 cK

              generalize wy.drewN nq = wz at hBz ⊢
              have H6 : Hid (OC w.heap.size w wz bb rb hb tb b ks) := H5.out.below hBz
              have hr6 := HR5.out.below hBz
              have cK6 : wz.cell? ⟨tb, n, none⟩ = some (.int .i64 (x2 + 1)) := by rw [H6.out.T.cell hn64, HKs.out]
              have fK6 := H6.out.T.free n
              have hgt6 : g ≠ tb := H6.out.T.row hr6 rfl
              have HFF : Hid (OC w.heap.size w (wz.setCell ⟨tb, n, none⟩ (.int .i64 0)) bb rb hb tb b (kup ks n 0) ∧ ∃ B, BR (wz.setCell ⟨tb, n, none⟩ (.int .i64 0)) B (.slice (some ⟨g, 0, none⟩) m vc) a) :=
                ⟨H6.out.set hn64 0, _, hr6.keep fun k hk hv => heap_set_other (by have e : g = k := by simpa [Value.ownBlock] using hv
                                                                                  omega)⟩
              clear hBz H5 HR5 H6 hr6 hgt6
              go_wp2_with fail
              go_roundw
              case rel => exact ⟨0 + 1, _, by omega, by go_num, HFF.out.1, HRn.out, HFF.out.2⟩
              case measure => simp [intOf]; omega
          · have hjm' : j = m := by omega
            subst hjm'
            have HRb : Hid (Rl b ks) := by have := HRa.out; rw [List.drop_of_length_le (by rw [HM.out]; exact Nat.le_refl _), List.nil_append] at this; exact this
            clear HRa HBx
            go_wp2_with fail
            go_loop [15] (fun kv => ∃ k : Nat, k ≤ 64 ∧ kv = .int .i64 k) (fun kv => 64 - (intOf kv).toNat)
            case atStart => exact ⟨0, Nat.zero_le _, rfl⟩
            case round =>
              obtain ⟨k, hk, rfl⟩ := hrel
              by_cases hk64 : k < 64
              · have cK := H4.out.T.cell hk64
                rw [HRb.out k hk64] at cK
                have hk0 : (0 : Int) ≤ (k : Int) := by omega
                have hk1 : (k : Int) < 64 := by omega
                cases hmk : mp b k with
                | none =>
                  rw [hmk] at cK
                  simp only [kv] at cK
                  clear hmk
                  go_wp2_with fail
                  go_round
                  case rel => exact ⟨k + 1, by omega, by go_num⟩
                  case measure => simp [intOf]; omega
                | some y =>
                  have hy := H4.out.O.wf.key _ (H4.out.O.wf.look.1 hmk)
                  have hl := HCut.out.left _ (H4.out.O.wf.look.1 hmk)
                  dsimp only at hy hl
                  rw [hmk] at cK
                  simp only [kv] at cK
                  have t1 : decide (0 < y + 1) = true := by simp; omega
                  have t2 : decide (y ≤ (nx : Int)) = false := by simp; omega
                  clear hmk hl
                  go_wp2_with fail
                  go_round
                  case rel => exact ⟨k + 1, by omega, by go_num⟩
                  case measure => simp [intOf]; omega
              · have hdk : decide ((k : Int) < 64) = false := by simp; omega
                have HC2 : Hid (Cut b nx [] b) := ⟨rfl, fun y hy => (nomatch hy), HCut.out.left⟩
                go_wp2_with fail
                refine (oc_due H4.out HC2.out).mono ?_
                rintro e w5 ⟨v, rfl, hr, h5⟩
                have HF : Hid (RI w bb rb hb tb w5) := ⟨_, _, h5, HRb.out⟩
                obtain ⟨va2, vc2, hv⟩ := hr.slice
                simp only [List.length_nil] at hv
                subst hv
                clear hr h5 H4
                go_wp2_with fail
                go_roundw
                case rel => exact ⟨nx, i + 1, by omega, by omega, by omega, rfl, by go_num, HF⟩
                case measure => simp [intOf]; omega
    · have HO := Lib.hid hoc
      have HRl := Lib.hid hrl
      have HC0 : Hid (cnt P 0 = 0) := by
        unfold Hid cnt
        rw [List.length_eq_zero_iff, List.filter_eq_nil_iff]
        intro x hx
        have := (HO.out.O.wf.dom x hx).1
        simp; omega
      clear hoc hrl
      by_cases hin : i < n0
      · have hd1 : decide ((i : Int) < 200) = false := by simp; omega
        go_wp2_with fail
        go_loop [16, 17] (fun cv kv => ∃ k : Nat, k ≤ 64 ∧ cv = .int .i64 (cnt P k) ∧ kv = .int .i64 k) (fun _ kv => 64 - (intOf kv).toNat)
        case atStart => exact ⟨0, Nat.zero_le _, by rw [HC0.out]; rfl, rfl⟩
        case round =>
          obtain ⟨k, hk, rfl, rfl⟩ := hrel
          by_cases hk64 : k < 64
          · have cK := HO.out.T.cell hk64
            rw [HRl.out k hk64] at cK
            have hk0 : (0 : Int) ≤ (k : Int) := by omega
            have hk1 : (k : Int) < 64 := by omega
            have hst := cnt_step k HO.out.O.wf.ord.apart
            have hcb : cnt P k ≤ 64 := Nat.le_trans (List.length_filter_le _ _) HO.out.O.wf.len
            cases hmk : mp P k with
            | none =>
              rw [hmk] at cK hst
              simp only [kv] at cK
              have HSt : Hid (cnt P (k + 1) = cnt P k) := by unfold Hid; rw [hst]; rfl
              clear hmk hst
              go_wp2_with fail
              go_round
              case rel => exact ⟨k + 1, by omega, by rw [HSt.out], by go_num⟩
              case measure => simp [intOf]; omega
            | some y =>
              have hy := HO.out.O.wf.key _ (HO.out.O.wf.look.1 hmk)
              dsimp only at hy
              rw [hmk] at cK hst
              simp only [kv] at cK
              have HSt : Hid (cnt P (k + 1) = cnt P k + 1) := by unfold Hid; rw [hst]; rfl
              have t1 : decide (0 < y + 1) = true := by simp; omega
              clear hmk hst
              generalize cnt P k = ck at *
              go_wp2_with fail
              go_round
              case rel => exact ⟨k + 1, by omega, by rw [HSt.out]; go_num, by go_num⟩
              case measure => simp [intOf]; omega
          · have hdk : decide ((k : Int) < 64) = false := by simp; omega
            have HCn : Hid (cnt P k = P.length) := by unfold Hid; rw [show k = 64 by omega]; exact cnt_all HO.out.O.wf
            rw [HCn.out]
            go_wp2_with fail
            refine (ob_count HO.out.O).mono ?_
            rintro e w5 ⟨rfl, rfl⟩
            go_wp2_with fail
            go_ret
            exact ⟨rfl, HO.out.O.bel⟩
      · have hd0 : decide ((i : Int) < (n0 : Int)) = false := by simp; omega
        go_wp2_with fail
        go_loop [16, 17] (fun cv kv => ∃ k : Nat, k ≤ 64 ∧ cv = .int .i64 (cnt P k) ∧ kv = .int .i64 k) (fun _ kv => 64 - (intOf kv).toNat)
        case atStart => exact ⟨0, Nat.zero_le _, by rw [HC0.out]; rfl, rfl⟩
        case round =>
          obtain ⟨k, hk, rfl, rfl⟩ := hrel
          by_cases hk64 : k < 64
          · have cK := HO.out.T.cell hk64
            rw [HRl.out k hk64] at cK
            have hk0 : (0 : Int) ≤ (k : Int) := by omega
            have hk1 : (k : Int) < 64 := by omega
            have hst := cnt_step k HO.out.O.wf.ord.apart
            have hcb : cnt P k ≤ 64 := Nat.le_trans (List.length_filter_le _ _) HO.out.O.wf.len
            cases hmk : mp P k with
            | none =>
              rw [hmk] at cK hst
              simp only [kv] at cK
              have HSt : Hid (cnt P (k + 1) = cnt P k) := by unfold Hid; rw [hst]; rfl
              clear hmk hst
              go_wp2_with fail
              go_round
              case rel => exact ⟨k + 1, by omega, by rw [HSt.out], by go_num⟩
              case measure => simp [intOf]; omega
            | some y =>
              have hy := HO.out.O.wf.key _ (HO.out.O.wf.look.1 hmk)
              dsimp only at hy
              rw [hmk] at cK hst
              simp only [kv] at cK
              have HSt : Hid (cnt P (k + 1) = cnt P k + 1) := by unfold Hid; rw [hst]; rfl
              have t1 : decide (0 < y + 1) = true := by simp; omega
              clear hmk hst
              generalize cnt P k = ck at *
              go_wp2_with fail
              go_round
              case rel => exact ⟨k + 1, by omega, by rw [HSt.out]; go_num, by go_num⟩
              case measure => simp [intOf]; omega
          · have hdk : decide ((k : Int) < 64) = false := by simp; omega
            have HCn : Hid (cnt P k = P.length) := by unfold Hid; rw [show k = 64 by omega]; exact cnt_all HO.out.O.wf
            rw [HCn.out]
            go_wp2_with fail
            refine (ob_count HO.out.O).mono ?_
            rintro e w5 ⟨rfl, rfl⟩
            go_wp2_with fail
            go_ret
            exact ⟨rfl, HO.out.O.bel⟩

set_option maxRecDepth 100000 in
set_option maxHeartbeats 8000000 in
theorem once_nil (a : Option Addr) (cap : Nat) (w : World) : Calls Try.prog 4 #[.slice a 0 cap] w (TrueB w) := by
  go_enter Try.func4, Try.ntmps4
  go_wp2_with fail
  refine (works_any w).mono ?_
  rintro e w1 ⟨rfl, hb1⟩
  have HB1 := Lib.hid hb1; clear hb1
  go_wp2_with fail
  refine (ob_new w1).mono ?_
  rintro e w2 ⟨bb, rb, hb, rfl, h2⟩
  have HS : ∀ c : Array Value, c = Array.replicate 64 (.int .i64 0) → Hid (RI w bb rb hb w2.heap.size (w2.alloc (.cells c 38))) := fun c e =>
    ⟨_, _, ⟨(OB.mono HB1.out h2).below ((Below.refl _ _).alloc (Nat.le_refl _) _), ak_new w2 c e, by have := HB1.out.size; have := h2.bel.size; omega⟩, Rl.start⟩
  clear h2 HB1
  go_wp2_with fail
  generalize w2.heap.size = tb at *
  go_loopw [5, 6] (fun nv iv wr => nv = .int .i64 0 ∧ iv = .int .i64 0 ∧ Hid (RI w bb rb hb tb wr)) (fun _ iv _ => 0)
  case atStart => exact ⟨rfl, rfl, HS _ rfl⟩
  case round =>
    clear HS
    obtain ⟨rfl, rfl, HI⟩ := hrel
    obtain ⟨P, ks, hoc, hrl⟩ := HI.out
    clear HI
    have HO := Lib.hid hoc
    have HRl := Lib.hid hrl
    have HC0 : Hid (cnt P 0 = 0) := by
      unfold Hid cnt
      rw [List.length_eq_zero_iff, List.filter_eq_nil_iff]
      intro x hx
      have := (HO.out.O.wf.dom x hx).1
      simp; omega
    clear hoc hrl
    go_wp2_with fail
    go_loop [16, 17] (fun cv kv => ∃ k : Nat, k ≤ 64 ∧ cv = .int .i64 (cnt P k) ∧ kv = .int .i64 k) (fun _ kv => 64 - (intOf kv).toNat)
    case atStart => exact ⟨0, Nat.zero_le _, by rw [HC0.out]; rfl, rfl⟩
    case round =>
      obtain ⟨k, hk, rfl, rfl⟩ := hrel
      by_cases hk64 : k < 64
      · have cK := HO.out.T.cell hk64
        rw [HRl.out k hk64] at cK
        have hk0 : (0 : Int) ≤ (k : Int) := by omega
        have hk1 : (k : Int) < 64 := by omega
        have hst := cnt_step k HO.out.O.wf.ord.apart
        have hcb : cnt P k ≤ 64 := Nat.le_trans (List.length_filter_le _ _) HO.out.O.wf.len
        cases hmk : mp P k with
        | none =>
          rw [hmk] at cK hst
          simp only [kv] at cK
          have HSt : Hid (cnt P (k + 1) = cnt P k) := by unfold Hid; rw [hst]; rfl
          clear hmk hst
          go_wp2_with fail
          go_round
          case rel => exact ⟨k + 1, by omega, by rw [HSt.out], by go_num⟩
          case measure => simp [intOf]; omega
        | some y =>
          have hy := HO.out.O.wf.key _ (HO.out.O.wf.look.1 hmk)
          dsimp only at hy
          rw [hmk] at cK hst
          simp only [kv] at cK
          have HSt : Hid (cnt P (k + 1) = cnt P k + 1) := by unfold Hid; rw [hst]; rfl
          have t1 : decide (0 < y + 1) = true := by simp; omega
          clear hmk hst
          generalize cnt P k = ck at *
          go_wp2_with fail
          go_round
          case rel => exact ⟨k + 1, by omega, by rw [HSt.out]; go_num, by go_num⟩
          case measure => simp [intOf]; omega
      · have hdk : decide ((k : Int) < 64) = false := by simp; omega
        have HCn : Hid (cnt P k = P.length) := by unfold Hid; rw [show k = 64 by omega]; exact cnt_all HO.out.O.wf
        rw [HCn.out]
        go_wp2_with fail
        refine (ob_count HO.out.O).mono ?_
        rintro e w5 ⟨rfl, rfl⟩
        go_wp2_with fail
        go_ret
        exact ⟨rfl, HO.out.O.bel⟩

/-- the law of any calls that came in -/
theorem once_any (a : Option Addr) (cap n : Nat) (w : World) (hc : (a = none ∧ n = 0 ∧ cap = 0) ∨ ∃ (x : Addr) (z : Nat → Nat → Int), a = some x ∧ n ≤ cap ∧ cap ≤ maxLen ∧ (0 < n → ∃ b off, x = ⟨b, off, none⟩ ∧ ∀ i j, i < n → j < 4 → w.cell? ⟨b, off + i * 4 + j, none⟩ = some (.int .i64 (z i j)))) :
    Calls Try.prog 4 #[.slice a n cap] w (TrueB w) := by
  rcases hc with ⟨rfl, rfl, rfl⟩ | ⟨x, z, rfl, hl, hm, hx⟩
  · exact once_nil none 0 w
  · by_cases h0 : n = 0
    · subst h0; exact once_nil _ cap w
    · obtain ⟨b, off, rfl, h⟩ := hx (by omega)
      unfold maxLen at hm
      exact once_law b off cap n (fun i => z i 0) (fun i => z i 1) (fun i => z i 2) (fun i => z i 3) w hl (by omega) (by omega) (fun i hi => ⟨h i 0 hi (by omega), h i 1 hi (by omega), h i 2 hi (by omega), h i 3 hi (by omega)⟩)

end Go.Proofs.Ytdfolbnnhglpeaa
