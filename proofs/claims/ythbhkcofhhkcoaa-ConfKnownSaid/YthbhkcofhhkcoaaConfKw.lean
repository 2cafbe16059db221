/- ConfKnown. -/
import Derived.Test.YthbhkcofhhkcoaaConfKd
import Derived.Deep.CutRange
namespace Go.Proofs.Ythbhkcofhhkcoaa
open Go.RowKit Pk Cn
set_option linter.unusedVariables false
set_option maxRecDepth 100000 in
set_option maxHeartbeats 20000000 in
theorem known_law (w : World) : Calls Try.prog 3 #[] w (TrueB w) := by
  obtain ⟨iT, hiT, hT0, hT1, hT2⟩ := info_parts infoTk
  obtain ⟨iP, hiP, hP0, hP1, hP2⟩ := info_parts infoPt
  obtain ⟨iO, hiO, hO0, hO1, hO2⟩ := info_parts infoPo
  go_enter Try.func3, Try.ntmps3
  go_wp2_with fail
  go_loopw [2, 3, 4] (fun i _ _ wr => ∃ (k : Nat) (sv : Value), k ≤ 4 ∧ i = .int .i64 k ∧ Hid (PW wr (w.heap.size + 1) sv (List.replicate k pF)) ∧ Hid (wr.heap[w.heap.size]? = some (.cells #[sv, .slice none 0 0] 25 (0, 0))) ∧ Hid (Below w.heap.size w wr)) (fun i _ _ _ => 4 - (intOf i).toNat)
  case atStart => exact ⟨0, .slice none 0 0, by omega, rfl, PW.nil _ _, heap_alloc_new w _, (Below.refl _ w).alloc (Nat.le_refl _) _⟩
  case round =>
    obtain ⟨k, sv, hk, rfl, HPW, HC, HW⟩ := hrel
    by_cases hlt : k < 4
    · have hd : decide ((k : Int) < 4) = true := by simp; omega
      obtain ⟨wo, rfl⟩ : ∃ wo : World, wo = wr := ⟨_, rfl⟩
      go_wp2_with fail
      have HA := Lib.hid ((Below.refl wo.heap.size wo).alloc (Nat.le_refl _) (.cells #[.int .i64 64, .int .i64 20, .slice none 0 0] 28))
      have HG := Lib.hid (heap_alloc_new wo (.cells #[.int .i64 64, .int .i64 20, .slice none 0 0] 28))
      go_loopw [4] (fun i wr => ∃ (j : Nat) (tv : Value), j ≤ 4 ∧ i = .int .i64 j ∧ Hid (TW wr (wo.heap.size + 1) tv (List.replicate j tF)) ∧ Hid (wr.heap[wo.heap.size]? = some (.cells #[.int .i64 64, .int .i64 20, tv] 28 (0, 0))) ∧ Hid (Below wo.heap.size wo wr)) (fun i _ => 4 - (intOf i).toNat)
      case atStart => exact ⟨0, .slice none 0 0, by omega, rfl, World.ownsRow_nil _ _ _ _, HG.out, HA.out⟩
      case round =>
        clear HA HG
        obtain ⟨j, tv, hj, rfl, HTW, HG, HB⟩ := hrel
        by_cases hlj : j < 4
        · have hd2 : decide ((j : Int) < 4) = true := by simp; omega
          obtain ⟨g0, g1, g2⟩ := pz_of HG.out
          obtain ⟨ta, tcap, htv⟩ := HTW.out.form
          have hlr : (List.replicate j tF).length = j := List.length_replicate
          rw [hlr] at htv
          subst htv
          have HOW : Hid (wr.ownsRow (wo.heap.size + 1) 30 8 (.slice ta j tcap) j (tcs (List.replicate j tF))) := by have h := HTW.out; unfold TW at h; rw [hlr] at h; exact h
          have hsz : wo.heap.size + 1 ≤ wr.heap.size := (Array.getElem?_eq_some_iff.1 HG.out).1
          clear hlr
          go_wp2_with (at_builtin; refine wpList_append_own _ rfl (.tmp 29) (.tmp 31) 26 rfl (wo.heap.size + 1) 30 iT _ 8 64 Try.underlying26 hiT hT0 hT1 hT2 rfl (by decide) _ j _ rfl (World.ownsRow.alloc HOW.out _) ⟨wr.heap.size, 0, none⟩ 1 1 (tF.row.map (Value.int .i64)) rfl rfl ?q1 (one_i64 _) ?c3 ?c4 ?c5 ?c6)
          case q1 => exact lit_add rfl _ _
          case c3 => unfold maxLen; omega
          case c4 => omega
          case c5 => simp; omega
          case c6 =>
            intro v' w3 hown hgr _
            obtain ⟨p1, p2, p3, p4, p5⟩ := task_put (w := wr.alloc (.cells ((tF.row.map (Value.int .i64)).toArray) 30)) (t := tF) ((Below.heap_alloc wr _ _ (by omega)).trans HG.out) List.length_replicate (TW.below HTW.out ((Below.refl _ _).alloc (Nat.le_refl _) _)) hown hgr
            obtain ⟨va, vcap, hva⟩ := own_form hown
            subst hva
            have hrep : List.replicate j tF ++ [tF] = List.replicate (j + 1) tF := (List.replicate_succ' ..).symm
            rw [hrep] at p1
            have P1 := Lib.hid p1; have P2 := Lib.hid p2
            have P3 : Hid (Below wo.heap.size wo (w3.setCell ⟨wo.heap.size, 2, none⟩ (.slice va (j + 1) vcap))) := (HB.out.alloc HB.out.size _).trans p3
            clear hown hgr p1 p2 p3 hrep HOW HTW HG g0 g1 g2
            go_wp2_with fail
            go_roundw
            case rel => exact ⟨j + 1, _, by omega, by go_num, P1, P2, P3⟩
            case measure => simp [intOf]; omega
        · obtain rfl : j = 4 := by omega
          have hd2 : decide (((4 : Nat) : Int) < 4) = false := by decide
          obtain ⟨g0, g1, g2⟩ := pz_of HG.out
          obtain ⟨ta, tcap, htv⟩ := HTW.out.form
          rw [show (List.replicate 4 tF).length = 4 from rfl] at htv
          subst htv
          have hoB : w.heap.size < wo.heap.size := (Array.getElem?_eq_some_iff.1 HC.out).1
          have hC : wr.heap[w.heap.size]? = some (.cells #[sv, .slice none 0 0] 25 (0, 0)) := (HB.out.block _ hoB).trans HC.out
          have hPW := HPW.out.below HB.out
          have hTW := HTW.out.mono (C := w.heap.size + 1) (by omega)
          have HWB := Lib.hid (HW.out.trans (HB.out.mono (by omega)))
          obtain ⟨c0, c1⟩ := pz2 hC
          obtain ⟨sa, scap, hsv⟩ := hPW.form
          rw [List.length_replicate] at hsv
          obtain ⟨xs, hrow, hnext⟩ := hPW.row
          rw [List.length_replicate] at hrow hnext
          have HROW := Lib.hid hrow; have HNEXT := Lib.hid hnext; have HTW2 := Lib.hid hTW; have HC2 := Lib.hid hC
          have hoB2 : w.heap.size + 1 ≤ wr.heap.size := (Array.getElem?_eq_some_iff.1 hC).1
          clear hrow hnext hPW hTW hC HPW HTW HW HC HG HB
          subst hsv
          go_wp2_with (at_builtin; refine wpList_append_own _ rfl (.tmp 35) (.tmp 37) 22 rfl (w.heap.size + 1) 28 iP _ 3 40 Try.underlying22 hiP hP0 hP1 hP2 rfl (by decide) _ k _ rfl (World.ownsRow.alloc HROW.out _) ⟨wr.heap.size, 0, none⟩ 1 1 [.int .i64 64, .int .i64 20, .slice ta 4 tcap] rfl rfl ?q1 ?q2 ?c3 ?c4 ?c5 ?c6)
          case q1 => exact lit_add rfl _ _
          case q2 => exact pt_one 64 20 _ rfl
          case c3 => unfold maxLen; omega
          case c4 => omega
          case c5 => simp; omega
          case c6 =>
            intro v' w3 hown hgr _
            have hp3 := HNEXT.out _ _ _ _ pF HTW2.out hgr hown
            obtain ⟨h3, f3, _, x3, _, hbw⟩ := cfg_put HC2.out (by omega) HROW.out hgr
            obtain ⟨va, vcap, hva⟩ := own_form hown
            subst hva
            have hrep : List.replicate k pF ++ [pF] = List.replicate (k + 1) pF := (List.replicate_succ' ..).symm
            rw [hrep] at hp3
            have P1 : Hid (PW (w3.setCell ⟨w.heap.size, 0, none⟩ (.slice va (k + 1) vcap)) (w.heap.size + 1) (.slice va (k + 1) vcap) (List.replicate (k + 1) pF)) := hp3.set (by omega)
            have P2 : Hid ((w3.setCell ⟨w.heap.size, 0, none⟩ (.slice va (k + 1) vcap)).heap[w.heap.size]? = some (.cells #[.slice va (k + 1) vcap, .slice none 0 0] 25 (0, 0))) := heap_set_same h3
            have P3 : Hid (Below w.heap.size w (w3.setCell ⟨w.heap.size, 0, none⟩ (.slice va (k + 1) vcap))) := HWB.out.trans (hbw 0 _)
            clear hp3 h3 hbw hown hgr hrep HROW HNEXT HTW2 HC2 HWB c0 c1 g0 g1 g2
            go_wp2_with fail
            go_roundw
            case rel => exact ⟨k + 1, _, by omega, by go_num, P1, P2, P3⟩
            case measure => simp [intOf]; omega
    · obtain rfl : k = 4 := by omega
      have hd : decide (((4 : Nat) : Int) < 4) = false := by decide
      go_wp2_with fail
      rw [show ((4 : Nat) : Int) = 4 from rfl]
      obtain ⟨sv0, hsv0⟩ : ∃ x, x = sv := ⟨_, rfl⟩
      go_loopw [5] (fun i wr => ∃ (j : Nat) (ov : Value), j ≤ 8 ∧ i = .int .i64 j ∧ Hid (OW wr (w.heap.size + 1) ov (osF j)) ∧ Hid (PW wr (w.heap.size + 1) sv (List.replicate 4 pF)) ∧ Hid (wr.heap[w.heap.size]? = some (.cells #[sv, ov] 25 (0, 0))) ∧ Hid (Below w.heap.size w wr)) (fun i _ => 8 - (intOf i).toNat)
      case atStart => exact ⟨0, .slice none 0 0, by omega, rfl, World.ownsRow_nil _ _ _ _, HPW, HC, HW⟩
      case round =>
        clear HPW HC HW
        obtain ⟨j, ov, hj, rfl, HOW, HPW, HC, HW⟩ := hrel
        by_cases hlj : j < 8
        · obtain ⟨x, hx⟩ : ∃ x : Int, (j : Int) = x := ⟨_, rfl⟩
          rw [hx]
          have hd2 : decide (x < 8) = true := by simp; omega
          obtain ⟨c0, c1⟩ := pz2 HC.out
          obtain ⟨oa, ocap, hov⟩ := own_form HOW.out
          rw [osF_len] at hov
          have HROW : Hid (wr.ownsRow (w.heap.size + 1) 32 6 ov j (ocs (osF j))) := by have h := HOW.out; unfold OW at h; rw [osF_len] at h; exact h
          have hoB2 : w.heap.size + 1 ≤ wr.heap.size := (Array.getElem?_eq_some_iff.1 HC.out).1
          obtain ⟨r1, hr1⟩ : ∃ r, x.tmod 4 = r := ⟨_, rfl⟩
          obtain ⟨r2, hr2⟩ : ∃ r, (x + 1).tmod 4 = r := ⟨_, rfl⟩
          have hb1 : 0 ≤ r1 ∧ r1 < 4 := by rw [← hr1, Int.tmod_eq_emod_of_nonneg (by omega)]; omega
          have hb2 : 0 ≤ r2 ∧ r2 < 4 := by rw [← hr2, Int.tmod_eq_emod_of_nonneg (by omega)]; omega
          have hw1 : wrap64 (x + 1) = x + 1 := by unfold wrap64; omega
          have hw2 : wrap64 r1 = r1 := by unfold wrap64; omega
          have hw3 : wrap64 r2 = r2 := by unfold wrap64; omega
          have HO : Hid ((oF j).row = [2, r1, r2, 16, 4, 0]) := by unfold Hid oF; rw [hx, hr1, hr2]; rfl
          have HX := Lib.hid hx
          clear hx hb1 hb2
          subst hov
          go_wp2_with (at_builtin; refine wpList_append_own _ rfl (.tmp 45) (.tmp 52) 23 rfl (w.heap.size + 1) 32 iO _ 6 48 Try.underlying23 hiO hO0 hO1 hO2 rfl (by decide) _ j _ rfl (World.ownsRow.alloc HROW.out _) ⟨wr.heap.size, 0, none⟩ 1 1 ([2, r1, r2, 16, 4, 0].map (Value.int .i64)) rfl rfl ?q1 (one_i64 _) ?c3 ?c4 ?c5 ?c6)
          case q1 => exact lit_add rfl _ _
          case c3 => unfold maxLen; omega
          case c4 => omega
          case c5 => simp; omega
          case c6 =>
            intro v' w3 hown hgr _
            have hp3 := HPW.out.port HROW.out hgr
            obtain ⟨h3, _, f3, _, x3, hbw⟩ := cfg_put HC.out (by omega) HROW.out hgr
            obtain ⟨va, vcap, hva⟩ := own_form hown
            subst hva
            have ho3 : OW w3 (w.heap.size + 1) (.slice va (j + 1) vcap) (osF (j + 1)) := by
              unfold OW
              rw [osF_len, osF_succ, ocs_snoc, HO.out]
              exact hown
            have P0 : Hid (OW (w3.setCell ⟨w.heap.size, 1, none⟩ (.slice va (j + 1) vcap)) (w.heap.size + 1) (.slice va (j + 1) vcap) (osF (j + 1))) := ho3.set (by omega)
            have P1 : Hid (PW (w3.setCell ⟨w.heap.size, 1, none⟩ (.slice va (j + 1) vcap)) (w.heap.size + 1) sv (List.replicate 4 pF)) := hp3.set (by omega)
            have P2 : Hid ((w3.setCell ⟨w.heap.size, 1, none⟩ (.slice va (j + 1) vcap)).heap[w.heap.size]? = some (.cells #[sv, .slice va (j + 1) vcap] 25 (0, 0))) := heap_set_same h3
            have P3 : Hid (Below w.heap.size w (w3.setCell ⟨w.heap.size, 1, none⟩ (.slice va (j + 1) vcap))) := HW.out.trans (hbw 1 _)
            clear hp3 h3 hbw hown hgr ho3 HROW HPW HOW HC HW c0 c1 hr1 hr2 hw2 hw3 HO
            go_wp2_with fail
            go_roundw
            case rel => exact ⟨j + 1, _, by omega, by have := HX.out; go_num, P0, P1, P2, P3⟩
            case measure => have := HX.out; simp [intOf]; omega
        · obtain rfl : j = 8 := by omega
          have hd2 : decide (((8 : Nat) : Int) < 8) = false := by decide
          obtain ⟨c0, c1⟩ := pz2 HC.out
          obtain ⟨go, ocap, hov⟩ : ∃ go ocap, ov = .slice (some ⟨go, 0, none⟩) 8 ocap := by
            have h := HOW.out
            unfold OW at h
            obtain ⟨g, c, e, _⟩ := own_some (n := 8) h (by decide)
            exact ⟨g, c, e⟩
          obtain ⟨gs, scap, hsv⟩ : ∃ gs scap, sv = .slice (some ⟨gs, 0, none⟩) 4 scap := by
            obtain ⟨xs0, hr0, _⟩ := HPW.out.row
            obtain ⟨g, c, e, _⟩ := own_some (n := 4) hr0 (by decide)
            exact ⟨g, c, e⟩
          have HCF : Hid (CF wr (w.heap.size + 1) (.agg #[sv, ov]) full) := ⟨_, _, rfl, HPW.out.ps, HOW.out.os⟩
          subst hov hsv
          go_wp2_with fail
          rw [show ((8 : Nat) : Int) = 8 from rfl]
          have HOW2 := HOW; have HPW2 := HPW
          refine (check_fit full_ck HCF.out).mono ?_
          rintro e w1 ⟨rfl, hb⟩
          have HC1 := Lib.hid (blk HC.out hb); have HCF1 := Lib.hid (HCF.out.below hb); have HPW1 := Lib.hid (HPW.out.below hb); have HOW1 := Lib.hid (HOW.out.below hb); have HW1 := Lib.hid (HW.out.trans (hb.mono HW.out.size))
          obtain ⟨c0, c1⟩ := pz2 HC1.out
          clear hb HC HCF HPW HOW HW HPW2 HOW2
          go_wp2_with fail
          refine (back_law HCF1.out).mono ?_
          rintro e w2 ⟨rfl, hb⟩
          have HC2 := Lib.hid (blk HC1.out hb); have HCF2 := Lib.hid (HCF1.out.below hb); have HPW2 := Lib.hid (HPW1.out.below hb); have HOW2 := Lib.hid (HOW1.out.below hb); have HW2 := Lib.hid (HW1.out.trans (hb.mono HW1.out.size))
          clear c0 c1
          obtain ⟨c0, c1⟩ := pz2 HC2.out
          clear hb HC1 HCF1 HPW1 HOW1 HW1
          go_wp2_with fail
          refine (bytes_law HCF2.out full_size).mono ?_
          rintro e w3 ⟨rfl, hb⟩
          have HC3 := Lib.hid (blk HC2.out hb); have HCF3 := Lib.hid (HCF2.out.below hb); have HPW3 := Lib.hid (HPW2.out.below hb); have HOW3 := Lib.hid (HOW2.out.below hb); have HW3 := Lib.hid (HW2.out.trans (hb.mono HW2.out.size))
          clear c0 c1
          clear hb HC2 HCF2 HPW2 HOW2 HW2
          go_wp2_with fail
          have HEN := Lib.hid (is_lit3 w3 ends20 (by unfold maxLen; decide))
          have HEB := Lib.hid ((Below.refl w3.heap.size w3).alloc (Nat.le_refl _) (.cells (ends20.map (Value.int .i64)).toArray 3))
          go_loopw [7] (fun i wr => ∃ a : Nat, a ≤ 20 ∧ i = .int .i64 a ∧ Hid (IS wr (.slice (some ⟨w3.heap.size, 0, none⟩) 20 20) ends20) ∧ Hid (Below w3.heap.size w3 wr)) (fun i _ => 20 - (intOf i).toNat)
          case atStart => exact ⟨0, by omega, rfl, HEN.out, HEB.out⟩
          case round =>
            clear HEN HEB
            obtain ⟨a, ha, rfl, HEN, HEB⟩ := hrel
            by_cases hla : a < 20
            · obtain ⟨x, HX⟩ : ∃ x, Hid (ends20.getD a 0 = x) := ⟨_, rfl⟩
              have e0 := is_at0 HEN.out a hla
              rw [HX.out] at e0
              have ha0 : (0 : Int) ≤ a := by omega
              have hla2 : (a : Int) < 20 := by omega
              have hld : decide ((a : Int) < 20) = true := by simpa using hla2
              go_wp2_with fail
              obtain ⟨wo, hwo⟩ : ∃ wo : World, wo = wr := ⟨_, rfl⟩
              go_loopw [9] (fun i wr => ∃ k : Nat, k ≤ 19 ∧ i = .int .i64 k ∧ Hid (IS wr (.slice (some ⟨w3.heap.size, 0, none⟩) 20 20) ends20) ∧ Hid (Below w3.heap.size w3 wr)) (fun i _ => 19 - (intOf i).toNat)
              case atStart => exact ⟨0, by omega, rfl, HEN, HEB⟩
              case round =>
                clear HEN HEB hwo e0
                obtain ⟨k, hk, rfl, HEN, HEB⟩ := hrel
                by_cases hlk : k < 19
                · have hkd : decide ((k : Int) < 19) = true := by simp; omega
                  have HCH := Lib.hid (chapter_own 3 wr)
                  go_wp2_with fail
                  refine HCH.out.mono ?_
                  rintro e w4 ⟨rfl, hch⟩
                  have HCO := Lib.hid hch
                  have HS4 := Lib.hid hch.size
                  clear hch HCH
                  have c0 : (w4.alloc (.cells #[.slice (some ⟨wr.heap.size + 2, 0, none⟩) 1 1, .slice none 0 0] 25)).cell? ⟨w4.heap.size, 0, none⟩ = some (.slice (some ⟨wr.heap.size + 2, 0, none⟩) 1 1) := cell_of_row _ _ 0 _ _ _ (heap_alloc_new _ _)
                  have HROW := Lib.hid (ch_row HCO.out)
                  have hcap : (2 : Nat) ≤ maxLen := by unfold maxLen; decide
                  go_wp2_with (at_builtin; refine wpList_append_own _ rfl (.tmp 85) (.tmp 87) 22 rfl (wr.heap.size + 1) 28 iP _ 3 40 Try.underlying22 hiP hP0 hP1 hP2 rfl (by decide) _ 1 _ rfl (World.ownsRow.alloc (World.ownsRow.alloc HROW.out _) _) ⟨w4.heap.size + 1, 0, none⟩ 1 1 [.int .i64 9, .int .i64 9, .slice none 0 0] rfl rfl ?q1 ?q2 ?c3 ?c4 ?c5 ?c6)
                  case q1 => exact lit_add (by simp) _ _
                  case q2 => exact pt_one 9 9 _ rfl
                  case c3 => exact hcap
                  case c4 => decide
                  case c5 => have := HS4.out; simp; omega
                  case c6 =>
                    intro v' w5 hown hgr _
                    obtain ⟨g, cap, hv', h5, h6, hcm, hbw, hlo1, hlo2⟩ := cm_start HCO.out hown hgr
                    have HLO := Lib.hid (And.intro hlo1 hlo2)
                    clear hlo1 hlo2
                    subst hv'
                    have f5 : w5.frozen? ⟨w4.heap.size, 0, none⟩ = false := frozen_of_row _ _ 0 _ _ h5
                    have k5 : w5.cell? ⟨w4.heap.size, 0, none⟩ = some (.slice (some ⟨wr.heap.size + 2, 0, none⟩) 1 1) := cell_of_row _ _ 0 _ _ _ h5
                    have f6 : ((w5.setCell ⟨w4.heap.size, 0, none⟩ (.slice (some ⟨g, 0, none⟩) 2 cap)).alloc (.cells #[.int .i64 1, .int .i64 0, .int .i64 1, .int .i64 5, .int .i64 0, .int .i64 5, .int .i64 2, .int .i64 1, .int .i64 0, .int .i64 5, .int .i64 2, .int .i64 0] 32)).frozen? ⟨w4.heap.size, 1, none⟩ = false := frozen_of_row _ _ 1 _ _ h6
                    have k6 : ((w5.setCell ⟨w4.heap.size, 0, none⟩ (.slice (some ⟨g, 0, none⟩) 2 cap)).alloc (.cells #[.int .i64 1, .int .i64 0, .int .i64 1, .int .i64 5, .int .i64 0, .int .i64 5, .int .i64 2, .int .i64 1, .int .i64 0, .int .i64 5, .int .i64 2, .int .i64 0] 32)).cell? ⟨w4.heap.size, 1, none⟩ = some (.slice none 0 0) := cell_of_row _ _ 1 _ _ _ h6
                    have HCM : Hid (CM ((((w5.setCell ⟨w4.heap.size, 0, none⟩ (.slice (some ⟨g, 0, none⟩) 2 cap)).alloc (.cells #[.int .i64 1, .int .i64 0, .int .i64 1, .int .i64 5, .int .i64 0, .int .i64 5, .int .i64 2, .int .i64 1, .int .i64 0, .int .i64 5, .int .i64 2, .int .i64 0] 32)).setCell ⟨w4.heap.size, 1, none⟩ (.slice (some ⟨w5.heap.size, 0, none⟩) 2 2)).alloc (.cells #[.int .i64 64, .int .i64 60, .int .i64 30, .int .i64 255, .int .i64 30, .int .i64 4, .int .i64 4, .int .i64 2] 30)) (wr.heap.size + 1) g w4.heap.size w5.heap.size (w5.heap.size + 1) cap f0 tCh) := hcm
                    have HBW : Hid (Below wr.heap.size wr ((((w5.setCell ⟨w4.heap.size, 0, none⟩ (.slice (some ⟨g, 0, none⟩) 2 cap)).alloc (.cells #[.int .i64 1, .int .i64 0, .int .i64 1, .int .i64 5, .int .i64 0, .int .i64 5, .int .i64 2, .int .i64 1, .int .i64 0, .int .i64 5, .int .i64 2, .int .i64 0] 32)).setCell ⟨w4.heap.size, 1, none⟩ (.slice (some ⟨w5.heap.size, 0, none⟩) 2 2)).alloc (.cells #[.int .i64 64, .int .i64 60, .int .i64 30, .int .i64 255, .int .i64 30, .int .i64 4, .int .i64 4, .int .i64 2] 30))) := hbw
                    clear hown hgr h5 h6 hcm hbw HROW HCO c0 hcap
                    go_wp2_with fail
                    generalize ((((w5.setCell ⟨w4.heap.size, 0, none⟩ (.slice (some ⟨g, 0, none⟩) 2 cap)).alloc (.cells #[.int .i64 1, .int .i64 0, .int .i64 1, .int .i64 5, .int .i64 0, .int .i64 5, .int .i64 2, .int .i64 1, .int .i64 0, .int .i64 5, .int .i64 2, .int .i64 0] 32)).setCell ⟨w4.heap.size, 1, none⟩ (.slice (some ⟨w5.heap.size, 0, none⟩) 2 2)).alloc (.cells #[.int .i64 64, .int .i64 60, .int .i64 30, .int .i64 255, .int .i64 30, .int .i64 4, .int .i64 4, .int .i64 2] 30)) = W at HCM HBW ⊢
                    obtain ⟨c0, c1⟩ := pz2 HCM.out.hc
                    have HW1 := Lib.hid (((Below.refl W.heap.size W).alloc (Nat.le_refl _) (.cells #[.pointer (some ⟨g, 0, none⟩), .pointer (some ⟨g, 1, none⟩), .pointer (some ⟨w5.heap.size + 1, 0, none⟩), .pointer (some ⟨w5.heap.size + 1, 1, none⟩), .pointer (some ⟨w5.heap.size + 1, 2, none⟩), .pointer (some ⟨w5.heap.size + 1, 3, none⟩), .pointer (some ⟨w5.heap.size + 1, 4, none⟩), .pointer (some ⟨w5.heap.size + 1, 5, none⟩), .pointer (some ⟨w5.heap.size + 1, 6, none⟩), .pointer (some ⟨w5.heap.size + 1, 7, none⟩), .pointer (some ⟨w5.heap.size, 0, none⟩), .pointer (some ⟨w5.heap.size, 1, none⟩), .pointer (some ⟨w5.heap.size, 2, none⟩), .pointer (some ⟨w5.heap.size, 3, none⟩), .pointer (some ⟨w5.heap.size, 4, none⟩), .pointer (some ⟨w5.heap.size, 5, none⟩), .pointer (some ⟨w5.heap.size, 6, none⟩), .pointer (some ⟨w5.heap.size, 10, none⟩), .pointer (some ⟨w5.heap.size, 11, none⟩)] 38)).drew)
                    have HCM1 := Lib.hid (HCM.out.keep HW1.out)
                    have hac := (HCM1.out.ha k hlk).1
                    have haf := (HCM1.out.ha k hlk).2
                    have HCM2 : Hid (CM ((W.alloc (.cells #[.pointer (some ⟨g, 0, none⟩), .pointer (some ⟨g, 1, none⟩), .pointer (some ⟨w5.heap.size + 1, 0, none⟩), .pointer (some ⟨w5.heap.size + 1, 1, none⟩), .pointer (some ⟨w5.heap.size + 1, 2, none⟩), .pointer (some ⟨w5.heap.size + 1, 3, none⟩), .pointer (some ⟨w5.heap.size + 1, 4, none⟩), .pointer (some ⟨w5.heap.size + 1, 5, none⟩), .pointer (some ⟨w5.heap.size + 1, 6, none⟩), .pointer (some ⟨w5.heap.size + 1, 7, none⟩), .pointer (some ⟨w5.heap.size, 0, none⟩), .pointer (some ⟨w5.heap.size, 1, none⟩), .pointer (some ⟨w5.heap.size, 2, none⟩), .pointer (some ⟨w5.heap.size, 3, none⟩), .pointer (some ⟨w5.heap.size, 4, none⟩), .pointer (some ⟨w5.heap.size, 5, none⟩), .pointer (some ⟨w5.heap.size, 6, none⟩), .pointer (some ⟨w5.heap.size, 10, none⟩), .pointer (some ⟨w5.heap.size, 11, none⟩)] 38)).setCell (ad g (w5.heap.size + 1) w5.heap.size k) (.int .i64 x)).drew (wr.heap.size + 1) g w4.heap.size w5.heap.size (w5.heap.size + 1) cap (fun j => if j = k then x else f0 j) tCh) := HCM1.out.set hlk x
                    have hS1 := pz2 HCM1.out.hc
                    have hS2 := pz2 HCM2.out.hc
                    have hbb := ad_blk g (w5.heap.size + 1) w5.heap.size k
                    have hls : ∀ h, ([.pointer (some ⟨g, 0, none⟩), .pointer (some ⟨g, 1, none⟩), .pointer (some ⟨w5.heap.size + 1, 0, none⟩), .pointer (some ⟨w5.heap.size + 1, 1, none⟩), .pointer (some ⟨w5.heap.size + 1, 2, none⟩), .pointer (some ⟨w5.heap.size + 1, 3, none⟩), .pointer (some ⟨w5.heap.size + 1, 4, none⟩), .pointer (some ⟨w5.heap.size + 1, 5, none⟩), .pointer (some ⟨w5.heap.size + 1, 6, none⟩), .pointer (some ⟨w5.heap.size + 1, 7, none⟩), .pointer (some ⟨w5.heap.size, 0, none⟩), .pointer (some ⟨w5.heap.size, 1, none⟩), .pointer (some ⟨w5.heap.size, 2, none⟩), .pointer (some ⟨w5.heap.size, 3, none⟩), .pointer (some ⟨w5.heap.size, 4, none⟩), .pointer (some ⟨w5.heap.size, 5, none⟩), .pointer (some ⟨w5.heap.size, 6, none⟩), .pointer (some ⟨w5.heap.size, 10, none⟩), .pointer (some ⟨w5.heap.size, 11, none⟩)] : List Value)[k]'h = .pointer (some (ad g (w5.heap.size + 1) w5.heap.size k)) := fun h => list_at (ptr_at g (w5.heap.size + 1) w5.heap.size hlk) h
                    obtain ⟨pb, po, hpo⟩ : ∃ pb po, (ad g (w5.heap.size + 1) w5.heap.size k) = ⟨pb, po, none⟩ := ⟨_, _, rfl⟩
                    rw [hpo] at hac haf HCM2 hS2 hbb hls
                    have HB1 : Hid (Below wr.heap.size wr ((W.alloc (.cells #[.pointer (some ⟨g, 0, none⟩), .pointer (some ⟨g, 1, none⟩), .pointer (some ⟨w5.heap.size + 1, 0, none⟩), .pointer (some ⟨w5.heap.size + 1, 1, none⟩), .pointer (some ⟨w5.heap.size + 1, 2, none⟩), .pointer (some ⟨w5.heap.size + 1, 3, none⟩), .pointer (some ⟨w5.heap.size + 1, 4, none⟩), .pointer (some ⟨w5.heap.size + 1, 5, none⟩), .pointer (some ⟨w5.heap.size + 1, 6, none⟩), .pointer (some ⟨w5.heap.size + 1, 7, none⟩), .pointer (some ⟨w5.heap.size, 0, none⟩), .pointer (some ⟨w5.heap.size, 1, none⟩), .pointer (some ⟨w5.heap.size, 2, none⟩), .pointer (some ⟨w5.heap.size, 3, none⟩), .pointer (some ⟨w5.heap.size, 4, none⟩), .pointer (some ⟨w5.heap.size, 5, none⟩), .pointer (some ⟨w5.heap.size, 6, none⟩), .pointer (some ⟨w5.heap.size, 10, none⟩), .pointer (some ⟨w5.heap.size, 11, none⟩)] 38)).setCell ⟨pb, po, none⟩ (.int .i64 x)).drew) := ((HBW.out.trans (HW1.out.mono HBW.out.size)).setCell (by have := HLO.out; rcases hbb with e | e | e <;> (dsimp only at e ⊢; omega)) _)
                    clear hbb hpo
                    obtain ⟨F, hF⟩ : ∃ F : Nat → Int, F = fun j => if j = k then x else f0 j := ⟨_, rfl⟩
                    rw [← hF] at HCM2
                    clear hF
                    have hk0 : (0 : Int) ≤ k := by omega
                    have hk19 : (k : Int) < 19 := by omega
                    refine wp_region_held_drew (S := fun w' => w'.cell? ⟨w4.heap.size, 0, none⟩ = some (.slice (some ⟨g, 0, none⟩) 2 cap) ∧ w'.cell? ⟨w4.heap.size, 1, none⟩ = some (.slice (some ⟨w5.heap.size, 0, none⟩) 2 2)) (by kernel_rfl) (by (try dsimp only); first | assumption | exact hS1 | exact hS2 | go_keep) (fun hHeld => ?_)
                    refine wpAnyH_take (i := 0) (oi := _) (v := ?_) rfl (by kernel_rfl) (by kernel_rfl) (by kernel_rfl) (fun _ _ _ h => h) (Or.inl ⟨by rfl, ?_⟩) (by assumption) ?_; rotate_left
                    · (intro w hSw; (try dsimp only at hSw); go_simp; try with_reducible rfl)
                    try simp only [Act.put, List.setIfInBounds_toArray]
                    refine wpAnyH_take (i := 1) (oi := _) (v := ?_) rfl (by kernel_rfl) (by kernel_rfl) (by kernel_rfl) (fun _ _ _ h => h) (Or.inl ⟨by rfl, ?_⟩) (by assumption) ?_; rotate_left
                    · (intro w hSw; (try dsimp only at hSw); go_simp; try with_reducible rfl)
                    try simp only [Act.put]
                    refine wpAnyH_take (i := 2) (oi := _) (v := ?_) rfl (by kernel_rfl) (by kernel_rfl) (by kernel_rfl) (fun _ _ _ h => h) (Or.inl ⟨by rfl, ?_⟩) (by assumption) ?_; rotate_left
                    · (intro w hSw; (try dsimp only at hSw); go_simp; try with_reducible rfl)
                    try simp only [Act.put]
                    refine wpAnyH_take (i := 3) (oi := _) (v := ?_) rfl (by kernel_rfl) (by kernel_rfl) (by kernel_rfl) (fun _ _ _ h => h) (Or.inl ⟨by rfl, ?_⟩) (by assumption) ?_; rotate_left
                    · (intro w hSw; (try dsimp only at hSw); go_simp; try with_reducible rfl)
                    try simp only [Act.put]
                    refine wpAnyH_take (i := 4) (oi := _) (v := ?_) rfl (by kernel_rfl) (by kernel_rfl) (by kernel_rfl) (fun _ _ _ h => h) (Or.inl ⟨by rfl, ?_⟩) (by assumption) ?_; rotate_left
                    · (intro w hSw; (try dsimp only at hSw); go_simp; try with_reducible rfl)
                    try simp only [Act.put]
                    refine wpAnyH_take (i := 5) (oi := _) (v := ?_) rfl (by kernel_rfl) (by kernel_rfl) (by kernel_rfl) (fun _ _ _ h => h) (Or.inl ⟨by rfl, ?_⟩) (by assumption) ?_; rotate_left
                    · (intro w hSw; (try dsimp only at hSw); go_simp; try with_reducible rfl)
                    try simp only [Act.put]
                    refine wpAnyH_take (i := 6) (oi := _) (v := ?_) rfl (by kernel_rfl) (by kernel_rfl) (by kernel_rfl) (fun _ _ _ h => h) (Or.inl ⟨by rfl, ?_⟩) (by assumption) ?_; rotate_left
                    · (intro w hSw; (try dsimp only at hSw); go_simp; try with_reducible rfl)
                    try simp only [Act.put]
                    refine wpAnyH_take (i := 7) (oi := _) (v := ?_) rfl (by kernel_rfl) (by kernel_rfl) (by kernel_rfl) (fun _ _ _ h => h) (Or.inl ⟨by rfl, ?_⟩) (by assumption) ?_; rotate_left
                    · (intro w hSw; (try dsimp only at hSw); go_simp; try with_reducible rfl)
                    try simp only [Act.put]
                    refine wpAnyH_take (i := 8) (oi := _) (v := ?_) rfl (by kernel_rfl) (by kernel_rfl) (by kernel_rfl) (fun _ _ _ h => h) (Or.inl ⟨by rfl, ?_⟩) (by assumption) ?_; rotate_left
                    · (intro w hSw; (try dsimp only at hSw); go_simp; try with_reducible rfl)
                    try simp only [Act.put]
                    refine wpAnyH_take (i := 9) (oi := _) (v := ?_) rfl (by kernel_rfl) (by kernel_rfl) (by kernel_rfl) (fun _ _ _ h => h) (Or.inl ⟨by rfl, ?_⟩) (by assumption) ?_; rotate_left
                    · (intro w hSw; (try dsimp only at hSw); go_simp; try with_reducible rfl)
                    try simp only [Act.put]
                    refine wpAnyH_take (i := 10) (oi := _) (v := ?_) rfl (by kernel_rfl) (by kernel_rfl) (by kernel_rfl) (fun _ _ _ h => h) (Or.inl ⟨by rfl, ?_⟩) (by assumption) ?_; rotate_left
                    · (intro w hSw; (try dsimp only at hSw); go_simp; try with_reducible rfl)
                    try simp only [Act.put]
                    refine wpAnyH_take (i := 11) (oi := _) (v := ?_) rfl (by kernel_rfl) (by kernel_rfl) (by kernel_rfl) (fun _ _ _ h => h) (Or.inl ⟨by rfl, ?_⟩) (by assumption) ?_; rotate_left
                    · (intro w hSw; (try dsimp only at hSw); go_simp; try with_reducible rfl)
                    try simp only [Act.put]
                    refine wpAnyH_take (i := 12) (oi := _) (v := ?_) rfl (by kernel_rfl) (by kernel_rfl) (by kernel_rfl) (fun _ _ _ h => h) (Or.inl ⟨by rfl, ?_⟩) (by assumption) ?_; rotate_left
                    · (intro w hSw; (try dsimp only at hSw); go_simp; try with_reducible rfl)
                    try simp only [Act.put]
                    refine wpAnyH_take (i := 13) (oi := _) (v := ?_) rfl (by kernel_rfl) (by kernel_rfl) (by kernel_rfl) (fun _ _ _ h => h) (Or.inl ⟨by rfl, ?_⟩) (by assumption) ?_; rotate_left
                    · (intro w hSw; (try dsimp only at hSw); go_simp; try with_reducible rfl)
                    try simp only [Act.put]
                    refine wpAnyH_take (i := 14) (oi := _) (v := ?_) rfl (by kernel_rfl) (by kernel_rfl) (by kernel_rfl) (fun _ _ _ h => h) (Or.inl ⟨by rfl, ?_⟩) (by assumption) ?_; rotate_left
                    · (intro w hSw; (try dsimp only at hSw); go_simp; try with_reducible rfl)
                    try simp only [Act.put]
                    refine wpAnyH_take (i := 15) (oi := _) (v := ?_) rfl (by kernel_rfl) (by kernel_rfl) (by kernel_rfl) (fun _ _ _ h => h) (Or.inl ⟨by rfl, ?_⟩) (by assumption) ?_; rotate_left
                    · (intro w hSw; (try dsimp only at hSw); go_simp; try with_reducible rfl)
                    try simp only [Act.put]
                    refine wpAnyH_take (i := 16) (oi := _) (v := ?_) rfl (by kernel_rfl) (by kernel_rfl) (by kernel_rfl) (fun _ _ _ h => h) (Or.inl ⟨by rfl, ?_⟩) (by assumption) ?_; rotate_left
                    · (intro w hSw; (try dsimp only at hSw); go_simp; try with_reducible rfl)
                    try simp only [Act.put]
                    refine wpAnyH_take (i := 17) (oi := _) (v := ?_) rfl (by kernel_rfl) (by kernel_rfl) (by kernel_rfl) (fun _ _ _ h => h) (Or.inl ⟨by rfl, ?_⟩) (by assumption) ?_; rotate_left
                    · (intro w hSw; (try dsimp only at hSw); go_simp; try with_reducible rfl)
                    try simp only [Act.put]
                    refine wpAnyH_take (i := 18) (oi := _) (v := ?_) rfl (by kernel_rfl) (by kernel_rfl) (by kernel_rfl) (fun _ _ _ h => h) (Or.inl ⟨by rfl, ?_⟩) (by assumption) ?_; rotate_left
                    · (intro w hSw; (try dsimp only at hSw); go_simp; try with_reducible rfl)
                    try simp only [Act.put]
                    refine wpAnyH_take (i := 19) (oi := _) (v := ?_) rfl (by kernel_rfl) (by kernel_rfl) (by kernel_rfl) (fun _ _ _ h => h) (Or.inl ⟨by rfl, ?_⟩) (by assumption) ?_; rotate_left
                    · (intro w hSw; (try dsimp only at hSw); go_simp; try with_reducible rfl)
                    try simp only [Act.put]
                    refine wpAnyH_take (i := 20) (oi := _) (v := ?_) rfl (by kernel_rfl) (by kernel_rfl) (by kernel_rfl) (fun _ _ _ h => h) (Or.inl ⟨by rfl, ?_⟩) (by assumption) ?_; rotate_left
                    · (intro w hSw; (try dsimp only at hSw); go_simp; try with_reducible rfl)
                    try simp only [Act.put]
                    refine wpAnyH_take (i := 21) (oi := _) (v := ?_) rfl (by kernel_rfl) (by kernel_rfl) (by kernel_rfl) (fun _ _ _ h => h) (Or.inl ⟨by rfl, ?_⟩) (by assumption) ?_; rotate_left
                    · (intro w hSw; (try dsimp only at hSw); go_simp; try with_reducible rfl)
                    try simp only [Act.put]
                    refine wpAnyH_take (i := 22) (oi := _) (v := ?_) rfl (by kernel_rfl) (by kernel_rfl) (by kernel_rfl) (fun _ _ _ h => h) (Or.inl ⟨by rfl, ?_⟩) (by assumption) ?_; rotate_left
                    · (intro w hSw; (try dsimp only at hSw); go_simp; try with_reducible rfl)
                    try simp only [Act.put]
                    refine wpAnyH_take (i := 23) (oi := _) (v := ?_) rfl (by kernel_rfl) (by kernel_rfl) (by kernel_rfl) (fun _ _ _ h => h) (Or.inl ⟨by rfl, ?_⟩) (by assumption) ?_; rotate_left
                    · (intro w hSw; (try dsimp only at hSw); go_simp; try with_reducible rfl)
                    try simp only [Act.put]
                    refine wpAnyH_take (i := 24) (oi := _) (v := ?_) rfl (by kernel_rfl) (by kernel_rfl) (by kernel_rfl) (fun _ _ _ h => h) (Or.inl ⟨by rfl, ?_⟩) (by assumption) ?_; rotate_left
                    · (intro w hSw; (try dsimp only at hSw); go_simp; try with_reducible rfl)
                    try simp only [Act.put]
                    refine wpAnyH_take (i := 25) (oi := _) (v := ?_) rfl (by kernel_rfl) (by kernel_rfl) (by kernel_rfl) (fun _ _ _ h => h) (Or.inl ⟨by rfl, ?_⟩) (by assumption) ?_; rotate_left
                    · (intro w hSw; (try dsimp only at hSw); go_simp; try with_reducible rfl)
                    try simp only [Act.put]
                    refine wpAnyH_take (i := 26) (oi := _) (v := ?_) rfl (by kernel_rfl) (by kernel_rfl) (by kernel_rfl) (fun _ _ _ h => h) (Or.inl ⟨by rfl, ?_⟩) (by assumption) ?_; rotate_left
                    · (intro w hSw; (try dsimp only at hSw); go_simp; try with_reducible rfl)
                    try simp only [Act.put]
                    refine wpAnyH_take (i := 27) (oi := _) (v := ?_) rfl (by kernel_rfl) (by kernel_rfl) (by kernel_rfl) (fun _ _ _ h => h) (Or.inl ⟨by rfl, ?_⟩) (by assumption) ?_; rotate_left
                    · (intro w hSw; (try dsimp only at hSw); go_simp; try with_reducible rfl)
                    try simp only [Act.put]
                    refine wpAnyH_take (i := 28) (oi := _) (v := ?_) rfl (by kernel_rfl) (by kernel_rfl) (by kernel_rfl) (fun _ _ _ h => h) (Or.inl ⟨by rfl, ?_⟩) (by assumption) ?_; rotate_left
                    · (intro w hSw; (try dsimp only at hSw); go_simp; try with_reducible rfl)
                    try simp only [Act.put]
                    refine wpAnyH_take (i := 29) (oi := _) (v := ?_) rfl (by kernel_rfl) (by kernel_rfl) (by kernel_rfl) (fun _ _ _ h => h) (Or.inl ⟨by rfl, ?_⟩) (by assumption) ?_; rotate_left
                    · (intro w hSw; (try dsimp only at hSw); go_simp; try with_reducible rfl)
                    try simp only [Act.put]
                    refine wpAnyH_take (i := 30) (oi := _) (v := ?_) rfl (by kernel_rfl) (by kernel_rfl) (by kernel_rfl) (fun _ _ _ h => h) (Or.inl ⟨by rfl, ?_⟩) (by assumption) ?_; rotate_left
                    · (intro w hSw; (try dsimp only at hSw); go_simp; try with_reducible rfl)
                    try simp only [Act.put]
                    refine wpAnyH_take (i := 31) (oi := _) (v := ?_) rfl (by kernel_rfl) (by kernel_rfl) (by kernel_rfl) (fun _ _ _ h => h) (Or.inl ⟨by rfl, ?_⟩) (by assumption) ?_; rotate_left
                    · (intro w hSw; (try dsimp only at hSw); go_simp; try with_reducible rfl)
                    try simp only [Act.put]
                    refine wpAnyH_take (i := 32) (oi := _) (v := ?_) rfl (by kernel_rfl) (by kernel_rfl) (by kernel_rfl) (fun _ _ _ h => h) (Or.inl ⟨by rfl, ?_⟩) (by assumption) ?_; rotate_left
                    · (intro w hSw; (try dsimp only at hSw); go_simp; try with_reducible rfl)
                    try simp only [Act.put]
                    refine wpAnyH_take (i := 33) (oi := _) (v := ?_) rfl (by kernel_rfl) (by kernel_rfl) (by kernel_rfl) (fun _ _ _ h => h) (Or.inl ⟨by rfl, ?_⟩) (by assumption) ?_; rotate_left
                    · (intro w hSw; (try dsimp only at hSw); go_simp; try with_reducible rfl)
                    try simp only [Act.put]
                    refine wpAnyH_take (i := 34) (oi := _) (v := ?_) rfl (by kernel_rfl) (by kernel_rfl) (by kernel_rfl) (fun _ _ _ h => h) (Or.inl ⟨by rfl, ?_⟩) (by assumption) ?_; rotate_left
                    · (intro w hSw; (try dsimp only at hSw); go_simp; try with_reducible rfl)
                    try simp only [Act.put]
                    refine wpAnyH_take (i := 35) (oi := _) (v := ?_) rfl (by kernel_rfl) (by kernel_rfl) (by kernel_rfl) (fun _ _ _ h => h) (Or.inl ⟨by rfl, ?_⟩) (by assumption) ?_; rotate_left
                    · (intro w hSw; (try dsimp only at hSw); go_simp; try with_reducible rfl)
                    try simp only [Act.put]
                    refine wpAnyH_take (i := 36) (oi := _) (v := ?_) rfl (by kernel_rfl) (by kernel_rfl) (by kernel_rfl) (fun _ _ _ h => h) (Or.inl ⟨by rfl, ?_⟩) (by assumption) ?_; rotate_left
                    · (intro w hSw; (try dsimp only at hSw); go_simp; try with_reducible rfl)
                    try simp only [Act.put]
                    refine wpAnyH_take (i := 37) (oi := _) (v := ?_) rfl (by kernel_rfl) (by kernel_rfl) (by kernel_rfl) (fun _ _ _ h => h) (Or.inl ⟨by rfl, ?_⟩) (by assumption) ?_; rotate_left
                    · (intro w hSw; (try dsimp only at hSw); go_simp; try with_reducible rfl)
                    try simp only [Act.put]
                    refine wpAnyH_take (i := 38) (oi := _) (v := ?_) rfl (by kernel_rfl) (by kernel_rfl) (by kernel_rfl) (fun _ _ _ h => h) (Or.inl ⟨by rfl, ?_⟩) (by assumption) ?_; rotate_left
                    · (intro w hSw; (try dsimp only at hSw); go_simp; try with_reducible rfl)
                    try simp only [Act.put]
                    refine wpAnyH_take (i := 39) (oi := _) (v := ?_) rfl (by kernel_rfl) (by kernel_rfl) (by kernel_rfl) (fun _ _ _ h => h) (Or.inl ⟨by rfl, ?_⟩) (by assumption) ?_; rotate_left
                    · (intro w hSw; (try dsimp only at hSw); go_simp; try with_reducible rfl)
                    try simp only [Act.put]
                    refine wpAnyH_take (i := 40) (oi := _) (v := ?_) rfl (by kernel_rfl) (by kernel_rfl) (by kernel_rfl) (fun _ _ _ h => h) (Or.inl ⟨by rfl, ?_⟩) (by assumption) ?_; rotate_left
                    · (intro w hSw; (try dsimp only at hSw); go_simp; try with_reducible rfl)
                    try simp only [Act.put]
                    refine wpAnyH_take (i := 41) (oi := _) (v := ?_) rfl (by kernel_rfl) (by kernel_rfl) (by kernel_rfl) (fun _ _ _ h => h) (Or.inl ⟨by rfl, ?_⟩) (by assumption) ?_; rotate_left
                    · (intro w hSw; (try dsimp only at hSw); go_simp; try with_reducible rfl)
                    try simp only [Act.put]
                    refine wpAnyH_take (i := 42) (oi := _) (v := ?_) rfl (by kernel_rfl) (by kernel_rfl) (by kernel_rfl) (fun _ _ _ h => h) (Or.inl ⟨by rfl, ?_⟩) (by assumption) ?_; rotate_left
                    · (intro w hSw; (try dsimp only at hSw); go_simp; try with_reducible rfl)
                    try simp only [Act.put]
                    refine wpAnyH_take (i := 43) (oi := _) (v := ?_) rfl (by kernel_rfl) (by kernel_rfl) (by kernel_rfl) (fun _ _ _ h => h) (Or.inl ⟨by rfl, ?_⟩) (by assumption) ?_; rotate_left
                    · (intro w hSw; (try dsimp only at hSw); go_simp; try with_reducible rfl)
                    try simp only [Act.put]
                    refine wpAnyH_take (i := 44) (oi := _) (v := ?_) rfl (by kernel_rfl) (by kernel_rfl) (by kernel_rfl) (fun _ _ _ h => h) (Or.inl ⟨by rfl, ?_⟩) (by assumption) ?_; rotate_left
                    · (intro w hSw; (try dsimp only at hSw); go_simp; try with_reducible rfl)
                    try simp only [Act.put]
                    refine wpAnyH_take (i := 45) (oi := _) (v := ?_) rfl (by kernel_rfl) (by kernel_rfl) (by kernel_rfl) (fun _ _ _ h => h) (Or.inl ⟨by rfl, ?_⟩) (by assumption) ?_; rotate_left
                    · (intro w hSw; (try dsimp only at hSw); go_simp; try with_reducible rfl)
                    try simp only [Act.put]
                    refine wpAnyH_take (i := 46) (oi := _) (v := ?_) rfl (by kernel_rfl) (by kernel_rfl) (by kernel_rfl) (fun _ _ _ h => h) (Or.inl ⟨by rfl, ?_⟩) (by assumption) ?_; rotate_left
                    · (intro w hSw; (try dsimp only at hSw); go_simp; try with_reducible rfl)
                    try simp only [Act.put]
                    refine wpAnyH_take (i := 47) (oi := _) (v := ?_) rfl (by kernel_rfl) (by kernel_rfl) (by kernel_rfl) (fun _ _ _ h => h) (Or.inl ⟨by rfl, ?_⟩) (by assumption) ?_; rotate_left
                    · (intro w hSw; (try dsimp only at hSw); go_simp; try with_reducible rfl)
                    try simp only [Act.put]
                    refine wpAnyH_take (i := 48) (oi := _) (v := ?_) rfl (by kernel_rfl) (by kernel_rfl) (by kernel_rfl) (fun _ _ _ h => h) (Or.inl ⟨by rfl, ?_⟩) (by assumption) ?_; rotate_left
                    · (intro w hSw; (try dsimp only at hSw); go_simp; try with_reducible rfl)
                    try simp only [Act.put]
                    refine wpAnyH_take (i := 49) (oi := _) (v := ?_) rfl (by kernel_rfl) (by kernel_rfl) (by kernel_rfl) (fun _ _ _ h => h) (Or.inl ⟨by rfl, ?_⟩) (by assumption) ?_; rotate_left
                    · (intro w hSw; (try dsimp only at hSw); go_simp; try with_reducible rfl)
                    try simp only [Act.put]
                    refine wpAnyH_take (i := 50) (oi := _) (v := ?_) rfl (by kernel_rfl) (by kernel_rfl) (by kernel_rfl) (fun _ _ _ h => h) (Or.inl ⟨by rfl, ?_⟩) (by assumption) ?_; rotate_left
                    · (intro w hSw; (try dsimp only at hSw); go_simp; try with_reducible rfl)
                    try simp only [Act.put]
                    refine wpAnyH_take (i := 51) (oi := _) (v := ?_) rfl (by kernel_rfl) (by kernel_rfl) (by kernel_rfl) (fun _ _ _ h => h) (Or.inl ⟨by rfl, ?_⟩) (by assumption) ?_; rotate_left
                    · (intro w hSw; (try dsimp only at hSw); go_simp; try with_reducible rfl)
                    try simp only [Act.put]
                    refine wpAnyH_take (i := 53) (oi := _) (v := ?_) rfl (by kernel_rfl) (by kernel_rfl) (by kernel_rfl) (fun _ _ _ h => h) (Or.inl ⟨by rfl, ?_⟩) (by assumption) ?_; rotate_left
                    · (intro w hSw; (try dsimp only at hSw); go_simp; try with_reducible rfl)
                    try simp only [Act.put]
                    refine wpAnyH_take (i := 56) (oi := _) (v := ?_) rfl (by kernel_rfl) (by kernel_rfl) (by kernel_rfl) (fun _ _ _ h => h) (Or.inl ⟨by rfl, ?_⟩) (by assumption) ?_; rotate_left
                    · (intro w hSw; (try dsimp only at hSw); go_simp; try with_reducible rfl)
                    try simp only [Act.put]
                    refine wpAnyH_ready (rs := [52]) (by kernel_rfl) (by simp) (AllReadyH.cons (o := _) rfl (fun K hK => ?_) AllReadyH.nil)
                    go_simp
                    refine hK.out _ _ (by (try dsimp only); first | assumption | exact hS1 | exact hS2 | go_keep) (fun hHeld => ?_)
                    clear hK K
                    try simp only [Act.put, List.setIfInBounds_toArray, List.set_cons_zero, List.set_cons_succ]
                    refine wpAnyH_take (i := 54) (oi := _) (v := ?_) rfl (by kernel_rfl) (by kernel_rfl) (by kernel_rfl) (fun _ _ _ h => h) (Or.inl ⟨by rfl, ?_⟩) (by assumption) ?_; rotate_left
                    · (intro w hSw; (try dsimp only at hSw); go_simp; try with_reducible rfl)
                    try simp only [Act.put, List.setIfInBounds_toArray]
                    refine wpAnyH_ready (rs := [55]) (by kernel_rfl) (by simp) (AllReadyH.cons (o := _) rfl (fun K hK => ?_) AllReadyH.nil)
                    go_simp
                    refine hK.out _ _ (by (try dsimp only); first | assumption | exact hS1 | exact hS2 | go_keep) (fun hHeld => ?_)
                    clear hK K
                    try simp only [Act.put, List.setIfInBounds_toArray, List.set_cons_zero, List.set_cons_succ]
                    refine wpAnyH_take (i := 57) (oi := _) (v := ?_) rfl (by kernel_rfl) (by kernel_rfl) (by kernel_rfl) (fun _ _ _ h => h) (Or.inl ⟨by rfl, ?_⟩) (by assumption) ?_; rotate_left
                    · (intro w hSw; (try dsimp only at hSw); go_simp; try with_reducible rfl)
                    try simp only [Act.put, List.setIfInBounds_toArray]
                    refine wpAnyH_ready (rs := [58]) (by kernel_rfl) (by simp) (AllReadyH.cons (o := _) rfl (fun K hK => ?_) AllReadyH.nil)
                    go_simp
                    refine hK.out _ _ (by (try dsimp only); first | assumption | exact hS1 | exact hS2 | go_keep) (fun hHeld => ?_)
                    clear hK K
                    try simp only [Act.put, List.setIfInBounds_toArray, List.set_cons_zero, List.set_cons_succ]
                    refine wpAnyH_done (by kernel_rfl) ?_ _
                    generalize ((W.alloc (.cells #[.pointer (some ⟨g, 0, none⟩), .pointer (some ⟨g, 1, none⟩), .pointer (some ⟨w5.heap.size + 1, 0, none⟩), .pointer (some ⟨w5.heap.size + 1, 1, none⟩), .pointer (some ⟨w5.heap.size + 1, 2, none⟩), .pointer (some ⟨w5.heap.size + 1, 3, none⟩), .pointer (some ⟨w5.heap.size + 1, 4, none⟩), .pointer (some ⟨w5.heap.size + 1, 5, none⟩), .pointer (some ⟨w5.heap.size + 1, 6, none⟩), .pointer (some ⟨w5.heap.size + 1, 7, none⟩), .pointer (some ⟨w5.heap.size, 0, none⟩), .pointer (some ⟨w5.heap.size, 1, none⟩), .pointer (some ⟨w5.heap.size, 2, none⟩), .pointer (some ⟨w5.heap.size, 3, none⟩), .pointer (some ⟨w5.heap.size, 4, none⟩), .pointer (some ⟨w5.heap.size, 5, none⟩), .pointer (some ⟨w5.heap.size, 6, none⟩), .pointer (some ⟨w5.heap.size, 10, none⟩), .pointer (some ⟨w5.heap.size, 11, none⟩)] 38)).setCell ⟨pb, po, none⟩ (.int .i64 x)).drew = V at HCM2 HB1 ⊢
                    clear hac haf hS1 hS2 hls HCM1 HW1 HCM HBW c0 c1
                    have hS0 := cm_cells HCM2.out
                    have hS0d := cm_cells HCM2.out.drew
                    have h3 := HCM2.out.putT.drew
                    have hb3 := (below_put8 HB1.out (s1 := wr.heap.size + 1) (by omega) F).drew
                    unfold put8 at h3 hb3
                    have hS1 := cm_cells h3
                    have HCM3 := Lib.hid h3; have HB3 := Lib.hid hb3
                    have hfz := cm_frozen HCM2.out
                    clear h3 hb3
                    obtain ⟨q0, q1, q2, q3, q4, q5, q6, q7, q8, q9⟩ := hS0
                    obtain ⟨y0, y1, y2, y3, y4, y5, y6, y7, z0, z1, z2, z3, z4, z5, z6, z7⟩ := hfz
                    go_wp2_with fail
                    go_region_held3 (fun w' => w'.cell? ⟨w4.heap.size, 0, none⟩ = some (.slice (some ⟨g, 0, none⟩) 2 cap) ∧ w'.cell? ⟨g, 2, none⟩ = some (.slice (some ⟨wr.heap.size + 1, 0, none⟩) 1 1) ∧ w'.cell? ⟨w5.heap.size + 1, 0, none⟩ = some (.int .i64 (F 2)) ∧ w'.cell? ⟨w5.heap.size + 1, 1, none⟩ = some (.int .i64 (F 3)) ∧ w'.cell? ⟨w5.heap.size + 1, 2, none⟩ = some (.int .i64 (F 4)) ∧ w'.cell? ⟨w5.heap.size + 1, 3, none⟩ = some (.int .i64 (F 5)) ∧ w'.cell? ⟨w5.heap.size + 1, 4, none⟩ = some (.int .i64 (F 6)) ∧ w'.cell? ⟨w5.heap.size + 1, 5, none⟩ = some (.int .i64 (F 7)) ∧ w'.cell? ⟨w5.heap.size + 1, 6, none⟩ = some (.int .i64 (F 8)) ∧ w'.cell? ⟨w5.heap.size + 1, 7, none⟩ = some (.int .i64 (F 9))) (first | with_reducible exact hS0d | with_reducible exact hS1 | go_keep) (fail)
                    clear hS0d hS1 q0 q1 q2 q3 q4 q5 q6 q7 q8 q9 y0 y1 y2 y3 y4 y5 y6 y7 z0 z1 z2 z3 z4 z5 z6 z7 HCM2 HB1
                    generalize (((((((((V.setCell ⟨wr.heap.size + 1, 0, none⟩ (.int .i64 (F 2))).setCell ⟨wr.heap.size + 1, 1, none⟩ (.int .i64 (F 3))).setCell ⟨wr.heap.size + 1, 2, none⟩ (.int .i64 (F 4))).setCell ⟨wr.heap.size + 1, 3, none⟩ (.int .i64 (F 5))).setCell ⟨wr.heap.size + 1, 4, none⟩ (.int .i64 (F 6))).setCell ⟨wr.heap.size + 1, 5, none⟩ (.int .i64 (F 7))).setCell ⟨wr.heap.size + 1, 6, none⟩ (.int .i64 (F 8))).setCell ⟨wr.heap.size + 1, 7, none⟩ (.int .i64 (F 9)))).drew = U at HCM3 HB3 ⊢
                    obtain ⟨d0, d1⟩ := pz2 HCM3.out.hc
                    have HCFG := Lib.hid HCM3.out.cf
                    go_wp2_with fail
                    refine (bytes_law HCFG.out (cf19_size _)).mono ?_
                    rintro e w8 ⟨rfl, hb8⟩
                    have HC8 := Lib.hid (HCM3.out.keep hb8)
                    have HCFG8 := Lib.hid HC8.out.cf
                    have HB8 := Lib.hid (HB3.out.trans (hb8.mono HB3.out.size))
                    clear d0 d1 hb8 HCFG HCM3 HB3
                    obtain ⟨d0, d1⟩ := pz2 HC8.out.hc
                    go_wp2_with fail
                    refine (back_law HCFG8.out).mono ?_
                    rintro e w9 ⟨rfl, hb9⟩
                    have HB9 := Lib.hid (HB8.out.trans (hb9.mono HB8.out.size))
                    have HEN2 := Lib.hid (HEN.out.below HB9.out)
                    have HEB2 := Lib.hid (HEB.out.trans (HB9.out.mono HEB.out.size))
                    clear d0 d1 hb9 HC8 HCFG8 HB8 HEN HEB
                    go_wp2_with fail
                    go_roundw
                    case rel => exact ⟨k + 1, by omega, by go_num, HEN2, HEB2⟩
                    case measure => simp [intOf]; omega
                · obtain rfl : k = 19 := by omega
                  have hkd : decide (((19 : Nat) : Int) < 19) = false := by decide
                  go_wp2_with fail
                  go_roundw
                  case rel => exact ⟨a + 1, by omega, by go_num, HEN, HEB⟩
                  case measure => simp [intOf]; omega
            · obtain rfl : a = 20 := by omega
              have hld : decide (((20 : Nat) : Int) < 20) = false := by decide
              have HC4 := Lib.hid (blk HC3.out HEB.out)
              have HPW4 := Lib.hid (HPW3.out.below HEB.out)
              have HOW4 := Lib.hid (HOW3.out.below HEB.out)
              have HW4 := Lib.hid (HW3.out.trans (HEB.out.mono HW3.out.size))
              have hgl : w.heap.size < wr.heap.size := (Array.getElem?_eq_some_iff.1 HC4.out).1
              obtain ⟨c0, c1⟩ := pz2 HC4.out
              clear HC3 HPW3 HOW3 HW3 HCF3 HEN HEB
              go_wp2_with fail
              have hA := (Below.refl wr.heap.size wr).alloc (Nat.le_refl _) (.cells #[(.slice (some ⟨gs, 0, none⟩) 4 scap), (.slice (some ⟨go, 0, none⟩) 8 ocap)] 25)
              have HCA := Lib.hid (blk HC4.out hA)
              have HMA := Lib.hid (heap_alloc_new wr (.cells #[(.slice (some ⟨gs, 0, none⟩) 4 scap), (.slice (some ⟨go, 0, none⟩) 8 ocap)] 25))
              have HPWA := Lib.hid (HPW4.out.below hA)
              have HOWA : Hid ((wr.alloc (.cells #[(.slice (some ⟨gs, 0, none⟩) 4 scap), (.slice (some ⟨go, 0, none⟩) 8 ocap)] 25)).ownsRow (w.heap.size + 1) 32 6 (.slice (some ⟨go, 0, none⟩) 8 ocap) 8 (ocs (osF 8))) := HOW4.out.below hA
              have HWA := Lib.hid (HW4.out.trans (hA.mono HW4.out.size))
              have hsz0 : (wr.alloc (.cells #[(.slice (some ⟨gs, 0, none⟩) 4 scap), (.slice (some ⟨go, 0, none⟩) 8 ocap)] 25)).heap.size = wr.heap.size + 1 := by simp
              obtain ⟨gm, hgm⟩ : ∃ gm, wr.heap.size = gm := ⟨_, rfl⟩
              rw [hgm] at HMA hsz0 hgl ⊢
              clear hA HC4 HPW4 HOW4 HW4 c0 c1
              generalize wr.alloc (.cells #[(.slice (some ⟨gs, 0, none⟩) 4 scap), (.slice (some ⟨go, 0, none⟩) 8 ocap)] 25) = wA at *
              clear hgm
              obtain ⟨m0, m1⟩ := pz2 HMA.out
              have hsA := s34 (w := wA.drew) HCA.out HOWA.out
              have hsB := s34 (w := (wA.alloc (.cells #[.int .i64 2, .int .i64 0, .int .i64 1, .int .i64 16, .int .i64 4, .int .i64 0] 32)).drew) ((Below.heap_alloc _ _ _ (Array.getElem?_eq_some_iff.1 HCA.out).1).trans HCA.out) (own_drew2 HOWA.out _)
              have Hm1 : Hid (8 + 1 ≤ maxLen) := by unfold Hid maxLen; decide
              go_cut [] from 169 to 177 (fun wx => ∃ (va : Option Addr) (vcap : Nat), Hid (wx.heap[w.heap.size]? = some (.cells #[(.slice (some ⟨gs, 0, none⟩) 4 scap), (.slice (some ⟨go, 0, none⟩) 8 ocap)] 25 (0, 0))) ∧ Hid (wx.heap[gm]? = some (.cells #[(.slice (some ⟨gs, 0, none⟩) 4 scap), .slice va 9 vcap] 25 (0, 0))) ∧ Hid (PW wx (w.heap.size + 1) (.slice (some ⟨gs, 0, none⟩) 4 scap) (List.replicate 4 pF)) ∧ Hid (OW wx (w.heap.size + 1) (.slice va 9 vcap) (osF 8 ++ [oF 0])) ∧ Hid (OW wx (w.heap.size + 1) (.slice (some ⟨go, 0, none⟩) 8 ocap) (osF 8)) ∧ Hid (Below w.heap.size w wx))
              case first =>
                refine wp_region_held_drew (S := fun w' => w'.cell? ⟨w.heap.size, 1, none⟩ = some (.slice (some ⟨go, 0, none⟩) 8 ocap) ∧ w'.cell? ⟨go, 0, none⟩ = some (.int .i64 2) ∧ w'.cell? ⟨go, 1, none⟩ = some (.int .i64 0) ∧ w'.cell? ⟨go, 2, none⟩ = some (.int .i64 1) ∧ w'.cell? ⟨go, 3, none⟩ = some (.int .i64 16) ∧ w'.cell? ⟨go, 4, none⟩ = some (.int .i64 4) ∧ w'.cell? ⟨go, 5, none⟩ = some (.int .i64 0)) (by kernel_rfl) (by (try dsimp only); first | with_reducible exact hsA | with_reducible exact hsB | with_reducible exact hsC | with_reducible exact hsD | with_reducible exact hHeld | go_keep) (fun hHeld => ?_)
                refine wpAnyH_take (i := 0) (oi := _) (v := ?_) rfl (by kernel_rfl) (by kernel_rfl) (by kernel_rfl) (fun _ _ _ h => h) (Or.inl ⟨by rfl, ?_⟩) (by assumption) ?_; rotate_left
                · (intro w hSw; (try dsimp only at hSw); go_simp; try with_reducible rfl)
                try simp only [Act.put, List.setIfInBounds_toArray]
                refine wpAnyH_take (i := 2) (oi := _) (v := ?_) rfl (by kernel_rfl) (by kernel_rfl) (by kernel_rfl) (fun _ _ _ h => h) (Or.inl ⟨by rfl, ?_⟩) (by assumption) ?_; rotate_left
                · (intro w hSw; (try dsimp only at hSw); go_simp; try with_reducible rfl)
                try simp only [Act.put]
                refine wpAnyH_take (i := 3) (oi := _) (v := ?_) rfl (by kernel_rfl) (by kernel_rfl) (by kernel_rfl) (fun _ _ _ h => h) (Or.inl ⟨by rfl, ?_⟩) (by assumption) ?_; rotate_left
                · (intro w hSw; (try dsimp only at hSw); go_simp; try with_reducible rfl)
                try simp only [Act.put]
                refine wpAnyH_take (i := 4) (oi := _) (v := ?_) rfl (by kernel_rfl) (by kernel_rfl) (by kernel_rfl) (fun _ _ _ h => h) (Or.inl ⟨by rfl, ?_⟩) (by assumption) ?_; rotate_left
                · (intro w hSw; (try dsimp only at hSw); go_simp; try with_reducible rfl)
                try simp only [Act.put]
                refine wpAnyH_take (i := 5) (oi := _) (v := ?_) rfl (by kernel_rfl) (by kernel_rfl) (by kernel_rfl) (fun _ _ _ h => h) (Or.inl ⟨by rfl, ?_⟩) (by assumption) ?_; rotate_left
                · (intro w hSw; (try dsimp only at hSw); go_simp; try with_reducible rfl)
                try simp only [Act.put]
                refine wpAnyH_ready (rs := [1, 6]) (by kernel_rfl) (by simp) (AllReadyH.cons (o := _) rfl (fun K hK => ?_) (AllReadyH.cons (o := _) rfl (fun K hK => ?_) AllReadyH.nil))
                · go_simp
                  refine hK.out _ _ (by (try dsimp only); first | with_reducible exact hsA | with_reducible exact hsB | with_reducible exact hsC | with_reducible exact hsD | with_reducible exact hHeld | go_keep) (fun hHeld => ?_)
                  clear hK K
                  try simp only [Act.put, List.setIfInBounds_toArray, List.set_cons_zero, List.set_cons_succ]
                  refine wpAnyH_ready (rs := [6]) (by kernel_rfl) (by simp) (AllReadyH.cons (o := _) rfl (fun K hK => ?_) AllReadyH.nil)
                  go_simp
                  refine hK.out _ _ (by (try dsimp only); first | with_reducible exact hsA | with_reducible exact hsB | with_reducible exact hsC | with_reducible exact hsD | with_reducible exact hHeld | go_keep) (fun hHeld => ?_)
                  clear hK K
                  try simp only [Act.put, List.setIfInBounds_toArray, List.set_cons_zero, List.set_cons_succ]
                  refine wpAnyH_ready (rs := [7]) (by kernel_rfl) (by simp) (AllReadyH.cons (o := _) rfl (fun K hK => ?_) AllReadyH.nil)
                  refine step_append_keep rfl (.tmp 170) (.tmp 175) 23 rfl (w.heap.size + 1) 32 iO _ 6 48 Try.underlying23 hiO hO0 hO1 hO2 rfl (by decide) go 8 ocap _ (by simp [Act.eval]) (own_drew2 HOWA.out _) ⟨wA.heap.size, 0, none⟩ 1 1 ([2, 0, 1, 16, 4, 0].map (Value.int .i64)) (by simp [Act.eval]) rfl (lit_add (W := wA) rfl _ _) (one_i64 _) Hm1.out (by decide) (by simp; omega) ?_
                  intro v' w5 hown hold hgr
                  obtain ⟨p0, p1, p2, p3, p4, p5, p6, p7, p8⟩ := many_put (os' := osF 8 ++ [oF 0]) (by omega) HCA.out HMA.out (by omega) HPWA.out (osF_len 8) HOWA.out (by unfold OW; rw [ocs_snoc]; exact hown) hold (grown_undrew hgr)
                  have hsC := s34 p0 hold
                  have hsD := s34 p3 (by have h := p7; unfold OW at h; rw [osF_len] at h; exact h)
                  obtain ⟨va, vcap, hva⟩ := own_form hown
                  subst hva
                  refine hK.out _ _ (by (try dsimp only); first | with_reducible exact hsA | with_reducible exact hsB | with_reducible exact hsC | with_reducible exact hsD | with_reducible exact hHeld | go_keep) (fun hHeld => ?_)
                  clear hK K
                  try simp only [Act.put, List.setIfInBounds_toArray]
                  refine wpAnyH_take (i := 8) (oi := _) (v := ?_) rfl (by kernel_rfl) (by kernel_rfl) (by kernel_rfl) (fun _ _ _ h => h) (Or.inl ⟨by rfl, ?_⟩) (by assumption) ?_; rotate_left
                  · (intro w hSw; (try dsimp only at hSw); go_simp; try with_reducible rfl)
                  try simp only [Act.put]
                  refine wpAnyH_ready (rs := [9]) (by kernel_rfl) (by simp) (AllReadyH.cons (o := _) rfl (fun K hK => ?_) AllReadyH.nil)
                  go_simp
                  refine hK.out _ _ (by (try dsimp only); first | with_reducible exact hsA | with_reducible exact hsB | with_reducible exact hsC | with_reducible exact hsD | with_reducible exact hHeld | go_keep) (fun hHeld => ?_)
                  clear hK K
                  try simp only [Act.put, List.setIfInBounds_toArray, List.set_cons_zero, List.set_cons_succ]
                  refine wpAnyH_done (by kernel_rfl) ?_ _
                  go_wp2_with fail
                  go_meet
                  exact ⟨va, vcap, p3, p4, p5, p6, p7, HWA.out.trans (p8 (by omega))⟩
                · go_simp
                  refine hK.out _ _ (by (try dsimp only); first | with_reducible exact hsA | with_reducible exact hsB | with_reducible exact hsC | with_reducible exact hsD | with_reducible exact hHeld | go_keep) (fun hHeld => ?_)
                  clear hK K
                  try simp only [Act.put, List.setIfInBounds_toArray, List.set_cons_zero, List.set_cons_succ]
                  refine wpAnyH_ready (rs := [1]) (by kernel_rfl) (by simp) (AllReadyH.cons (o := _) rfl (fun K hK => ?_) AllReadyH.nil)
                  go_simp
                  refine hK.out _ _ (by (try dsimp only); first | with_reducible exact hsA | with_reducible exact hsB | with_reducible exact hsC | with_reducible exact hsD | with_reducible exact hHeld | go_keep) (fun hHeld => ?_)
                  clear hK K
                  try simp only [Act.put, List.setIfInBounds_toArray, List.set_cons_zero, List.set_cons_succ]
                  refine wpAnyH_ready (rs := [7]) (by kernel_rfl) (by simp) (AllReadyH.cons (o := _) rfl (fun K hK => ?_) AllReadyH.nil)
                  refine step_append_keep rfl (.tmp 170) (.tmp 175) 23 rfl (w.heap.size + 1) 32 iO _ 6 48 Try.underlying23 hiO hO0 hO1 hO2 rfl (by decide) go 8 ocap _ (by simp [Act.eval]) (own_drew2 HOWA.out _) ⟨wA.heap.size, 0, none⟩ 1 1 ([2, 0, 1, 16, 4, 0].map (Value.int .i64)) (by simp [Act.eval]) rfl (lit_add (W := wA) rfl _ _) (one_i64 _) Hm1.out (by decide) (by simp; omega) ?_
                  intro v' w5 hown hold hgr
                  obtain ⟨p0, p1, p2, p3, p4, p5, p6, p7, p8⟩ := many_put (os' := osF 8 ++ [oF 0]) (by omega) HCA.out HMA.out (by omega) HPWA.out (osF_len 8) HOWA.out (by unfold OW; rw [ocs_snoc]; exact hown) hold (grown_undrew hgr)
                  have hsC := s34 p0 hold
                  have hsD := s34 p3 (by have h := p7; unfold OW at h; rw [osF_len] at h; exact h)
                  obtain ⟨va, vcap, hva⟩ := own_form hown
                  subst hva
                  refine hK.out _ _ (by (try dsimp only); first | with_reducible exact hsA | with_reducible exact hsB | with_reducible exact hsC | with_reducible exact hsD | with_reducible exact hHeld | go_keep) (fun hHeld => ?_)
                  clear hK K
                  try simp only [Act.put, List.setIfInBounds_toArray]
                  refine wpAnyH_take (i := 8) (oi := _) (v := ?_) rfl (by kernel_rfl) (by kernel_rfl) (by kernel_rfl) (fun _ _ _ h => h) (Or.inl ⟨by rfl, ?_⟩) (by assumption) ?_; rotate_left
                  · (intro w hSw; (try dsimp only at hSw); go_simp; try with_reducible rfl)
                  try simp only [Act.put]
                  refine wpAnyH_ready (rs := [9]) (by kernel_rfl) (by simp) (AllReadyH.cons (o := _) rfl (fun K hK => ?_) AllReadyH.nil)
                  go_simp
                  refine hK.out _ _ (by (try dsimp only); first | with_reducible exact hsA | with_reducible exact hsB | with_reducible exact hsC | with_reducible exact hsD | with_reducible exact hHeld | go_keep) (fun hHeld => ?_)
                  clear hK K
                  try simp only [Act.put, List.setIfInBounds_toArray, List.set_cons_zero, List.set_cons_succ]
                  refine wpAnyH_done (by kernel_rfl) ?_ _
                  go_wp2_with fail
                  go_meet
                  exact ⟨va, vcap, p3, p4, p5, p6, p7, HWA.out.trans (p8 (by omega))⟩
              case rest =>
                obtain ⟨va, vcap, HC5, HM5, HP5, HN5, HO5, HW5⟩ := hcut
                obtain ⟨c0, c1⟩ := pz2 HC5.out
                clear hsA hsB m0 m1 HCA HMA HPWA HOWA HWA hsz0
                go_wp2_with fail
                have hA := (Below.refl wc.heap.size wc).alloc (Nat.le_refl _) (.cells #[(.slice (some ⟨gs, 0, none⟩) 4 scap), (.slice (some ⟨go, 0, none⟩) 8 ocap)] 25)
                have HCA := Lib.hid (blk HC5.out hA)
                have HMA := Lib.hid (blk HM5.out hA)
                have HFA := Lib.hid (heap_alloc_new wc (.cells #[(.slice (some ⟨gs, 0, none⟩) 4 scap), (.slice (some ⟨go, 0, none⟩) 8 ocap)] 25))
                have hpw := HP5.out.below hA
                have HOWA := Lib.hid (HO5.out.below hA)
                have HNWA := Lib.hid (HN5.out.below hA)
                have HWA := Lib.hid (HW5.out.trans (hA.mono HW5.out.size))
                have hgm : gm < wc.heap.size := (Array.getElem?_eq_some_iff.1 HM5.out).1
                have hgl5 : w.heap.size < wc.heap.size := (Array.getElem?_eq_some_iff.1 HC5.out).1
                have hsz0 : (wc.alloc (.cells #[(.slice (some ⟨gs, 0, none⟩) 4 scap), (.slice (some ⟨go, 0, none⟩) 8 ocap)] 25)).heap.size = wc.heap.size + 1 := by simp
                obtain ⟨gf, hgf⟩ : ∃ gf, wc.heap.size = gf := ⟨_, rfl⟩
                rw [hgf] at HFA hsz0 hgm hgl5 ⊢
                clear hA HC5 HM5 HP5 HN5 HO5 HW5 c0 c1
                generalize wc.alloc (.cells #[(.slice (some ⟨gs, 0, none⟩) 4 scap), (.slice (some ⟨go, 0, none⟩) 8 ocap)] 25) = wB at *
                clear hgf
                obtain ⟨xs, ta, tcap, hrow, hx0, hx1, hx2, hnext⟩ := PW.rowK (p := pF) (ps := List.replicate 3 pF) hpw rfl
                replace hx0 : xs[0]? = some (.int .i64 64) := hx0
                replace hx1 : xs[1]? = some (.int .i64 20) := hx1
                replace hx2 : xs[2]? = some (.slice ta 4 tcap) := hx2
                have HROW := Lib.hid hrow; have HNEXT := Lib.hid hnext
                obtain ⟨m0, m1⟩ := pz2 HFA.out
                have hsA := s36 (w := wB.drew) HCA.out HROW.out hx0 hx1 hx2
                have hsB := s36 (w := (wB.alloc (.cells #[.int .i64 64, .int .i64 20, .slice ta 4 tcap] 28)).drew) ((Below.heap_alloc _ _ _ (Array.getElem?_eq_some_iff.1 HCA.out).1).trans HCA.out) (own_drew2 HROW.out _) hx0 hx1 hx2
                have HX := Lib.hid (And.intro hx0 (And.intro hx1 hx2))
                clear hrow hnext hpw hx0 hx1 hx2
                have Hm1 : Hid (4 + 1 ≤ maxLen) := by unfold Hid maxLen; decide
                go_cut [] from 179 to 187 (fun wx => ∃ (fa : Option Addr) (fcap : Nat), Hid (wx.heap[gm]? = some (.cells #[(.slice (some ⟨gs, 0, none⟩) 4 scap), (.slice va 9 vcap)] 25 (0, 0))) ∧ Hid (wx.heap[gf]? = some (.cells #[.slice fa 5 fcap, (.slice (some ⟨go, 0, none⟩) 8 ocap)] 25 (0, 0))) ∧ Hid (PW wx (w.heap.size + 1) (.slice (some ⟨gs, 0, none⟩) 4 scap) (List.replicate 4 pF)) ∧ Hid (PW wx (w.heap.size + 1) (.slice fa 5 fcap) (List.replicate 4 pF ++ [pF])) ∧ Hid (OW wx (w.heap.size + 1) (.slice (some ⟨go, 0, none⟩) 8 ocap) (osF 8)) ∧ Hid (OW wx (w.heap.size + 1) (.slice va 9 vcap) (osF 8 ++ [oF 0])) ∧ Hid (Below w.heap.size w wx))
                case first =>
                  refine wp_region_held_drew (S := fun w' => w'.cell? ⟨w.heap.size, 0, none⟩ = some (.slice (some ⟨gs, 0, none⟩) 4 scap) ∧ w'.cell? ⟨gs, 0, none⟩ = some (.int .i64 64) ∧ w'.cell? ⟨gs, 1, none⟩ = some (.int .i64 20) ∧ w'.cell? ⟨gs, 2, none⟩ = some (.slice ta 4 tcap)) (by kernel_rfl) (by (try dsimp only); first | with_reducible exact hsA | with_reducible exact hsB | with_reducible exact hsC | with_reducible exact hsD | with_reducible exact hHeld | go_keep) (fun hHeld => ?_)
                  refine wpAnyH_take (i := 0) (oi := _) (v := ?_) rfl (by kernel_rfl) (by kernel_rfl) (by kernel_rfl) (fun _ _ _ h => h) (Or.inl ⟨by rfl, ?_⟩) (by assumption) ?_; rotate_left
                  · (intro w hSw; (try dsimp only at hSw); go_simp; try with_reducible rfl)
                  try simp only [Act.put, List.setIfInBounds_toArray]
                  refine wpAnyH_take (i := 2) (oi := _) (v := ?_) rfl (by kernel_rfl) (by kernel_rfl) (by kernel_rfl) (fun _ _ _ h => h) (Or.inl ⟨by rfl, ?_⟩) (by assumption) ?_; rotate_left
                  · (intro w hSw; (try dsimp only at hSw); go_simp; try with_reducible rfl)
                  try simp only [Act.put]
                  refine wpAnyH_take (i := 3) (oi := _) (v := ?_) rfl (by kernel_rfl) (by kernel_rfl) (by kernel_rfl) (fun _ _ _ h => h) (Or.inl ⟨by rfl, ?_⟩) (by assumption) ?_; rotate_left
                  · (intro w hSw; (try dsimp only at hSw); go_simp; try with_reducible rfl)
                  try simp only [Act.put]
                  refine wpAnyH_take (i := 4) (oi := _) (v := ?_) rfl (by kernel_rfl) (by kernel_rfl) (by kernel_rfl) (fun _ _ _ h => h) (Or.inl ⟨by rfl, ?_⟩) (by assumption) ?_; rotate_left
                  · (intro w hSw; (try dsimp only at hSw); go_simp; try with_reducible rfl)
                  try simp only [Act.put]
                  refine wpAnyH_take (i := 5) (oi := _) (v := ?_) rfl (by kernel_rfl) (by kernel_rfl) (by kernel_rfl) (fun _ _ _ h => h) (Or.inl ⟨by rfl, ?_⟩) (by assumption) ?_; rotate_left
                  · (intro w hSw; (try dsimp only at hSw); go_simp; try with_reducible rfl)
                  try simp only [Act.put]
                  refine wpAnyH_ready (rs := [1, 6]) (by kernel_rfl) (by simp) (AllReadyH.cons (o := _) rfl (fun K hK => ?_) (AllReadyH.cons (o := _) rfl (fun K hK => ?_) AllReadyH.nil))
                  · go_simp
                    refine hK.out _ _ (by (try dsimp only); first | with_reducible exact hsA | with_reducible exact hsB | with_reducible exact hsC | with_reducible exact hsD | with_reducible exact hHeld | go_keep) (fun hHeld => ?_)
                    clear hK K
                    try simp only [Act.put, List.setIfInBounds_toArray, List.set_cons_zero, List.set_cons_succ]
                    refine wpAnyH_ready (rs := [6]) (by kernel_rfl) (by simp) (AllReadyH.cons (o := _) rfl (fun K hK => ?_) AllReadyH.nil)
                    go_simp
                    refine hK.out _ _ (by (try dsimp only); first | with_reducible exact hsA | with_reducible exact hsB | with_reducible exact hsC | with_reducible exact hsD | with_reducible exact hHeld | go_keep) (fun hHeld => ?_)
                    clear hK K
                    try simp only [Act.put, List.setIfInBounds_toArray, List.set_cons_zero, List.set_cons_succ]
                    refine wpAnyH_ready (rs := [7]) (by kernel_rfl) (by simp) (AllReadyH.cons (o := _) rfl (fun K hK => ?_) AllReadyH.nil)
                    refine step_append_keep rfl (.tmp 180) (.tmp 185) 22 rfl (w.heap.size + 1) 28 iP _ 3 40 Try.underlying22 hiP hP0 hP1 hP2 rfl (by decide) gs 4 scap _ (by simp [Act.eval]) (own_drew2 HROW.out _) ⟨wB.heap.size, 0, none⟩ 1 1 [.int .i64 64, .int .i64 20, .slice ta 4 tcap] (by simp [Act.eval]) rfl (lit_add (W := wB) rfl _ _) (pt_one 64 20 _ rfl) Hm1.out (by decide) (by simp; omega) ?_
                    intro v' w5 hown hold hgr
                    obtain ⟨hn1, hn2⟩ := HNEXT.out _ _ _ (grown_undrew hgr) hown hold
                    obtain ⟨p0, p1, p2, p3, p4, p5, p6, p7, p8, p9, p10⟩ := five_put (by omega) HCA.out HMA.out HFA.out (by omega) (by omega) HROW.out HOWA.out HNWA.out hn1 hn2 (grown_undrew hgr)
                    have hsC := s36 p0 hold HX.out.1 HX.out.2.1 HX.out.2.2
                    have hsD := s36 p3 (own_set hold (five_blk HFA.out HROW.out (grown_undrew hgr)) (by decide)) HX.out.1 HX.out.2.1 HX.out.2.2
                    obtain ⟨fa, fcap, hva⟩ := own_form hown
                    subst hva
                    refine hK.out _ _ (by (try dsimp only); first | with_reducible exact hsA | with_reducible exact hsB | with_reducible exact hsC | with_reducible exact hsD | with_reducible exact hHeld | go_keep) (fun hHeld => ?_)
                    clear hK K
                    try simp only [Act.put, List.setIfInBounds_toArray]
                    refine wpAnyH_take (i := 8) (oi := _) (v := ?_) rfl (by kernel_rfl) (by kernel_rfl) (by kernel_rfl) (fun _ _ _ h => h) (Or.inl ⟨by rfl, ?_⟩) (by assumption) ?_; rotate_left
                    · (intro w hSw; (try dsimp only at hSw); go_simp; try with_reducible rfl)
                    try simp only [Act.put]
                    refine wpAnyH_ready (rs := [9]) (by kernel_rfl) (by simp) (AllReadyH.cons (o := _) rfl (fun K hK => ?_) AllReadyH.nil)
                    go_simp
                    refine hK.out _ _ (by (try dsimp only); first | with_reducible exact hsA | with_reducible exact hsB | with_reducible exact hsC | with_reducible exact hsD | with_reducible exact hHeld | go_keep) (fun hHeld => ?_)
                    clear hK K
                    try simp only [Act.put, List.setIfInBounds_toArray, List.set_cons_zero, List.set_cons_succ]
                    refine wpAnyH_done (by kernel_rfl) ?_ _
                    go_wp2_with fail
                    go_meet
                    exact ⟨fa, fcap, p4, p5, p7, p6, p8, p9, HWA.out.trans (p10 (by omega))⟩
                  · go_simp
                    refine hK.out _ _ (by (try dsimp only); first | with_reducible exact hsA | with_reducible exact hsB | with_reducible exact hsC | with_reducible exact hsD | with_reducible exact hHeld | go_keep) (fun hHeld => ?_)
                    clear hK K
                    try simp only [Act.put, List.setIfInBounds_toArray, List.set_cons_zero, List.set_cons_succ]
                    refine wpAnyH_ready (rs := [1]) (by kernel_rfl) (by simp) (AllReadyH.cons (o := _) rfl (fun K hK => ?_) AllReadyH.nil)
                    go_simp
                    refine hK.out _ _ (by (try dsimp only); first | with_reducible exact hsA | with_reducible exact hsB | with_reducible exact hsC | with_reducible exact hsD | with_reducible exact hHeld | go_keep) (fun hHeld => ?_)
                    clear hK K
                    try simp only [Act.put, List.setIfInBounds_toArray, List.set_cons_zero, List.set_cons_succ]
                    refine wpAnyH_ready (rs := [7]) (by kernel_rfl) (by simp) (AllReadyH.cons (o := _) rfl (fun K hK => ?_) AllReadyH.nil)
                    refine step_append_keep rfl (.tmp 180) (.tmp 185) 22 rfl (w.heap.size + 1) 28 iP _ 3 40 Try.underlying22 hiP hP0 hP1 hP2 rfl (by decide) gs 4 scap _ (by simp [Act.eval]) (own_drew2 HROW.out _) ⟨wB.heap.size, 0, none⟩ 1 1 [.int .i64 64, .int .i64 20, .slice ta 4 tcap] (by simp [Act.eval]) rfl (lit_add (W := wB) rfl _ _) (pt_one 64 20 _ rfl) Hm1.out (by decide) (by simp; omega) ?_
                    intro v' w5 hown hold hgr
                    obtain ⟨hn1, hn2⟩ := HNEXT.out _ _ _ (grown_undrew hgr) hown hold
                    obtain ⟨p0, p1, p2, p3, p4, p5, p6, p7, p8, p9, p10⟩ := five_put (by omega) HCA.out HMA.out HFA.out (by omega) (by omega) HROW.out HOWA.out HNWA.out hn1 hn2 (grown_undrew hgr)
                    have hsC := s36 p0 hold HX.out.1 HX.out.2.1 HX.out.2.2
                    have hsD := s36 p3 (own_set hold (five_blk HFA.out HROW.out (grown_undrew hgr)) (by decide)) HX.out.1 HX.out.2.1 HX.out.2.2
                    obtain ⟨fa, fcap, hva⟩ := own_form hown
                    subst hva
                    refine hK.out _ _ (by (try dsimp only); first | with_reducible exact hsA | with_reducible exact hsB | with_reducible exact hsC | with_reducible exact hsD | with_reducible exact hHeld | go_keep) (fun hHeld => ?_)
                    clear hK K
                    try simp only [Act.put, List.setIfInBounds_toArray]
                    refine wpAnyH_take (i := 8) (oi := _) (v := ?_) rfl (by kernel_rfl) (by kernel_rfl) (by kernel_rfl) (fun _ _ _ h => h) (Or.inl ⟨by rfl, ?_⟩) (by assumption) ?_; rotate_left
                    · (intro w hSw; (try dsimp only at hSw); go_simp; try with_reducible rfl)
                    try simp only [Act.put]
                    refine wpAnyH_ready (rs := [9]) (by kernel_rfl) (by simp) (AllReadyH.cons (o := _) rfl (fun K hK => ?_) AllReadyH.nil)
                    go_simp
                    refine hK.out _ _ (by (try dsimp only); first | with_reducible exact hsA | with_reducible exact hsB | with_reducible exact hsC | with_reducible exact hsD | with_reducible exact hHeld | go_keep) (fun hHeld => ?_)
                    clear hK K
                    try simp only [Act.put, List.setIfInBounds_toArray, List.set_cons_zero, List.set_cons_succ]
                    refine wpAnyH_done (by kernel_rfl) ?_ _
                    go_wp2_with fail
                    go_meet
                    exact ⟨fa, fcap, p4, p5, p7, p6, p8, p9, HWA.out.trans (p10 (by omega))⟩
                case rest =>
                  obtain ⟨fa, fcap, HM6, HF6, HPM, HPF, HO6, HN6, HW6⟩ := hcut
                  clear hsA hsB m0 m1 HCA HMA HFA HOWA HNWA HWA HROW HNEXT HX hsz0 Hm1
                  go_wp2_with fail
                  refine (chapter_own 3 wc).mono ?_
                  rintro e w6 ⟨rfl, hch⟩
                  have HCH := Lib.hid hch
                  have HS6 := Lib.hid hch.size
                  obtain ⟨gk, hgk⟩ : ∃ gk, w6.heap.size = gk := ⟨_, rfl⟩
                  have HKA := Lib.hid (heap_alloc_new w6 (.cells #[(.slice (some ⟨wc.heap.size + 2, 0, none⟩) 1 1), .slice none 0 0] 25))
                  have HK0 : Hid (gk = wc.heap.size + 3) := by rw [← hgk]; exact hch.size
                  have HA6 := Lib.hid ((Below.refl w6.heap.size w6).alloc (Nat.le_refl _) (.cells #[(.slice (some ⟨wc.heap.size + 2, 0, none⟩) 1 1), .slice none 0 0] 25))
                  clear hch
                  go_wp2_with fail
                  rw [hgk] at HKA
                  try rw [show ((20 : Nat) : Int) = 20 from rfl]
                  clear hgk
                  go_loopw [15] (fun i wr => ∃ (j : Nat) (tv : Value), j ≤ 4 ∧ i = .int .i64 j ∧ Hid (TW wr (wc.heap.size + 1) tv (List.replicate (j + 1) tC3)) ∧ Hid (wr.heap[wc.heap.size + 2]? = some (.cells #[.int .i64 10, .int .i64 4, tv] 28 (0, 0))) ∧ Hid (wr.heap[gk]? = some (.cells #[(.slice (some ⟨wc.heap.size + 2, 0, none⟩) 1 1), .slice none 0 0] 25 (0, 0))) ∧ Hid (Below wc.heap.size wc wr)) (fun i _ => 4 - (intOf i).toNat)
                  case atStart => exact ⟨0, _, by omega, rfl, (ch_tasks HCH.out).below HA6.out, blk HCH.out.hp HA6.out, HKA.out, HCH.out.below.trans (HA6.out.mono HCH.out.below.size)⟩
                  case round =>
                    clear HCH HS6 HKA HA6
                    obtain ⟨j, tv, hj, rfl, HTW, HPT, HKB, HBW⟩ := hrel
                    by_cases hlj : j < 4
                    · obtain ⟨tb, tcap, htv⟩ : ∃ tb tcap, tv = .slice (some ⟨tb, 0, none⟩) (j + 1) tcap := by
                        have h := HTW.out
                        unfold TW at h
                        rw [List.length_replicate] at h
                        obtain ⟨g, c, e, _⟩ := own_some (n := j + 1) h (by omega)
                        exact ⟨g, c, e⟩
                      subst htv
                      have HROW : Hid (wr.ownsRow (wc.heap.size + 1) 30 8 (.slice (some ⟨tb, 0, none⟩) (j + 1) tcap) (j + 1) (tcs (List.replicate (j + 1) tC3))) := by
                        have h := HTW.out
                        unfold TW at h
                        rw [List.length_replicate] at h
                        exact h
                      have HKN : Hid (gk ≠ wc.heap.size + 2) := by have := HK0.out; unfold Hid; omega
                      have hd2 : decide ((j : Int) < 4) = true := by simp; omega
                      have hsz : wc.heap.size + 2 < wr.heap.size := (Array.getElem?_eq_some_iff.1 HPT.out).1
                      have k0 := (pz2 HKB.out).1
                      obtain ⟨t0, t1, t2⟩ := pz_of HPT.out
                      have hsA := s41 (w := wr.drew) HKB.out HROW.out
                      have hsB := s41 (w := (wr.alloc (.cells #[.int .i64 20, .int .i64 12, .int .i64 3, .int .i64 0, .int .i64 0, .int .i64 0, .int .i64 0, .int .i64 0] 30)).drew) ((Below.heap_alloc _ _ _ (Array.getElem?_eq_some_iff.1 HKB.out).1).trans HKB.out) (own_drew2 HROW.out _)
                      have Hm1 : Hid (j + 1 + 1 ≤ maxLen) := by unfold Hid maxLen; omega
                      have Hm2 : Hid ((j + 1 + 1) * 64 ≤ 140737488355328) := by unfold Hid; omega
                      clear HTW
                      have hj1 : (0 : Int) < (j : Int) + 1 := by omega
                      go_wp2_with fail
                      refine wp_region_held_drew (S := fun w' => w'.cell? ⟨gk, 0, none⟩ = some (.slice (some ⟨wc.heap.size + 2, 0, none⟩) 1 1) ∧ w'.cell? ⟨tb, 0, none⟩ = some (.int .i64 20) ∧ w'.cell? ⟨tb, 1, none⟩ = some (.int .i64 12) ∧ w'.cell? ⟨tb, 2, none⟩ = some (.int .i64 3) ∧ w'.cell? ⟨tb, 3, none⟩ = some (.int .i64 0) ∧ w'.cell? ⟨tb, 4, none⟩ = some (.int .i64 0) ∧ w'.cell? ⟨tb, 5, none⟩ = some (.int .i64 0) ∧ w'.cell? ⟨tb, 6, none⟩ = some (.int .i64 0) ∧ w'.cell? ⟨tb, 7, none⟩ = some (.int .i64 0)) (by kernel_rfl) (by (try dsimp only); first | with_reducible exact hsA | with_reducible exact hsB | with_reducible exact hsC | with_reducible exact hsD | with_reducible exact hHeld | go_keep) (fun hHeld => ?_)
                      refine wpAnyH_take (i := 0) (oi := _) (v := ?_) rfl (by kernel_rfl) (by kernel_rfl) (by kernel_rfl) (fun _ _ _ h => h) (Or.inl ⟨by rfl, ?_⟩) (by assumption) ?_; rotate_left
                      · (intro w hSw; (try dsimp only at hSw); go_simp; try with_reducible rfl)
                      try simp only [Act.put, List.setIfInBounds_toArray]
                      refine wpAnyH_take (i := 1) (oi := _) (v := ?_) rfl (by kernel_rfl) (by kernel_rfl) (by kernel_rfl) (fun _ _ _ h => h) (Or.inl ⟨by rfl, ?_⟩) (by assumption) ?_; rotate_left
                      · (intro w hSw; (try dsimp only at hSw); go_simp; try with_reducible rfl)
                      try simp only [Act.put]
                      refine wpAnyH_take (i := 2) (oi := _) (v := ?_) rfl (by kernel_rfl) (by kernel_rfl) (by kernel_rfl) (fun _ _ _ h => h) (Or.inl ⟨by rfl, ?_⟩) (by assumption) ?_; rotate_left
                      · (intro w hSw; (try dsimp only at hSw); go_simp; try with_reducible rfl)
                      try simp only [Act.put]
                      refine wpAnyH_take (i := 3) (oi := _) (v := ?_) rfl (by kernel_rfl) (by kernel_rfl) (by kernel_rfl) (fun _ _ _ h => h) (Or.inl ⟨by rfl, ?_⟩) (by assumption) ?_; rotate_left
                      · (intro w hSw; (try dsimp only at hSw); go_simp; try with_reducible rfl)
                      try simp only [Act.put]
                      refine wpAnyH_take (i := 4) (oi := _) (v := ?_) rfl (by kernel_rfl) (by kernel_rfl) (by kernel_rfl) (fun _ _ _ h => h) (Or.inl ⟨by rfl, ?_⟩) (by assumption) ?_; rotate_left
                      · (intro w hSw; (try dsimp only at hSw); go_simp; try with_reducible rfl)
                      try simp only [Act.put]
                      refine wpAnyH_take (i := 5) (oi := _) (v := ?_) rfl (by kernel_rfl) (by kernel_rfl) (by kernel_rfl) (fun _ _ _ h => h) (Or.inl ⟨by rfl, ?_⟩) (by assumption) ?_; rotate_left
                      · (intro w hSw; (try dsimp only at hSw); go_simp; try with_reducible rfl)
                      try simp only [Act.put]
                      refine wpAnyH_take (i := 7) (oi := _) (v := ?_) rfl (by kernel_rfl) (by kernel_rfl) (by kernel_rfl) (fun _ _ _ h => h) (Or.inl ⟨by rfl, ?_⟩) (by assumption) ?_; rotate_left
                      · (intro w hSw; (try dsimp only at hSw); go_simp; try with_reducible rfl)
                      try simp only [Act.put]
                      refine wpAnyH_take (i := 8) (oi := _) (v := ?_) rfl (by kernel_rfl) (by kernel_rfl) (by kernel_rfl) (fun _ _ _ h => h) (Or.inl ⟨by rfl, ?_⟩) (by assumption) ?_; rotate_left
                      · (intro w hSw; (try dsimp only at hSw); go_simp; try with_reducible rfl)
                      try simp only [Act.put]
                      refine wpAnyH_take (i := 9) (oi := _) (v := ?_) rfl (by kernel_rfl) (by kernel_rfl) (by kernel_rfl) (fun _ _ _ h => h) (Or.inl ⟨by rfl, ?_⟩) (by assumption) ?_; rotate_left
                      · (intro w hSw; (try dsimp only at hSw); go_simp; try with_reducible rfl)
                      try simp only [Act.put]
                      refine wpAnyH_take (i := 10) (oi := _) (v := ?_) rfl (by kernel_rfl) (by kernel_rfl) (by kernel_rfl) (fun _ _ _ h => h) (Or.inl ⟨by rfl, ?_⟩) (by assumption) ?_; rotate_left
                      · (intro w hSw; (try dsimp only at hSw); go_simp; try with_reducible rfl)
                      try simp only [Act.put]
                      refine wpAnyH_ready (rs := [6, 11]) (by kernel_rfl) (by simp) (AllReadyH.cons (o := _) rfl (fun K hK => ?_) (AllReadyH.cons (o := _) rfl (fun K hK => ?_) AllReadyH.nil))
                      · go_simp
                        refine hK.out _ _ (by (try dsimp only); first | with_reducible exact hsA | with_reducible exact hsB | with_reducible exact hsC | with_reducible exact hsD | with_reducible exact hHeld | go_keep) (fun hHeld => ?_)
                        clear hK K
                        try simp only [Act.put, List.setIfInBounds_toArray, List.set_cons_zero, List.set_cons_succ]
                        refine wpAnyH_ready (rs := [11]) (by kernel_rfl) (by simp) (AllReadyH.cons (o := _) rfl (fun K hK => ?_) AllReadyH.nil)
                        go_simp
                        refine hK.out _ _ (by (try dsimp only); first | with_reducible exact hsA | with_reducible exact hsB | with_reducible exact hsC | with_reducible exact hsD | with_reducible exact hHeld | go_keep) (fun hHeld => ?_)
                        clear hK K
                        try simp only [Act.put, List.setIfInBounds_toArray, List.set_cons_zero, List.set_cons_succ]
                        refine wpAnyH_take (i := 12) (oi := _) (v := ?_) rfl (by kernel_rfl) (by kernel_rfl) (by kernel_rfl) (fun _ _ _ h => h) (Or.inl ⟨by rfl, ?_⟩) (by assumption) ?_; rotate_left
                        · (intro w hSw; (try dsimp only at hSw); go_simp; try with_reducible rfl)
                        try simp only [Act.put, List.setIfInBounds_toArray]
                        refine wpAnyH_take (i := 13) (oi := _) (v := ?_) rfl (by kernel_rfl) (by kernel_rfl) (by kernel_rfl) (fun _ _ _ h => h) (Or.inl ⟨by rfl, ?_⟩) (by assumption) ?_; rotate_left
                        · (intro w hSw; (try dsimp only at hSw); go_simp; try with_reducible rfl)
                        try simp only [Act.put]
                        refine wpAnyH_ready (rs := [14]) (by kernel_rfl) (by simp) (AllReadyH.cons (o := _) rfl (fun K hK => ?_) AllReadyH.nil)
                        go_simp
                        refine hK.out _ _ (by (try dsimp only); first | with_reducible exact hsA | with_reducible exact hsB | with_reducible exact hsC | with_reducible exact hsD | with_reducible exact hHeld | go_keep) (fun hHeld => ?_)
                        clear hK K
                        try simp only [Act.put, List.setIfInBounds_toArray, List.set_cons_zero, List.set_cons_succ]
                        refine wpAnyH_ready (rs := [15]) (by kernel_rfl) (by simp) (AllReadyH.cons (o := _) rfl (fun K hK => ?_) AllReadyH.nil)
                        refine step_append_keep rfl (.tmp 199) (.tmp 207) 26 rfl (wc.heap.size + 1) 30 iT _ 8 64 Try.underlying26 hiT hT0 hT1 hT2 rfl (by decide) tb (j + 1) tcap _ (by simp [Act.eval]) (own_drew2 HROW.out _) ⟨wr.heap.size, 0, none⟩ 1 1 (tC3.row.map (Value.int .i64)) (by simp [Act.eval]) rfl (lit_add (W := wr) rfl _ _) (one_i64 _) Hm1.out Hm2.out (by simp; omega) ?_
                        intro v' w5 hown hold hgr
                        obtain ⟨p0, p1, p2, p3, p4, p5, p6, p7⟩ := more_put HPT.out HKB.out HKN.out List.length_replicate HROW.out hown hold (grown_undrew hgr)
                        have hsC := s41 p0 hold
                        have hsD := s41 p3 p6
                        obtain ⟨va, vcap, hva⟩ := own_form hown
                        subst hva
                        refine hK.out _ _ (by (try dsimp only); first | with_reducible exact hsA | with_reducible exact hsB | with_reducible exact hsC | with_reducible exact hsD | with_reducible exact hHeld | go_keep) (fun hHeld => ?_)
                        clear hK K
                        try simp only [Act.put, List.setIfInBounds_toArray]
                        refine wpAnyH_take (i := 16) (oi := _) (v := ?_) rfl (by kernel_rfl) (by kernel_rfl) (by kernel_rfl) (fun _ _ _ h => h) (Or.inl ⟨by rfl, ?_⟩) (by assumption) ?_; rotate_left
                        · (intro w hSw; (try dsimp only at hSw); go_simp; try with_reducible rfl)
                        try simp only [Act.put]
                        refine wpAnyH_take (i := 17) (oi := _) (v := ?_) rfl (by kernel_rfl) (by kernel_rfl) (by kernel_rfl) (fun _ _ _ h => h) (Or.inl ⟨by rfl, ?_⟩) (by assumption) ?_; rotate_left
                        · (intro w hSw; (try dsimp only at hSw); go_simp; try with_reducible rfl)
                        try simp only [Act.put]
                        refine wpAnyH_ready (rs := [18]) (by kernel_rfl) (by simp) (AllReadyH.cons (o := _) rfl (fun K hK => ?_) AllReadyH.nil)
                        go_simp
                        refine hK.out _ _ (by (try dsimp only); first | with_reducible exact hsA | with_reducible exact hsB | with_reducible exact hsC | with_reducible exact hsD | with_reducible exact hHeld | go_keep) (fun hHeld => ?_)
                        clear hK K
                        try simp only [Act.put, List.setIfInBounds_toArray, List.set_cons_zero, List.set_cons_succ]
                        refine wpAnyH_done (by kernel_rfl) ?_ _
                        have hrep : List.replicate (j + 1) tC3 ++ [tC3] = List.replicate (j + 1 + 1) tC3 := (List.replicate_succ' ..).symm
                        rw [hrep] at p5
                        have P5 := Lib.hid p5; have P4 := Lib.hid p4; have P3 := Lib.hid p3; have P7 := Lib.hid (HBW.out.trans (p7 wc.heap.size (by omega) (by omega)))
                        clear p0 p1 p2 p3 p4 p5 p6 p7 hsA hsB hsC hsD hHeld hown hold hgr hrep k0 t0 t1 t2
                        go_wp2_with fail
                        go_roundw
                        case rel => exact ⟨j + 1, _, by omega, by go_num, P5, P4, P3, P7⟩
                        case measure => simp [intOf]; omega
                      · go_simp
                        refine hK.out _ _ (by (try dsimp only); first | with_reducible exact hsA | with_reducible exact hsB | with_reducible exact hsC | with_reducible exact hsD | with_reducible exact hHeld | go_keep) (fun hHeld => ?_)
                        clear hK K
                        try simp only [Act.put, List.setIfInBounds_toArray, List.set_cons_zero, List.set_cons_succ]
                        refine wpAnyH_take (i := 12) (oi := _) (v := ?_) rfl (by kernel_rfl) (by kernel_rfl) (by kernel_rfl) (fun _ _ _ h => h) (Or.inl ⟨by rfl, ?_⟩) (by assumption) ?_; rotate_left
                        · (intro w hSw; (try dsimp only at hSw); go_simp; try with_reducible rfl)
                        try simp only [Act.put, List.setIfInBounds_toArray]
                        refine wpAnyH_take (i := 13) (oi := _) (v := ?_) rfl (by kernel_rfl) (by kernel_rfl) (by kernel_rfl) (fun _ _ _ h => h) (Or.inl ⟨by rfl, ?_⟩) (by assumption) ?_; rotate_left
                        · (intro w hSw; (try dsimp only at hSw); go_simp; try with_reducible rfl)
                        try simp only [Act.put]
                        refine wpAnyH_ready (rs := [6, 14]) (by kernel_rfl) (by simp) (AllReadyH.cons (o := _) rfl (fun K hK => ?_) (AllReadyH.cons (o := _) rfl (fun K hK => ?_) AllReadyH.nil))
                        · go_simp
                          refine hK.out _ _ (by (try dsimp only); first | with_reducible exact hsA | with_reducible exact hsB | with_reducible exact hsC | with_reducible exact hsD | with_reducible exact hHeld | go_keep) (fun hHeld => ?_)
                          clear hK K
                          try simp only [Act.put, List.setIfInBounds_toArray, List.set_cons_zero, List.set_cons_succ]
                          refine wpAnyH_ready (rs := [14]) (by kernel_rfl) (by simp) (AllReadyH.cons (o := _) rfl (fun K hK => ?_) AllReadyH.nil)
                          go_simp
                          refine hK.out _ _ (by (try dsimp only); first | with_reducible exact hsA | with_reducible exact hsB | with_reducible exact hsC | with_reducible exact hsD | with_reducible exact hHeld | go_keep) (fun hHeld => ?_)
                          clear hK K
                          try simp only [Act.put, List.setIfInBounds_toArray, List.set_cons_zero, List.set_cons_succ]
                          refine wpAnyH_ready (rs := [15]) (by kernel_rfl) (by simp) (AllReadyH.cons (o := _) rfl (fun K hK => ?_) AllReadyH.nil)
                          refine step_append_keep rfl (.tmp 199) (.tmp 207) 26 rfl (wc.heap.size + 1) 30 iT _ 8 64 Try.underlying26 hiT hT0 hT1 hT2 rfl (by decide) tb (j + 1) tcap _ (by simp [Act.eval]) (own_drew2 HROW.out _) ⟨wr.heap.size, 0, none⟩ 1 1 (tC3.row.map (Value.int .i64)) (by simp [Act.eval]) rfl (lit_add (W := wr) rfl _ _) (one_i64 _) Hm1.out Hm2.out (by simp; omega) ?_
                          intro v' w5 hown hold hgr
                          obtain ⟨p0, p1, p2, p3, p4, p5, p6, p7⟩ := more_put HPT.out HKB.out HKN.out List.length_replicate HROW.out hown hold (grown_undrew hgr)
                          have hsC := s41 p0 hold
                          have hsD := s41 p3 p6
                          obtain ⟨va, vcap, hva⟩ := own_form hown
                          subst hva
                          refine hK.out _ _ (by (try dsimp only); first | with_reducible exact hsA | with_reducible exact hsB | with_reducible exact hsC | with_reducible exact hsD | with_reducible exact hHeld | go_keep) (fun hHeld => ?_)
                          clear hK K
                          try simp only [Act.put, List.setIfInBounds_toArray]
                          refine wpAnyH_take (i := 16) (oi := _) (v := ?_) rfl (by kernel_rfl) (by kernel_rfl) (by kernel_rfl) (fun _ _ _ h => h) (Or.inl ⟨by rfl, ?_⟩) (by assumption) ?_; rotate_left
                          · (intro w hSw; (try dsimp only at hSw); go_simp; try with_reducible rfl)
                          try simp only [Act.put]
                          refine wpAnyH_take (i := 17) (oi := _) (v := ?_) rfl (by kernel_rfl) (by kernel_rfl) (by kernel_rfl) (fun _ _ _ h => h) (Or.inl ⟨by rfl, ?_⟩) (by assumption) ?_; rotate_left
                          · (intro w hSw; (try dsimp only at hSw); go_simp; try with_reducible rfl)
                          try simp only [Act.put]
                          refine wpAnyH_ready (rs := [18]) (by kernel_rfl) (by simp) (AllReadyH.cons (o := _) rfl (fun K hK => ?_) AllReadyH.nil)
                          go_simp
                          refine hK.out _ _ (by (try dsimp only); first | with_reducible exact hsA | with_reducible exact hsB | with_reducible exact hsC | with_reducible exact hsD | with_reducible exact hHeld | go_keep) (fun hHeld => ?_)
                          clear hK K
                          try simp only [Act.put, List.setIfInBounds_toArray, List.set_cons_zero, List.set_cons_succ]
                          refine wpAnyH_done (by kernel_rfl) ?_ _
                          have hrep : List.replicate (j + 1) tC3 ++ [tC3] = List.replicate (j + 1 + 1) tC3 := (List.replicate_succ' ..).symm
                          rw [hrep] at p5
                          have P5 := Lib.hid p5; have P4 := Lib.hid p4; have P3 := Lib.hid p3; have P7 := Lib.hid (HBW.out.trans (p7 wc.heap.size (by omega) (by omega)))
                          clear p0 p1 p2 p3 p4 p5 p6 p7 hsA hsB hsC hsD hHeld hown hold hgr hrep k0 t0 t1 t2
                          go_wp2_with fail
                          go_roundw
                          case rel => exact ⟨j + 1, _, by omega, by go_num, P5, P4, P3, P7⟩
                          case measure => simp [intOf]; omega
                        · go_simp
                          refine hK.out _ _ (by (try dsimp only); first | with_reducible exact hsA | with_reducible exact hsB | with_reducible exact hsC | with_reducible exact hsD | with_reducible exact hHeld | go_keep) (fun hHeld => ?_)
                          clear hK K
                          try simp only [Act.put, List.setIfInBounds_toArray, List.set_cons_zero, List.set_cons_succ]
                          refine wpAnyH_ready (rs := [6]) (by kernel_rfl) (by simp) (AllReadyH.cons (o := _) rfl (fun K hK => ?_) AllReadyH.nil)
                          go_simp
                          refine hK.out _ _ (by (try dsimp only); first | with_reducible exact hsA | with_reducible exact hsB | with_reducible exact hsC | with_reducible exact hsD | with_reducible exact hHeld | go_keep) (fun hHeld => ?_)
                          clear hK K
                          try simp only [Act.put, List.setIfInBounds_toArray, List.set_cons_zero, List.set_cons_succ]
                          refine wpAnyH_ready (rs := [15]) (by kernel_rfl) (by simp) (AllReadyH.cons (o := _) rfl (fun K hK => ?_) AllReadyH.nil)
                          refine step_append_keep rfl (.tmp 199) (.tmp 207) 26 rfl (wc.heap.size + 1) 30 iT _ 8 64 Try.underlying26 hiT hT0 hT1 hT2 rfl (by decide) tb (j + 1) tcap _ (by simp [Act.eval]) (own_drew2 HROW.out _) ⟨wr.heap.size, 0, none⟩ 1 1 (tC3.row.map (Value.int .i64)) (by simp [Act.eval]) rfl (lit_add (W := wr) rfl _ _) (one_i64 _) Hm1.out Hm2.out (by simp; omega) ?_
                          intro v' w5 hown hold hgr
                          obtain ⟨p0, p1, p2, p3, p4, p5, p6, p7⟩ := more_put HPT.out HKB.out HKN.out List.length_replicate HROW.out hown hold (grown_undrew hgr)
                          have hsC := s41 p0 hold
                          have hsD := s41 p3 p6
                          obtain ⟨va, vcap, hva⟩ := own_form hown
                          subst hva
                          refine hK.out _ _ (by (try dsimp only); first | with_reducible exact hsA | with_reducible exact hsB | with_reducible exact hsC | with_reducible exact hsD | with_reducible exact hHeld | go_keep) (fun hHeld => ?_)
                          clear hK K
                          try simp only [Act.put, List.setIfInBounds_toArray]
                          refine wpAnyH_take (i := 16) (oi := _) (v := ?_) rfl (by kernel_rfl) (by kernel_rfl) (by kernel_rfl) (fun _ _ _ h => h) (Or.inl ⟨by rfl, ?_⟩) (by assumption) ?_; rotate_left
                          · (intro w hSw; (try dsimp only at hSw); go_simp; try with_reducible rfl)
                          try simp only [Act.put]
                          refine wpAnyH_take (i := 17) (oi := _) (v := ?_) rfl (by kernel_rfl) (by kernel_rfl) (by kernel_rfl) (fun _ _ _ h => h) (Or.inl ⟨by rfl, ?_⟩) (by assumption) ?_; rotate_left
                          · (intro w hSw; (try dsimp only at hSw); go_simp; try with_reducible rfl)
                          try simp only [Act.put]
                          refine wpAnyH_ready (rs := [18]) (by kernel_rfl) (by simp) (AllReadyH.cons (o := _) rfl (fun K hK => ?_) AllReadyH.nil)
                          go_simp
                          refine hK.out _ _ (by (try dsimp only); first | with_reducible exact hsA | with_reducible exact hsB | with_reducible exact hsC | with_reducible exact hsD | with_reducible exact hHeld | go_keep) (fun hHeld => ?_)
                          clear hK K
                          try simp only [Act.put, List.setIfInBounds_toArray, List.set_cons_zero, List.set_cons_succ]
                          refine wpAnyH_done (by kernel_rfl) ?_ _
                          have hrep : List.replicate (j + 1) tC3 ++ [tC3] = List.replicate (j + 1 + 1) tC3 := (List.replicate_succ' ..).symm
                          rw [hrep] at p5
                          have P5 := Lib.hid p5; have P4 := Lib.hid p4; have P3 := Lib.hid p3; have P7 := Lib.hid (HBW.out.trans (p7 wc.heap.size (by omega) (by omega)))
                          clear p0 p1 p2 p3 p4 p5 p6 p7 hsA hsB hsC hsD hHeld hown hold hgr hrep k0 t0 t1 t2
                          go_wp2_with fail
                          go_roundw
                          case rel => exact ⟨j + 1, _, by omega, by go_num, P5, P4, P3, P7⟩
                          case measure => simp [intOf]; omega
                    · obtain rfl : j = 4 := by omega
                      have hd2 : decide (((4 : Nat) : Int) < 4) = false := by decide
                      have HCT := Lib.hid (cf_tasks HPT.out HTW.out)
                      have HM7 := Lib.hid (blk HM6.out HBW.out); have HF7 := Lib.hid (blk HF6.out HBW.out)
                      have HCM := Lib.hid (CF.below (v := .agg #[(.slice (some ⟨gs, 0, none⟩) 4 scap), (.slice va 9 vcap)]) (c := cfM) (B := 0) ⟨_, _, rfl, HPM.out.ps.mono (Nat.zero_le _), OS.mono HN6.out.os (Nat.zero_le _)⟩ HBW.out)
                      have HCF := Lib.hid (CF.below (v := .agg #[(.slice fa 5 fcap), (.slice (some ⟨go, 0, none⟩) 8 ocap)]) (c := cfF) (B := 0) ⟨_, _, rfl, HPF.out.ps.mono (Nat.zero_le _), OS.mono HO6.out.os (Nat.zero_le _)⟩ HBW.out)
                      have HW7 := Lib.hid (HW6.out.trans (HBW.out.mono HW6.out.size))
                      clear HM6 HF6 HPM HPF HO6 HN6 HW6 HBW HPT HTW
                      go_wp2_with fail
                      try rw [show ((4 : Nat) : Int) = 4 from rfl]
                      have HOD := Lib.hid (odd_lit wr)
                      unfold W11 at HOD
                      generalize (((((((((((wr.alloc (.cells #[.int .u8 0] 5)).alloc (.cells #[.int .u8 0, .int .u8 0] 5)).alloc (.cells #[.int .u8 1] 5)).alloc (.cells #[.int .u8 1, .int .u8 10, .int .u8 4, .int .u8 5] 5)).alloc (.cells #[.int .u8 1, .int .u8 10, .int .u8 4, .int .u8 0, .int .u8 9] 5)).alloc (.cells #[.int .u8 1, .int .u8 10, .int .u8 4, .int .u8 0, .int .u8 0] 5)).alloc (.cells #[.int .u8 1, .int .u8 0, .int .u8 4, .int .u8 0, .int .u8 0] 5)).alloc (.cells #[.int .u8 255] 5)).alloc (.cells #[.int .u8 255, .int .u8 0, .int .u8 0, .int .u8 0, .int .u8 0, .int .u8 0, .int .u8 0, .int .u8 0, .int .u8 0] 5)).alloc (.cells #[.int .u8 1, .int .u8 255, .int .u8 0, .int .u8 0, .int .u8 0, .int .u8 0, .int .u8 0, .int .u8 0, .int .u8 0, .int .u8 1, .int .u8 4, .int .u8 0, .int .u8 0] 5)).alloc (.cells #[.slice none 0 0, .slice (some ⟨wr.heap.size, 0, none⟩) 1 1, .slice (some ⟨wr.heap.size + 1, 0, none⟩) 2 2, .slice (some ⟨wr.heap.size + 1 + 1, 0, none⟩) 1 1, .slice (some ⟨wr.heap.size + 1 + 1 + 1, 0, none⟩) 4 4, .slice (some ⟨wr.heap.size + 1 + 1 + 1 + 1, 0, none⟩) 5 5, .slice (some ⟨wr.heap.size + 1 + 1 + 1 + 1 + 1, 0, none⟩) 5 5, .slice (some ⟨wr.heap.size + 1 + 1 + 1 + 1 + 1 + 1, 0, none⟩) 5 5, .slice (some ⟨wr.heap.size + 1 + 1 + 1 + 1 + 1 + 1 + 1, 0, none⟩) 1 1, .slice (some ⟨wr.heap.size + 1 + 1 + 1 + 1 + 1 + 1 + 1 + 1, 0, none⟩) 9 9, .slice (some ⟨wr.heap.size + 1 + 1 + 1 + 1 + 1 + 1 + 1 + 1 + 1, 0, none⟩) 13 13] 40)) = WD at HOD ⊢
                      have HALL : Hid (∀ w', Below WD.heap.size WD w' → (w'.heap[gm]? = some (.cells #[(.slice (some ⟨gs, 0, none⟩) 4 scap), (.slice va 9 vcap)] 25 (0, 0)) ∧ w'.heap[gf]? = some (.cells #[(.slice fa 5 fcap), (.slice (some ⟨go, 0, none⟩) 8 ocap)] 25 (0, 0)) ∧ w'.heap[gk]? = some (.cells #[(.slice (some ⟨wc.heap.size + 2, 0, none⟩) 1 1), .slice none 0 0] 25 (0, 0))) ∧ CF w' 0 (.agg #[(.slice (some ⟨gs, 0, none⟩) 4 scap), (.slice va 9 vcap)]) cfM ∧ CF w' 0 (.agg #[(.slice fa 5 fcap), (.slice (some ⟨go, 0, none⟩) 8 ocap)]) cfF ∧ CF w' 0 (.agg #[(.slice (some ⟨wc.heap.size + 2, 0, none⟩) 1 1), .slice none 0 0]) cfT) := fun w' b =>
                        ⟨⟨blk (blk HM7.out HOD.out.2) b, blk (blk HF7.out HOD.out.2) b, blk (blk HKB.out HOD.out.2) b⟩, (HCM.out.below HOD.out.2).below b, (HCF.out.below HOD.out.2).below b, (HCT.out.below HOD.out.2).below b⟩
                      have HW8 := Lib.hid (HW7.out.trans (HOD.out.2.mono HW7.out.size))
                      have HOD1 := Lib.hid HOD.out.1
                      clear HCT HM7 HF7 HCM HCF HW7 HKB HOD
                      obtain ⟨s10, hs10⟩ : ∃ s, s = wr.heap.size + 1 + 1 + 1 + 1 + 1 + 1 + 1 + 1 + 1 + 1 := ⟨_, rfl⟩
                      rw [← hs10] at HOD1 ⊢
                      clear hs10
                      go_loopw [17] (fun i wr => ∃ j : Nat, j ≤ 11 ∧ i = .int .i64 j ∧ Hid (Below WD.heap.size WD wr)) (fun i _ => 11 - (intOf i).toNat)
                      case atStart => exact ⟨0, by omega, rfl, Below.refl _ _⟩
                      case round =>
                        obtain ⟨j, hj, rfl, HB⟩ := hrel
                        by_cases hlj : j < 11
                        · obtain ⟨v, hv, hbs, hby, hln⟩ := HOD1.out j hlj
                          have HBS := Lib.hid (hbs.below HB.out)
                          have e0 : wr.cell? ⟨s10, j, none⟩ = some v := (HB.out.cell (lt_of_cell hv)).trans hv
                          have HBY := Lib.hid hby; have HLN := Lib.hid hln
                          have hj0 : (0 : Int) ≤ j := by omega
                          have hj11 : (j : Int) < 11 := by omega
                          have hjd : decide ((j : Int) < 11) = true := by simpa using hj11
                          have HV := Lib.hid hv
                          clear hv hbs hby hln
                          go_wp2_with fail
                          refine (parses_law HBS.out HBY.out HLN.out).mono ?_
                          rintro e w7 ⟨rfl, hb7⟩
                          have HB7 := Lib.hid (chn HB.out hb7)
                          have HBS7 := Lib.hid (HBS.out.below hb7)
                          have e1 : w7.cell? ⟨s10, j, none⟩ = some v := (HB7.out.cell (lt_of_cell HV.out)).trans HV.out
                          clear hb7 e0
                          go_wp2_with fail
                          refine (again_law HBS7.out HBY.out HLN.out).mono ?_
                          rintro e w8 ⟨rfl, hb8⟩
                          have HB8 := Lib.hid (chn HB7.out hb8)
                          clear hb8 e1
                          go_wp2_with fail
                          go_roundw
                          case rel => exact ⟨j + 1, by omega, by go_num, HB8⟩
                          case measure => simp [intOf]; omega
                        · obtain rfl : j = 11 := by omega
                          have hjd : decide (((11 : Nat) : Int) < 11) = false := by decide
                          clear HOD1
                          go_wp2_with fail
                          refine (works_any _).mono ?_
                          rintro e x1 ⟨rfl, hb⟩
                          have HB1 := Lib.hid (chn HB.out hb)
                          clear hb HB
                          obtain ⟨a0, a1⟩ := pz2 (HALL.out _ HB1.out).1.1
                          go_wp2_with fail
                          refine (bytes_law (HALL.out _ HB1.out).2.1 szM).mono ?_
                          rintro e x2 ⟨rfl, hb⟩
                          have HB2 := Lib.hid (chn HB1.out hb)
                          clear hb HB1 a0 a1
                          obtain ⟨a0, a1⟩ := pz2 (HALL.out _ HB2.out).1.2.1
                          go_wp2_with fail
                          refine (bytes_law (HALL.out _ HB2.out).2.2.1 szF).mono ?_
                          rintro e x3 ⟨rfl, hb⟩
                          have HB3 := Lib.hid (chn HB2.out hb)
                          clear hb HB2 a0 a1
                          obtain ⟨a0, a1⟩ := pz2 (HALL.out _ HB3.out).1.2.2
                          go_wp2_with fail
                          refine (bytes_law (HALL.out _ HB3.out).2.2.2 szT).mono ?_
                          rintro e x4 ⟨rfl, hb⟩
                          have HB4 := Lib.hid (chn HB3.out hb)
                          clear hb HB3 a0 a1
                          obtain ⟨a0, a1⟩ := pz2 (HALL.out _ HB4.out).1.1
                          go_wp2_with fail
                          refine (check_fit ckM (HALL.out _ HB4.out).2.1).mono ?_
                          rintro e x5 ⟨rfl, hb⟩
                          have HB5 := Lib.hid (chn HB4.out hb)
                          clear hb HB4 a0 a1
                          obtain ⟨a0, a1⟩ := pz2 (HALL.out _ HB5.out).1.2.1
                          go_wp2_with fail
                          refine (check_fit ckF (HALL.out _ HB5.out).2.2.1).mono ?_
                          rintro e x6 ⟨rfl, hb⟩
                          have HB6 := Lib.hid (chn HB5.out hb)
                          clear hb HB5 a0 a1
                          obtain ⟨a0, a1⟩ := pz2 (HALL.out _ HB6.out).1.2.2
                          go_wp2_with fail
                          refine (check_fit ckT (HALL.out _ HB6.out).2.2.2).mono ?_
                          rintro e x7 ⟨rfl, hb⟩
                          have HB7 := Lib.hid (chn HB6.out hb)
                          clear hb HB6 a0 a1 HALL
                          go_wp2_with fail
                          go_ret
                          exact ⟨rfl, HW8.out.trans (HB7.out.mono HW8.out.size)⟩
end Go.Proofs.Ythbhkcofhhkcoaa
