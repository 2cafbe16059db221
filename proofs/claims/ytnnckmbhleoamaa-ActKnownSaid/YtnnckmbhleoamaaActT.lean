/- ActThrough. -/
import Derived.Test.YtnnckmbhleoamaaActM
import Derived.Test.YtnnckmbhleoamaaActS
namespace Go.Proofs.Ytnnckmbhleoamaa
open Go.RowKit Ac
set_option linter.unusedVariables false

set_option maxRecDepth 100000 in
set_option maxHeartbeats 8000000 in
theorem through_law {w : World} {u : Value} {l0 : List Ak} (hu : AS w u l0) : Calls Try.prog 5 #[u] w (TrueB w) := by
  obtain ⟨a, cap, rfl, h1, h2⟩ := hu.slice
  have HU := Lib.hid hu
  generalize l0.length = n0 at *
  clear hu h1 h2
  have s1 := Try.eqGuardType33
  have s2 := Try.stoodInHeld33
  go_enter Try.func5, Try.ntmps5
  go_wp2_with fail
  refine (works_any _).mono ?_
  rintro e w1 ⟨rfl, hb1⟩
  have HB1 := Lib.hid hb1
  clear hb1
  go_wp2_with fail
  refine (made_any (HU.out.below HB1.out)).mono ?_
  rintro e w2 ⟨la, lc, l, rfl, hna, hg, hb2⟩
  have HB2 := Lib.hid (chn HB1.out hb2)
  have HG := Lib.hid hg
  have HA2 := Lib.hid hna.as
  have HLT := Lib.hid (fun k hk => (hna.lt k hk).2)
  obtain ⟨m, hm⟩ : ∃ m, m = l.length := ⟨_, rfl⟩
  have HM := Lib.hid hm
  have hm32 : m ≤ 32 := by rw [hm]; exact hg.len
  rw [← hm] at HA2 HLT ⊢
  clear hna hg hb2 hm HU HB1
  go_wp2_with fail
  refine (po_new (B := w.heap.size) (W := w) HB2.out (Nat.le_refl _) HA2.out HG.out).mono ?_
  rintro e w3 ⟨rb, g, rfl, hp, hr1, hr2, hb3⟩
  have HT := Lib.hid (show TS w.heap.size w w3 rb g l (.slice la m lc) l from ⟨hp, HA2.out.below hb3, fun k hk => by have := HLT.out k hk; omega⟩)
  clear hp hr1 hr2 hb3 HA2 HLT HB2
  go_wp2_with fail
  go_loopw [7, 8] (fun t i wr => ∃ k : Nat, k ≤ m ∧ i = .int .i64 k ∧ ∃ q : Int, t = .int .i64 q ∧ 0 ≤ q ∧ q ≤ 64 * k ∧ Hid (q = left (l.take k)) ∧ Hid (TS w.heap.size w wr rb g l (.slice la m lc) l)) (fun _ i _ => m - (intOf i).toNat)
  case atStart => exact ⟨0, Nat.zero_le _, rfl, 0, rfl, by omega, by omega, rfl, HT.out⟩
  case round =>
    clear HT
    obtain ⟨k, hk, rfl, q, rfl, hq0, hq1, HQ, HT⟩ := hrel
    by_cases hlt : k < m
    · obtain ⟨b, off, rfl, d0, d1, d2⟩ := HT.out.a.at hlt
      have hkl : k < l.length := by rw [← HM.out]; exact hlt
      have HL := Lib.hid (left_take l k hkl)
      have hmy := may_at HG.out.all hkl
      have hbd := one_bd hmy
      have HCH : Hid (∀ W, Calls Try.prog 24 #[.agg #[.int .i64 (l.getD k o0).k, .int .i64 (l.getD k o0).n, .string (l.getD k o0).s]] W (VB (.int .i64 0) W)) := fun W => by have h := check_any (l.getD k o0) W; rw [chk_yes hmy] at h; exact h
      have HO : Hid (one (l.getD k o0) = if (l.getD k o0).k = 1 then (l.getD k o0).n else 0) := rfl
      generalize one (l.getD k o0) = z at *
      generalize (l.getD k o0).k = yk at *
      generalize (l.getD k o0).n = yn at *
      generalize (l.getD k o0).s = ys at *
      clear hkl hmy
      by_cases hk1 : yk = 1
      · subst hk1
        have hz : z = yn := by rw [HO.out]; rfl
        subst hz
        go_wp2_with fail
        refine (HCH.out _).mono ?_
        rintro e w4 ⟨rfl, hb4⟩
        have HT4 := Lib.hid (HT.out.below hb4)
        have e0 := (hb4.cell (lt_of_cell d0)).trans d0
        have e1 := (hb4.cell (lt_of_cell d1)).trans d1
        clear hb4 HT d0 d1 d2 HCH
        go_wp2_with fail
        go_roundw
        case rel => exact ⟨k + 1, by omega, by go_num, q + z, rfl, by omega, by omega, Lib.hid (by rw [HL.out, ← HQ.out]), HT4.out⟩
        case measure => simp [intOf]; omega
      · have hz : z = 0 := by rw [HO.out, if_neg hk1]
        subst hz
        have hd : (yk == 1) = false := by simpa using hk1
        clear hk1
        go_wp2_with fail
        refine (HCH.out _).mono ?_
        rintro e w4 ⟨rfl, hb4⟩
        have HT4 := Lib.hid (HT.out.below hb4)
        have e0 := (hb4.cell (lt_of_cell d0)).trans d0
        clear hb4 HT d0 d1 d2 HCH
        go_wp2_with fail
        go_roundw
        case rel => exact ⟨k + 1, by omega, by go_num, q, rfl, by omega, by omega, Lib.hid (by rw [HL.out, ← HQ.out, Int.add_zero]), HT4.out⟩
        case measure => simp [intOf]; omega
    · obtain rfl : k = m := by omega
      have HE := Lib.hid (show q = left l by rw [HQ.out, HM.out, List.take_length])
      clear HQ hq1
      go_wp2_with fail
      go_loopw [6, 7] (fun i t wr => ∃ j : Nat, j ≤ k ∧ i = .int .i64 j ∧ ∃ q : Int, t = .int .i64 q ∧ Hid (q = left (l.drop j)) ∧ Hid (TS w.heap.size w wr rb g (l.drop j) (.slice la k lc) l)) (fun i _ _ => k - (intOf i).toNat)
      case atStart => exact ⟨0, Nat.zero_le _, rfl, q, rfl, HE.out, HT.out⟩
      case round =>
        clear HE HT hq0 hlt
        obtain ⟨j, hj, rfl, q, rfl, HQ, HT⟩ := hrel
        by_cases hjk : j < k
        · obtain ⟨b, off, rfl, d0, d1, d2⟩ := HT.out.a.at hjk
          have hjl : j < l.length := by rw [← HM.out]; exact hjk
          have hdr := left_drop l j hjl
          have hgt := gd_drop HG.out (j + 1)
          have hmy := may_at HG.out.all hjl
          obtain ⟨x, hgx⟩ : ∃ x, l.getD j o0 = x := ⟨_, rfl⟩
          rw [hgx] at d0 d1 d2 hdr hmy
          obtain ⟨xk, xn, xs⟩ := x
          have HGX := Lib.hid hgx
          clear hgx
          simp only at d0 d1 d2
          rw [hdr] at HQ HT
          have HDR := Lib.hid hdr
          generalize ht : l.drop (j + 1) = t at *
          have HTL := Lib.hid ht
          have hts := left_small hgt
          have HGT := Lib.hid hgt
          clear hdr ht hjl hgt
          by_cases hk1 : xk = 1
          · subst hk1
            obtain ⟨hn1, hn2⟩ := may_run hmy rfl
            simp only at hn1 hn2
            have HQ2 := Lib.hid (show q = xn + left t by rw [HQ.out, left_run])
            obtain ⟨lt, hlt⟩ : ∃ lt, lt = left t := ⟨_, rfl⟩
            have HLT := Lib.hid hlt
            rw [← hlt] at HQ2 hts
            have hq : q = xn + lt := HQ2.out
            have HT0 : Hid (TS w.heap.size w wr rb g (cur xn xs t 0) (.slice (some ⟨b, off, none⟩) k lc) l) := by
              have h := HT.out
              unfold Hid
              rw [cur_go (by omega), Int.sub_zero]
              exact h
            have HMY := Lib.hid hmy
            have hqq : 0 ≤ q ∧ q ≤ 4096 := by omega
            have HQ3 := Lib.hid hq
            clear hlt hmy HQ HQ2 HT hq
            go_wp2_with fail
            clear d0 d1 d2
            go_loopw [7, 10] (fun tv i wi => ∃ p : Nat, (p : Int) ≤ xn ∧ i = .int .i64 p ∧ ∃ q : Int, tv = .int .i64 q ∧ 0 ≤ q ∧ q ≤ 4096 ∧ Hid (q = xn - p + lt) ∧ Hid (TS w.heap.size w wi rb g (cur xn xs t p) (.slice (some ⟨b, off, none⟩) k lc) l)) (fun _ i _ => xn.toNat - (intOf i).toNat)
            case atStart => exact ⟨0, by omega, rfl, q, rfl, hqq.1, hqq.2, Lib.hid (by have := HQ3.out; omega), HT0.out⟩
            case round =>
              clear HT0 hqq HQ3
              obtain ⟨p, hp, rfl, q2, rfl, hq0, hq1, HQ, HT⟩ := hrel
              by_cases hpn : (p : Int) < xn
              · obtain ⟨z, hz⟩ : ∃ z, xn - (p : Int) = z := ⟨_, rfl⟩
                have hz1 : 1 ≤ z := by omega
                have hz2 : z ≤ 64 := by omega
                have HC := Lib.hid (show ranL (⟨1, z, xs⟩ :: t) = cur xn xs t (p + 1) by rw [← hz]; exact ran_cur hpn)
                have HL := Lib.hid (show left (⟨1, z, xs⟩ :: t) = q2 by rw [left_run, HQ.out, hz, HLT.out])
                have HT1 : Hid (TS w.heap.size w wr rb g (⟨1, z, xs⟩ :: t) (.slice (some ⟨b, off, none⟩) k lc) l) := by
                  have h := HT.out
                  rw [cur_go hpn, hz] at h
                  exact h
                have HQ2 := Lib.hid (show q2 - 1 = xn - (p + 1 : Nat) + lt by rw [HQ.out]; omega)
                have hq2 : 1 ≤ q2 := by have h1 := HQ.out; have h2 := hts.1; omega
                clear HT HQ
                go_wp2_with fail
                refine (ts_next HT1.out (k := 1) (n := z) (s := xs) (b := true) rfl rfl).mono ?_
                rintro e y1 ⟨rfl, ht, _⟩
                have HX := Lib.hid (AB.new y1 1 z xs)
                have HT2 := Lib.hid (ht.below (below_al y1 (.cells #[.int .i64 1, .int .i64 z, .string xs] 33)))
                obtain ⟨b2, off2, e, d0, d1, d2⟩ := HT2.out.a.at hjk
                injection e with e
                injection e with e1 e2
                subst e1; subst e2
                rw [HGX.out] at d0 d1 d2
                have HY := Lib.hid (AB.new (y1.alloc (.cells #[.int .i64 1, .int .i64 z, .string xs] 33)) 1 z xs)
                have HX2 := Lib.hid (HX.out.below (below_al _ (.cells #[.int .i64 1, .int .i64 z, .string xs] 33)))
                have HT3 := Lib.hid (HT2.out.below (below_al _ (.cells #[.int .i64 1, .int .i64 z, .string xs] 33)))
                obtain ⟨v0, v1, v2⟩ := HX2.out.cells
                obtain ⟨z0, z1, z2⟩ := HY.out.cells
                have hsz : (y1.alloc (.cells #[.int .i64 1, .int .i64 z, .string xs] 33)).heap.size = y1.heap.size + 1 := by simp
                rw [hsz] at HY z0 z1 z2
                clear ht HT1 HT2 HX HX2 hsz
                go_wp2_with fail
                generalize (y1.alloc (.cells #[.int .i64 1, .int .i64 z, .string xs] 33)).alloc (.cells #[.int .i64 1, .int .i64 z, .string xs] 33) = y2 at *
                generalize y1.heap.size = vb at *
                clear d0 d1 d2 v0 v1 v2 z0 z1 z2
                refine (po_done HT3.out.p (b := false) rfl).mono ?_
                rintro e y3 ⟨rfl, rfl⟩
                go_wp2_with fail
                refine (ts_left HT3.out HL.out).mono ?_
                rintro e y3 ⟨rfl, ht, hb⟩
                have HT4 := Lib.hid ht
                obtain ⟨z0, z1, z2⟩ := (HY.out.below hb).cells
                clear ht hb HT3 HY
                go_wp2_with fail
                clear z0 z1 z2
                refine (ts_did HT4.out (x := 250) (c' := ⟨1, z, xs⟩ :: t) rfl rfl).mono ?_
                rintro e y4 ⟨rfl, ht⟩
                have HT5 := Lib.hid ht
                clear ht HT4
                go_wp2_with fail
                refine (ts_ran HT5.out (x := 0) rfl HC.out).mono ?_
                rintro e y5 ⟨rfl, ht⟩
                have HT6 := Lib.hid ht
                clear ht HT5
                go_wp2_with fail
                go_roundw
                case rel => exact ⟨p + 1, by omega, by go_num, q2 - 1, rfl, by omega, by omega, HQ2, HT6.out⟩
                case measure => simp [intOf]; omega
              · obtain rfl : (p : Int) = xn := by omega
                have HT1 : Hid (TS w.heap.size w wr rb g t (.slice (some ⟨b, off, none⟩) k lc) l) := by
                  have h := HT.out
                  rw [cur_end] at h
                  exact h
                have HQ2 := Lib.hid (show q2 = left t by rw [HQ.out, HLT.out]; omega)
                clear HT HQ
                go_wp2_with fail
                go_roundw
                case rel => exact ⟨j + 1, by omega, by go_num, q2, rfl, Lib.hid (by rw [HTL.out]; exact HQ2.out), Lib.hid (by rw [HTL.out]; exact HT1.out)⟩
                case measure => simp [intOf]; omega
          · have hkb : (xk == 1) = false := by simpa using hk1
            have hkn : (xk != 1) = true := by simpa using hk1
            have HQ2 := Lib.hid (show q = left t by rw [HQ.out, left_other hk1])
            have HD := Lib.hid (show didE (⟨xk, xn, xs⟩ :: t) = 0 ∧ didL (⟨xk, xn, xs⟩ :: t) = t ∧ ranE (⟨xk, xn, xs⟩ :: t) = 250 ∧ ranL (⟨xk, xn, xs⟩ :: t) = ⟨xk, xn, xs⟩ :: t ∧ left (⟨xk, xn, xs⟩ :: t) = q from ⟨didE_no hk1, didL_no hk1, ranE_no hk1, ranL_no hk1, HQ.out.symm⟩)
            clear hk1 HQ hmy
            go_wp2_with fail
            clear d0 d1 d2
            go_loopw [7, 10] (fun tv i wi => tv = .int .i64 q ∧ ∃ p : Nat, p ≤ 1 ∧ i = .int .i64 p ∧ Hid (TS w.heap.size w wi rb g (if p = 0 then ⟨xk, xn, xs⟩ :: t else t) (.slice (some ⟨b, off, none⟩) k lc) l)) (fun _ i _ => 1 - (intOf i).toNat)
            case atStart => exact ⟨rfl, 0, by omega, rfl, HT.out⟩
            case round =>
              clear HT
              obtain ⟨rfl, p, hp, rfl, HT⟩ := hrel
              by_cases hp0 : p < 1
              · have HT1 : Hid (TS w.heap.size w wr rb g (⟨xk, xn, xs⟩ :: t) (.slice (some ⟨b, off, none⟩) k lc) l) := by
                  have h := HT.out
                  rw [if_pos (by omega)] at h
                  exact h
                have hpd : decide ((p : Int) < 1) = true := by simp; omega
                clear HT
                go_wp2_with fail
                refine (ts_next HT1.out (k := xk) (n := xn) (s := xs) (b := true) rfl rfl).mono ?_
                rintro e y1 ⟨rfl, ht, _⟩
                have HX := Lib.hid (AB.new y1 xk xn xs)
                have HT2 := Lib.hid (ht.below (below_al y1 (.cells #[.int .i64 xk, .int .i64 xn, .string xs] 33)))
                obtain ⟨b2, off2, e, d0, d1, d2⟩ := HT2.out.a.at hjk
                injection e with e
                injection e with e1 e2
                subst e1; subst e2
                rw [HGX.out] at d0 d1 d2
                have HY := Lib.hid (AB.new (y1.alloc (.cells #[.int .i64 xk, .int .i64 xn, .string xs] 33)) xk xn xs)
                have HX2 := Lib.hid (HX.out.below (below_al _ (.cells #[.int .i64 xk, .int .i64 xn, .string xs] 33)))
                have HT3 := Lib.hid (HT2.out.below (below_al _ (.cells #[.int .i64 xk, .int .i64 xn, .string xs] 33)))
                obtain ⟨v0, v1, v2⟩ := HX2.out.cells
                obtain ⟨z0, z1, z2⟩ := HY.out.cells
                have hsz : (y1.alloc (.cells #[.int .i64 xk, .int .i64 xn, .string xs] 33)).heap.size = y1.heap.size + 1 := by simp
                rw [hsz] at HY z0 z1 z2
                clear ht HT1 HT2 HX HX2 hsz
                go_wp2_with fail
                generalize (y1.alloc (.cells #[.int .i64 xk, .int .i64 xn, .string xs] 33)).alloc (.cells #[.int .i64 xk, .int .i64 xn, .string xs] 33) = y2 at *
                generalize y1.heap.size = vb at *
                clear d0 d1 d2 v0 v1 v2 z0 z1 z2
                refine (po_done HT3.out.p (b := false) rfl).mono ?_
                rintro e y3 ⟨rfl, rfl⟩
                go_wp2_with fail
                refine (ts_left HT3.out HD.out.2.2.2.2).mono ?_
                rintro e y3 ⟨rfl, ht, hb⟩
                have HT4 := Lib.hid ht
                obtain ⟨z0, z1, z2⟩ := (HY.out.below hb).cells
                clear ht hb HT3 HY
                go_wp2_with fail
                clear z0 z1 z2
                refine (ts_ran HT4.out HD.out.2.2.1 HD.out.2.2.2.1).mono ?_
                rintro e y4 ⟨rfl, ht⟩
                have HT5 := Lib.hid ht
                clear ht HT4
                go_wp2_with fail
                refine (ts_did HT5.out HD.out.1 HD.out.2.1).mono ?_
                rintro e y5 ⟨rfl, ht⟩
                have HT6 := Lib.hid ht
                clear ht HT5
                go_wp2_with fail
                go_roundw
                case rel => exact ⟨rfl, p + 1, by omega, by go_num, Lib.hid (by rw [if_neg (by omega)]; exact HT6.out)⟩
                case measure => simp [intOf]; omega
              · have HT1 : Hid (TS w.heap.size w wr rb g t (.slice (some ⟨b, off, none⟩) k lc) l) := by
                  have h := HT.out
                  rw [if_neg (by omega)] at h
                  exact h
                have hpd : decide ((p : Int) < 1) = false := by simp; omega
                clear HT
                go_wp2_with fail
                go_roundw
                case rel => exact ⟨j + 1, by omega, by go_num, q, rfl, Lib.hid (by rw [HTL.out]; exact HQ2.out), Lib.hid (by rw [HTL.out]; exact HT1.out)⟩
                case measure => simp [intOf]; omega
        · obtain rfl : j = k := by omega
          have HT1 : Hid (TS w.heap.size w wr rb g [] (.slice la j lc) l) := by
            have h := HT.out
            rw [HM.out, List.drop_length, ← HM.out] at h
            exact h
          clear HT HQ
          go_wp2_with fail
          refine (po_done HT1.out.p (b := true) rfl).mono ?_
          rintro e y3 ⟨rfl, rfl⟩
          go_wp2_with fail
          refine (ts_left HT1.out (x := 0) rfl).mono ?_
          rintro e y3 ⟨rfl, ht, hb⟩
          have HT4 := Lib.hid ht
          clear ht hb HT1
          go_wp2_with fail
          refine (ts_ran HT4.out (x := 250) (c' := []) rfl rfl).mono ?_
          rintro e y4 ⟨rfl, ht⟩
          have HT5 := Lib.hid ht
          clear ht HT4
          go_wp2_with fail
          refine (ts_did HT5.out (x := 250) (c' := []) rfl rfl).mono ?_
          rintro e y5 ⟨rfl, ht⟩
          have HT6 := Lib.hid ht
          clear ht HT5
          go_wp2_with fail
          refine (rest_any HT6.out.p.r (by decide)).mono ?_
          rintro e y6 ⟨ra, rc, rfl, _, hb⟩
          have HBX := Lib.hid (HT6.out.p.bel.trans (hb.mono HT6.out.sz))
          clear hb HT6
          go_wp2_with fail
          go_ret
          exact ⟨rfl, HBX.out⟩
end Go.Proofs.Ytnnckmbhleoamaa
