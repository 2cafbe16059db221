/- StackCeiling. -/
import Derived.Test.YtmheggedlepdlaaStaS
namespace Go.Proofs.Ytmheggedlepdlaa
open Go.RowKit Lv Sk Go.Sort
set_option linter.unusedVariables false

theorem high_fit {w : World} {v x : Value} {rs : List Int} {n : Nat} {z : Nat → Nat → Int} {q : Int} (hq : hi (ceil n (dl z) (lo z)) rs rs.length = q) (h : TK w v n z) (hx : IS w x rs) (hnm : n ≤ 1000000) : Calls Try.prog 24 #[v, x] w (YI q w) := by
  subst hq; exact high_any h hx hnm
set_option maxRecDepth 100000 in
set_option maxHeartbeats 8000000 in
theorem ceils_any {w : World} {v u : Value} {nt n : Nat} {zt d : Nat → Nat → Int} (ht : TK w v nt zt) (hd : DS w u n d) : Calls Try.prog 5 #[v, u] w (TrueB w) := by
  obtain ⟨a, cap, rfl, hn1, hn2⟩ := hd.slice
  have hmx : n ≤ 9223372036854775807 := by unfold maxLen at hn2; omega
  have HD := Lib.hid hd
  have H0 := Lib.hid (four_any ht)
  clear ht hd
  go_enter Try.func5, Try.ntmps5
  go_wp2_with fail
  refine H0.out.mono ?_
  rintro e w1 ⟨tv, z, rfl, htk, hb1⟩
  have HT := Lib.hid htk
  have HB1 := Lib.hid hb1
  obtain ⟨ta, tcap, rfl, ht1, ht2⟩ := htk.slice
  clear htk hb1 H0
  go_wp2_with fail
  refine (ss_new HT.out (by decide)).mono ?_
  rintro e w2 ⟨sb, rfl, hs⟩
  have HS := Lib.hid hs
  clear hs
  go_wp2_with fail
  go_loopw [7] (fun i wr => ∃ (k : Nat) (l : List En), k ≤ n ∧ i = .int .i64 k ∧ Hid (SS w1.heap.size w1 wr sb 4 z l) ∧ Hid (Us 4 z l)) (fun i _ => n - (intOf i).toNat)
  case atStart => exact ⟨0, [], Nat.zero_le _, rfl, HS.out, Us.nil _ _⟩
  case round =>
    clear HS
    obtain ⟨k, l, hk, rfl, HS, HU⟩ := hrel
    by_cases hlt : k < n
    · by_cases h150 : k < 150
      · have HBr := Lib.hid (HB1.out.trans (HS.out.bel.mono HB1.out.size))
        obtain ⟨b, off, rfl, d0, d1, d2⟩ := (HD.out.below HBr.out).at hlt
        obtain ⟨t, ht, t0, t4⟩ : ∃ t, bring (d k 1) 4 = t ∧ 0 ≤ t ∧ t < 4 := ⟨_, rfl, bring_range _ (by decide)⟩
        obtain ⟨r, hr, r0, r8⟩ : ∃ r, bring (d k 2) 8 = r ∧ 0 ≤ r ∧ r < 8 := ⟨_, rfl, bring_range _ (by decide)⟩
        obtain ⟨q, hq, q0, q4⟩ : ∃ q, bring (d k 0) 4 = q ∧ 0 ≤ q ∧ q < 4 := ⟨_, rfl, bring_range _ (by decide)⟩
        have HQ0 := Lib.hid hq
        have HQ1 := Lib.hid ht
        have HQ2 := Lib.hid hr
        have hqc : q = 0 ∨ q = 1 ∨ q = 2 ∨ q = 3 := by omega
        have hk0 : (0 : Int) ≤ k := by omega
        have hkI : (k : Int) < (n : Int) := by omega
        have hk1 : decide ((k : Int) < 150) = true := by simp; omega
        have H4 : Hid (∀ t, (held l t).length ≤ 4) := by obtain ⟨_, _, h⟩ := HS.out; exact h.h4
        generalize d k 0 = y0 at *
        generalize d k 1 = y1 at *
        generalize d k 2 = y2 at *
        clear hq ht hr q0 q4
        go_wp2_with fail
        go_quiet ((go_at_call 13; exact Calls.quiet_of_same (bring_q _ _ (by omega) (by omega) _)))
        rw [HQ1.out, HQ2.out]
        rename_i nq _
        have hBy : Below wr.heap.size wr (wr.drewN nq) := below_drewN (Below.refl _ _) _
        have d0 := (hBy.cell (lt_of_cell d0)).trans d0
        have HSy := Lib.hid (HS.out.below hBy)
        clear d1 d2 HS HBr hBy
        generalize wr.drewN nq = wy at *
        go_wp2_with fail
        refine (bring_any y0 4 wy (by decide) (by decide)).mono ?_
        rintro e w3 ⟨rfl, rfl⟩
        rw [HQ0.out]
        clear d0 HQ0 HQ1 HQ2
        rcases hqc with rfl | rfl | rfl | rfl
        · go_wp2_with fail
          refine (ss_lock HSy.out t r rfl rfl).mono ?_
          rintro e w4 ⟨rfl, hs⟩
          have HU2 := Lib.hid (HU.out.lock t r)
          obtain ⟨l2, hl2⟩ : ∃ l2, l2 = lockL 4 (us 4 (lo z) r t) l t r := ⟨_, rfl⟩
          rw [← hl2] at hs HU2
          have HS4 := Lib.hid hs
          have HT4 := Lib.hid (HT.out.below HS4.out.bel)
          clear hs hl2 HSy HU
          go_wp2_with fail
          go_loopw [10, 11, 12] (fun o i _ wi => ∃ j : Nat, j ≤ 4 ∧ i = .int .i64 j ∧ Hid (NR wi w4.heap.size o (allN l2 j)) ∧ Hid (Below w4.heap.size w4 wi)) (fun _ i _ _ => 4 - (intOf i).toNat)
          case atStart => exact ⟨0, by omega, rfl, NR.nil _ _, Below.refl _ _⟩
          case round =>
            rename_i o _ _
            obtain ⟨j, hj, rfl, HO, HBi⟩ := hrel
            obtain ⟨oa, oc, rfl⟩ := HO.out.is_form
            have HSi := Lib.hid (HS4.out.below HBi.out)
            by_cases hj4 : j < 4
            · obtain ⟨xs, hxs⟩ : ∃ xs, held l2 (j : Int) = xs := ⟨_, rfl⟩
              have HX := Lib.hid hxs
              have HN : Hid (allN l2 (j + 1) = allN l2 j ++ xs) := by unfold Hid; rw [← hxs]; rfl
              have hle : Hid ((allN l2 j).length + xs.length ≤ 1000) := by
                unfold Hid
                obtain ⟨_, _, h⟩ := HS4.out
                have := all_len h.h4 j
                have := h.h4 (j : Int)
                rw [hxs] at this
                omega
              clear hxs
              go_wp2_with fail
              refine (ss_held HSi.out (j : Int) HX.out).mono ?_
              rintro e w5 ⟨rv, rfl, hr, hb5⟩
              have HR5 := Lib.hid hr.is
              obtain ⟨ra, rc, rfl⟩ := hr.is_form
              have HS5 := Lib.hid (HSi.out.below hb5)
              obtain ⟨v', w6, hrun, hn6, hb6⟩ := app_nums (NR.kept HO.out hb5) HR5.out (Nat.le_trans HBi.out.size hb5.size) hle.out 40
              obtain ⟨va, vc, hv⟩ := hn6.is_form
              obtain ⟨p, hp⟩ : ∃ p, p = (allN l2 j ++ xs).length := ⟨_, rfl⟩
              rw [← hp] at hv
              subst hv
              have HRUN := Lib.hid hrun
              have HB6 := Lib.hid ((HBi.out.trans (hb5.mono HBi.out.size)).trans hb6)
              have HS6 := Lib.hid (HS4.out.below HB6.out)
              have HN6 := Lib.hid hn6
              have HT6 := Lib.hid (HT4.out.below HB6.out)
              obtain ⟨m, hm⟩ : ∃ m, m = xs.length := ⟨_, rfl⟩
              have HM := Lib.hid hm
              rw [← hm] at HRUN ⊢
              clear hr hb5 hrun hn6 hb6 hp hm HR5 HS5 HSi HO hle
              cases m with
              | zero =>
                go_wp2_with (at_builtin; refine wpList_append_eq rfl _ _ 40 40 rfl _ _ _ _ rfl rfl HRUN.out ?_)
                go_roundw
                case rel => exact ⟨j + 1, by omega, by go_num, by rw [HN.out]; exact HN6.out, HB6.out⟩
                case measure => simp [intOf]; omega
              | succ m =>
                obtain ⟨C, hC⟩ : ∃ C, cls (ceil 4 (dl z) (lo z)) l2 l2.length = C := ⟨_, rfl⟩
                obtain ⟨L, hL⟩ : ∃ L, lev 4 (dl z) (j : Int) = L := ⟨_, rfl⟩
                have HC := Lib.hid hC
                have HL := Lib.hid (level_any HT6.out (by decide) (j : Int))
                rw [hL] at HL
                have hCL : decide (C < L) = false := by
                  rw [decide_eq_false_iff_not, ← hC, ← hL]
                  obtain ⟨x, hx⟩ := List.exists_mem_of_length_pos (show 0 < xs.length by have := HM.out; omega)
                  rw [← HX.out] at hx
                  have hm := held_mem.mp hx
                  have h1 := lev_ceil (HU2.out _ hm)
                  have h2 := cls_mem (c := ceil 4 (dl z) (lo z)) hm
                  simp only at h1 h2
                  omega
                clear hC hL
                go_wp2_with (at_builtin; refine wpList_append_eq rfl _ _ 40 40 rfl _ _ _ _ rfl rfl HRUN.out ?_)
                refine HL.out.mono ?_
                rintro e w7 ⟨rfl, hb7⟩
                have HB7 := Lib.hid hb7
                clear hb7 HL
                go_wp2_with fail
                refine (ss_cls (HS6.out.below HB7.out) HC.out).mono ?_
                rintro e w8 ⟨rfl, hb8⟩
                have HB8 := Lib.hid (chn HB7.out hb8)
                clear hb8 HC
                go_wp2_with fail
                go_roundw
                case rel => exact ⟨j + 1, by omega, by go_num, by rw [HN.out]; exact HN6.out.kept HB8.out, HB6.out.trans (HB8.out.mono HB6.out.size)⟩
                case measure => simp [intOf]; omega
            · obtain rfl : j = 4 := by omega
              have HOK : Hid (Ok 4 l2) := by obtain ⟨_, _, h⟩ := HSi.out; exact h.ok
              obtain ⟨C, hC⟩ : ∃ C, cls (ceil 4 (dl z) (lo z)) l2 l2.length = C := ⟨_, rfl⟩
              have HC := Lib.hid hC
              have hhi : hi (ceil 4 (dl z) (lo z)) (allN l2 4) (allN l2 4).length = C := by rw [← hC]; exact (cls_all HOK.out).symm
              have HTi := Lib.hid (HT4.out.below HBi.out)
              have HAP := Lib.hid (all_pos HOK.out)
              obtain ⟨m, hm⟩ : ∃ m, m = (allN l2 4).length := ⟨_, rfl⟩
              have hmx2 : m ≤ 9223372036854775807 := by
                obtain ⟨_, _, h⟩ := HSi.out
                have := all_len h.h4 4
                omega
              have HIS := Lib.hid HO.out.is
              rw [← hm] at HAP HIS ⊢
              have HHI := Lib.hid hhi
              clear hC hhi hm HO
              obtain ⟨T, hT⟩ : ∃ T, topT l2 = T := ⟨_, rfl⟩
              obtain ⟨B, hB⟩ : ∃ B, topB l2 = B := ⟨_, rfl⟩
              have HTP := Lib.hid hT
              have HBP := Lib.hid hB
              have hBm : decide (0 < m) = B := by rw [← HAP.out, ← hB]; rfl
              have HIS2 : ∀ W, Below wr.heap.size wr W → True := fun _ _ => trivial
              clear HIS2
              cases B with
              | false =>
                have hm0 : m = 0 := by have := of_decide_eq_false hBm; omega
                subst hm0
                clear hBm hB hT
                go_wp2_with fail
                refine (ss_top HSi.out HTP.out HBP.out).mono ?_
                rintro e w5 ⟨rfl, hb5⟩
                have HB5 := Lib.hid hb5
                clear hb5
                go_wp2_with fail
                refine (ss_cls (HSi.out.below HB5.out) HC.out).mono ?_
                rintro e w6 ⟨rfl, hb6⟩
                have HB6 := Lib.hid (chn HB5.out hb6)
                clear hb6
                go_wp2_with fail
                refine (high_fit HHI.out (HTi.out.below HB6.out) (HIS.out.below HB6.out) (by decide)).mono ?_
                rintro e w7 ⟨rfl, hb7⟩
                have HB7 := Lib.hid (chn HB6.out hb7)
                clear hb7
                go_wp2_with fail
                go_roundw
                case rel => exact ⟨k + 1, l2, by omega, by go_num, HSi.out.below HB7.out, HU2.out⟩
                case measure => simp [intOf]; omega
              | true =>
                have hm0 : 0 < m := of_decide_eq_true hBm
                have hm1 : decide (0 < (m : Int)) = true := by simp; omega
                have hm2 : decide (0 < m) = true := hBm
                have htl : 0 < (held l2 T).length := by
                  rw [← hT]
                  refine top_held ?_
                  have := HAP.out
                  rw [hBm] at this
                  exact of_decide_eq_true this
                obtain ⟨p, hp⟩ : ∃ p, (held l2 T).length = p + 1 := ⟨(held l2 T).length - 1, by omega⟩
                have hpz : ((p + 1 : Nat) : Int) ≠ 0 := by omega
                have hpz2 : (((p + 1 : Nat) : Int) == 0) = false := by simp; omega
                have hpz3 : decide (((p + 1 : Nat) : Int) = 0) = false := by simp; omega
                obtain ⟨p1, hp1⟩ : ∃ p1, p1 = p + 1 := ⟨_, rfl⟩
                rw [← hp1] at hp hpz hpz2 hpz3
                have HPP := Lib.hid hp
                clear hBm hB hT htl hp hp1
                go_wp2_with fail
                refine (ss_top HSi.out HTP.out HBP.out).mono ?_
                rintro e w5 ⟨rfl, hb5⟩
                have HB5 := Lib.hid hb5
                clear hb5
                go_wp2_with fail
                refine (ss_cls (HSi.out.below HB5.out) HC.out).mono ?_
                rintro e w6 ⟨rfl, hb6⟩
                have HB6 := Lib.hid (chn HB5.out hb6)
                clear hb6
                go_wp2_with fail
                refine (high_fit HHI.out (HTi.out.below HB6.out) (HIS.out.below HB6.out) (by decide)).mono ?_
                rintro e w7 ⟨rfl, hb7⟩
                have HB7 := Lib.hid (chn HB6.out hb7)
                clear hb7
                go_wp2_with fail
                refine (ss_held (HSi.out.below HB7.out) T rfl).mono ?_
                rintro e w8 ⟨rv, rfl, hr, hb8⟩
                obtain ⟨ra, rc, rfl⟩ := hr.is_form
                rw [HPP.out]
                have HB8 := Lib.hid (chn HB7.out hb8)
                clear hb8 hr
                go_wp2_with fail
                go_roundw
                case rel => exact ⟨k + 1, l2, by omega, by go_num, HSi.out.below HB8.out, HU2.out⟩
                case measure => simp [intOf]; omega
        · go_wp2_with fail
          refine (ss_lock HSy.out t r rfl rfl).mono ?_
          rintro e w4 ⟨rfl, hs⟩
          have HU2 := Lib.hid (HU.out.lock t r)
          obtain ⟨l2, hl2⟩ : ∃ l2, l2 = lockL 4 (us 4 (lo z) r t) l t r := ⟨_, rfl⟩
          rw [← hl2] at hs HU2
          have HS4 := Lib.hid hs
          have HT4 := Lib.hid (HT.out.below HS4.out.bel)
          clear hs hl2 HSy HU
          go_wp2_with fail
          go_loopw [10, 11, 12] (fun o i _ wi => ∃ j : Nat, j ≤ 4 ∧ i = .int .i64 j ∧ Hid (NR wi w4.heap.size o (allN l2 j)) ∧ Hid (Below w4.heap.size w4 wi)) (fun _ i _ _ => 4 - (intOf i).toNat)
          case atStart => exact ⟨0, by omega, rfl, NR.nil _ _, Below.refl _ _⟩
          case round =>
            rename_i o _ _
            obtain ⟨j, hj, rfl, HO, HBi⟩ := hrel
            obtain ⟨oa, oc, rfl⟩ := HO.out.is_form
            have HSi := Lib.hid (HS4.out.below HBi.out)
            by_cases hj4 : j < 4
            · obtain ⟨xs, hxs⟩ : ∃ xs, held l2 (j : Int) = xs := ⟨_, rfl⟩
              have HX := Lib.hid hxs
              have HN : Hid (allN l2 (j + 1) = allN l2 j ++ xs) := by unfold Hid; rw [← hxs]; rfl
              have hle : Hid ((allN l2 j).length + xs.length ≤ 1000) := by
                unfold Hid
                obtain ⟨_, _, h⟩ := HS4.out
                have := all_len h.h4 j
                have := h.h4 (j : Int)
                rw [hxs] at this
                omega
              clear hxs
              go_wp2_with fail
              refine (ss_held HSi.out (j : Int) HX.out).mono ?_
              rintro e w5 ⟨rv, rfl, hr, hb5⟩
              have HR5 := Lib.hid hr.is
              obtain ⟨ra, rc, rfl⟩ := hr.is_form
              have HS5 := Lib.hid (HSi.out.below hb5)
              obtain ⟨v', w6, hrun, hn6, hb6⟩ := app_nums (NR.kept HO.out hb5) HR5.out (Nat.le_trans HBi.out.size hb5.size) hle.out 40
              obtain ⟨va, vc, hv⟩ := hn6.is_form
              obtain ⟨p, hp⟩ : ∃ p, p = (allN l2 j ++ xs).length := ⟨_, rfl⟩
              rw [← hp] at hv
              subst hv
              have HRUN := Lib.hid hrun
              have HB6 := Lib.hid ((HBi.out.trans (hb5.mono HBi.out.size)).trans hb6)
              have HS6 := Lib.hid (HS4.out.below HB6.out)
              have HN6 := Lib.hid hn6
              have HT6 := Lib.hid (HT4.out.below HB6.out)
              obtain ⟨m, hm⟩ : ∃ m, m = xs.length := ⟨_, rfl⟩
              have HM := Lib.hid hm
              rw [← hm] at HRUN ⊢
              clear hr hb5 hrun hn6 hb6 hp hm HR5 HS5 HSi HO hle
              cases m with
              | zero =>
                go_wp2_with (at_builtin; refine wpList_append_eq rfl _ _ 40 40 rfl _ _ _ _ rfl rfl HRUN.out ?_)
                go_roundw
                case rel => exact ⟨j + 1, by omega, by go_num, by rw [HN.out]; exact HN6.out, HB6.out⟩
                case measure => simp [intOf]; omega
              | succ m =>
                obtain ⟨C, hC⟩ : ∃ C, cls (ceil 4 (dl z) (lo z)) l2 l2.length = C := ⟨_, rfl⟩
                obtain ⟨L, hL⟩ : ∃ L, lev 4 (dl z) (j : Int) = L := ⟨_, rfl⟩
                have HC := Lib.hid hC
                have HL := Lib.hid (level_any HT6.out (by decide) (j : Int))
                rw [hL] at HL
                have hCL : decide (C < L) = false := by
                  rw [decide_eq_false_iff_not, ← hC, ← hL]
                  obtain ⟨x, hx⟩ := List.exists_mem_of_length_pos (show 0 < xs.length by have := HM.out; omega)
                  rw [← HX.out] at hx
                  have hm := held_mem.mp hx
                  have h1 := lev_ceil (HU2.out _ hm)
                  have h2 := cls_mem (c := ceil 4 (dl z) (lo z)) hm
                  simp only at h1 h2
                  omega
                clear hC hL
                go_wp2_with (at_builtin; refine wpList_append_eq rfl _ _ 40 40 rfl _ _ _ _ rfl rfl HRUN.out ?_)
                refine HL.out.mono ?_
                rintro e w7 ⟨rfl, hb7⟩
                have HB7 := Lib.hid hb7
                clear hb7 HL
                go_wp2_with fail
                refine (ss_cls (HS6.out.below HB7.out) HC.out).mono ?_
                rintro e w8 ⟨rfl, hb8⟩
                have HB8 := Lib.hid (chn HB7.out hb8)
                clear hb8 HC
                go_wp2_with fail
                go_roundw
                case rel => exact ⟨j + 1, by omega, by go_num, by rw [HN.out]; exact HN6.out.kept HB8.out, HB6.out.trans (HB8.out.mono HB6.out.size)⟩
                case measure => simp [intOf]; omega
            · obtain rfl : j = 4 := by omega
              have HOK : Hid (Ok 4 l2) := by obtain ⟨_, _, h⟩ := HSi.out; exact h.ok
              obtain ⟨C, hC⟩ : ∃ C, cls (ceil 4 (dl z) (lo z)) l2 l2.length = C := ⟨_, rfl⟩
              have HC := Lib.hid hC
              have hhi : hi (ceil 4 (dl z) (lo z)) (allN l2 4) (allN l2 4).length = C := by rw [← hC]; exact (cls_all HOK.out).symm
              have HTi := Lib.hid (HT4.out.below HBi.out)
              have HAP := Lib.hid (all_pos HOK.out)
              obtain ⟨m, hm⟩ : ∃ m, m = (allN l2 4).length := ⟨_, rfl⟩
              have hmx2 : m ≤ 9223372036854775807 := by
                obtain ⟨_, _, h⟩ := HSi.out
                have := all_len h.h4 4
                omega
              have HIS := Lib.hid HO.out.is
              rw [← hm] at HAP HIS ⊢
              have HHI := Lib.hid hhi
              clear hC hhi hm HO
              obtain ⟨T, hT⟩ : ∃ T, topT l2 = T := ⟨_, rfl⟩
              obtain ⟨B, hB⟩ : ∃ B, topB l2 = B := ⟨_, rfl⟩
              have HTP := Lib.hid hT
              have HBP := Lib.hid hB
              have hBm : decide (0 < m) = B := by rw [← HAP.out, ← hB]; rfl
              have HIS2 : ∀ W, Below wr.heap.size wr W → True := fun _ _ => trivial
              clear HIS2
              cases B with
              | false =>
                have hm0 : m = 0 := by have := of_decide_eq_false hBm; omega
                subst hm0
                clear hBm hB hT
                go_wp2_with fail
                refine (ss_top HSi.out HTP.out HBP.out).mono ?_
                rintro e w5 ⟨rfl, hb5⟩
                have HB5 := Lib.hid hb5
                clear hb5
                go_wp2_with fail
                refine (ss_cls (HSi.out.below HB5.out) HC.out).mono ?_
                rintro e w6 ⟨rfl, hb6⟩
                have HB6 := Lib.hid (chn HB5.out hb6)
                clear hb6
                go_wp2_with fail
                refine (high_fit HHI.out (HTi.out.below HB6.out) (HIS.out.below HB6.out) (by decide)).mono ?_
                rintro e w7 ⟨rfl, hb7⟩
                have HB7 := Lib.hid (chn HB6.out hb7)
                clear hb7
                go_wp2_with fail
                go_roundw
                case rel => exact ⟨k + 1, l2, by omega, by go_num, HSi.out.below HB7.out, HU2.out⟩
                case measure => simp [intOf]; omega
              | true =>
                have hm0 : 0 < m := of_decide_eq_true hBm
                have hm1 : decide (0 < (m : Int)) = true := by simp; omega
                have hm2 : decide (0 < m) = true := hBm
                have htl : 0 < (held l2 T).length := by
                  rw [← hT]
                  refine top_held ?_
                  have := HAP.out
                  rw [hBm] at this
                  exact of_decide_eq_true this
                obtain ⟨p, hp⟩ : ∃ p, (held l2 T).length = p + 1 := ⟨(held l2 T).length - 1, by omega⟩
                have hpz : ((p + 1 : Nat) : Int) ≠ 0 := by omega
                have hpz2 : (((p + 1 : Nat) : Int) == 0) = false := by simp; omega
                have hpz3 : decide (((p + 1 : Nat) : Int) = 0) = false := by simp; omega
                obtain ⟨p1, hp1⟩ : ∃ p1, p1 = p + 1 := ⟨_, rfl⟩
                rw [← hp1] at hp hpz hpz2 hpz3
                have HPP := Lib.hid hp
                clear hBm hB hT htl hp hp1
                go_wp2_with fail
                refine (ss_top HSi.out HTP.out HBP.out).mono ?_
                rintro e w5 ⟨rfl, hb5⟩
                have HB5 := Lib.hid hb5
                clear hb5
                go_wp2_with fail
                refine (ss_cls (HSi.out.below HB5.out) HC.out).mono ?_
                rintro e w6 ⟨rfl, hb6⟩
                have HB6 := Lib.hid (chn HB5.out hb6)
                clear hb6
                go_wp2_with fail
                refine (high_fit HHI.out (HTi.out.below HB6.out) (HIS.out.below HB6.out) (by decide)).mono ?_
                rintro e w7 ⟨rfl, hb7⟩
                have HB7 := Lib.hid (chn HB6.out hb7)
                clear hb7
                go_wp2_with fail
                refine (ss_held (HSi.out.below HB7.out) T rfl).mono ?_
                rintro e w8 ⟨rv, rfl, hr, hb8⟩
                obtain ⟨ra, rc, rfl⟩ := hr.is_form
                rw [HPP.out]
                have HB8 := Lib.hid (chn HB7.out hb8)
                clear hb8 hr
                go_wp2_with fail
                go_roundw
                case rel => exact ⟨k + 1, l2, by omega, by go_num, HSi.out.below HB8.out, HU2.out⟩
                case measure => simp [intOf]; omega
        · go_wp2_with fail
          refine (ss_unl HSy.out t rfl rfl).mono ?_
          rintro e w4 ⟨rfl, hs⟩
          have HU2 := Lib.hid (HU.out.sub (unl_sub 4 l t))
          obtain ⟨l2, hl2⟩ : ∃ l2, l2 = unlN 4 l t := ⟨_, rfl⟩
          rw [← hl2] at hs HU2
          have HS4 := Lib.hid hs
          have HT4 := Lib.hid (HT.out.below HS4.out.bel)
          clear hs hl2 HSy HU
          go_wp2_with fail
          go_loopw [10, 11, 12] (fun o i _ wi => ∃ j : Nat, j ≤ 4 ∧ i = .int .i64 j ∧ Hid (NR wi w4.heap.size o (allN l2 j)) ∧ Hid (Below w4.heap.size w4 wi)) (fun _ i _ _ => 4 - (intOf i).toNat)
          case atStart => exact ⟨0, by omega, rfl, NR.nil _ _, Below.refl _ _⟩
          case round =>
            rename_i o _ _
            obtain ⟨j, hj, rfl, HO, HBi⟩ := hrel
            obtain ⟨oa, oc, rfl⟩ := HO.out.is_form
            have HSi := Lib.hid (HS4.out.below HBi.out)
            by_cases hj4 : j < 4
            · obtain ⟨xs, hxs⟩ : ∃ xs, held l2 (j : Int) = xs := ⟨_, rfl⟩
              have HX := Lib.hid hxs
              have HN : Hid (allN l2 (j + 1) = allN l2 j ++ xs) := by unfold Hid; rw [← hxs]; rfl
              have hle : Hid ((allN l2 j).length + xs.length ≤ 1000) := by
                unfold Hid
                obtain ⟨_, _, h⟩ := HS4.out
                have := all_len h.h4 j
                have := h.h4 (j : Int)
                rw [hxs] at this
                omega
              clear hxs
              go_wp2_with fail
              refine (ss_held HSi.out (j : Int) HX.out).mono ?_
              rintro e w5 ⟨rv, rfl, hr, hb5⟩
              have HR5 := Lib.hid hr.is
              obtain ⟨ra, rc, rfl⟩ := hr.is_form
              have HS5 := Lib.hid (HSi.out.below hb5)
              obtain ⟨v', w6, hrun, hn6, hb6⟩ := app_nums (NR.kept HO.out hb5) HR5.out (Nat.le_trans HBi.out.size hb5.size) hle.out 40
              obtain ⟨va, vc, hv⟩ := hn6.is_form
              obtain ⟨p, hp⟩ : ∃ p, p = (allN l2 j ++ xs).length := ⟨_, rfl⟩
              rw [← hp] at hv
              subst hv
              have HRUN := Lib.hid hrun
              have HB6 := Lib.hid ((HBi.out.trans (hb5.mono HBi.out.size)).trans hb6)
              have HS6 := Lib.hid (HS4.out.below HB6.out)
              have HN6 := Lib.hid hn6
              have HT6 := Lib.hid (HT4.out.below HB6.out)
              obtain ⟨m, hm⟩ : ∃ m, m = xs.length := ⟨_, rfl⟩
              have HM := Lib.hid hm
              rw [← hm] at HRUN ⊢
              clear hr hb5 hrun hn6 hb6 hp hm HR5 HS5 HSi HO hle
              cases m with
              | zero =>
                go_wp2_with (at_builtin; refine wpList_append_eq rfl _ _ 40 40 rfl _ _ _ _ rfl rfl HRUN.out ?_)
                go_roundw
                case rel => exact ⟨j + 1, by omega, by go_num, by rw [HN.out]; exact HN6.out, HB6.out⟩
                case measure => simp [intOf]; omega
              | succ m =>
                obtain ⟨C, hC⟩ : ∃ C, cls (ceil 4 (dl z) (lo z)) l2 l2.length = C := ⟨_, rfl⟩
                obtain ⟨L, hL⟩ : ∃ L, lev 4 (dl z) (j : Int) = L := ⟨_, rfl⟩
                have HC := Lib.hid hC
                have HL := Lib.hid (level_any HT6.out (by decide) (j : Int))
                rw [hL] at HL
                have hCL : decide (C < L) = false := by
                  rw [decide_eq_false_iff_not, ← hC, ← hL]
                  obtain ⟨x, hx⟩ := List.exists_mem_of_length_pos (show 0 < xs.length by have := HM.out; omega)
                  rw [← HX.out] at hx
                  have hm := held_mem.mp hx
                  have h1 := lev_ceil (HU2.out _ hm)
                  have h2 := cls_mem (c := ceil 4 (dl z) (lo z)) hm
                  simp only at h1 h2
                  omega
                clear hC hL
                go_wp2_with (at_builtin; refine wpList_append_eq rfl _ _ 40 40 rfl _ _ _ _ rfl rfl HRUN.out ?_)
                refine HL.out.mono ?_
                rintro e w7 ⟨rfl, hb7⟩
                have HB7 := Lib.hid hb7
                clear hb7 HL
                go_wp2_with fail
                refine (ss_cls (HS6.out.below HB7.out) HC.out).mono ?_
                rintro e w8 ⟨rfl, hb8⟩
                have HB8 := Lib.hid (chn HB7.out hb8)
                clear hb8 HC
                go_wp2_with fail
                go_roundw
                case rel => exact ⟨j + 1, by omega, by go_num, by rw [HN.out]; exact HN6.out.kept HB8.out, HB6.out.trans (HB8.out.mono HB6.out.size)⟩
                case measure => simp [intOf]; omega
            · obtain rfl : j = 4 := by omega
              have HOK : Hid (Ok 4 l2) := by obtain ⟨_, _, h⟩ := HSi.out; exact h.ok
              obtain ⟨C, hC⟩ : ∃ C, cls (ceil 4 (dl z) (lo z)) l2 l2.length = C := ⟨_, rfl⟩
              have HC := Lib.hid hC
              have hhi : hi (ceil 4 (dl z) (lo z)) (allN l2 4) (allN l2 4).length = C := by rw [← hC]; exact (cls_all HOK.out).symm
              have HTi := Lib.hid (HT4.out.below HBi.out)
              have HAP := Lib.hid (all_pos HOK.out)
              obtain ⟨m, hm⟩ : ∃ m, m = (allN l2 4).length := ⟨_, rfl⟩
              have hmx2 : m ≤ 9223372036854775807 := by
                obtain ⟨_, _, h⟩ := HSi.out
                have := all_len h.h4 4
                omega
              have HIS := Lib.hid HO.out.is
              rw [← hm] at HAP HIS ⊢
              have HHI := Lib.hid hhi
              clear hC hhi hm HO
              obtain ⟨T, hT⟩ : ∃ T, topT l2 = T := ⟨_, rfl⟩
              obtain ⟨B, hB⟩ : ∃ B, topB l2 = B := ⟨_, rfl⟩
              have HTP := Lib.hid hT
              have HBP := Lib.hid hB
              have hBm : decide (0 < m) = B := by rw [← HAP.out, ← hB]; rfl
              have HIS2 : ∀ W, Below wr.heap.size wr W → True := fun _ _ => trivial
              clear HIS2
              cases B with
              | false =>
                have hm0 : m = 0 := by have := of_decide_eq_false hBm; omega
                subst hm0
                clear hBm hB hT
                go_wp2_with fail
                refine (ss_top HSi.out HTP.out HBP.out).mono ?_
                rintro e w5 ⟨rfl, hb5⟩
                have HB5 := Lib.hid hb5
                clear hb5
                go_wp2_with fail
                refine (ss_cls (HSi.out.below HB5.out) HC.out).mono ?_
                rintro e w6 ⟨rfl, hb6⟩
                have HB6 := Lib.hid (chn HB5.out hb6)
                clear hb6
                go_wp2_with fail
                refine (high_fit HHI.out (HTi.out.below HB6.out) (HIS.out.below HB6.out) (by decide)).mono ?_
                rintro e w7 ⟨rfl, hb7⟩
                have HB7 := Lib.hid (chn HB6.out hb7)
                clear hb7
                go_wp2_with fail
                go_roundw
                case rel => exact ⟨k + 1, l2, by omega, by go_num, HSi.out.below HB7.out, HU2.out⟩
                case measure => simp [intOf]; omega
              | true =>
                have hm0 : 0 < m := of_decide_eq_true hBm
                have hm1 : decide (0 < (m : Int)) = true := by simp; omega
                have hm2 : decide (0 < m) = true := hBm
                have htl : 0 < (held l2 T).length := by
                  rw [← hT]
                  refine top_held ?_
                  have := HAP.out
                  rw [hBm] at this
                  exact of_decide_eq_true this
                obtain ⟨p, hp⟩ : ∃ p, (held l2 T).length = p + 1 := ⟨(held l2 T).length - 1, by omega⟩
                have hpz : ((p + 1 : Nat) : Int) ≠ 0 := by omega
                have hpz2 : (((p + 1 : Nat) : Int) == 0) = false := by simp; omega
                have hpz3 : decide (((p + 1 : Nat) : Int) = 0) = false := by simp; omega
                obtain ⟨p1, hp1⟩ : ∃ p1, p1 = p + 1 := ⟨_, rfl⟩
                rw [← hp1] at hp hpz hpz2 hpz3
                have HPP := Lib.hid hp
                clear hBm hB hT htl hp hp1
                go_wp2_with fail
                refine (ss_top HSi.out HTP.out HBP.out).mono ?_
                rintro e w5 ⟨rfl, hb5⟩
                have HB5 := Lib.hid hb5
                clear hb5
                go_wp2_with fail
                refine (ss_cls (HSi.out.below HB5.out) HC.out).mono ?_
                rintro e w6 ⟨rfl, hb6⟩
                have HB6 := Lib.hid (chn HB5.out hb6)
                clear hb6
                go_wp2_with fail
                refine (high_fit HHI.out (HTi.out.below HB6.out) (HIS.out.below HB6.out) (by decide)).mono ?_
                rintro e w7 ⟨rfl, hb7⟩
                have HB7 := Lib.hid (chn HB6.out hb7)
                clear hb7
                go_wp2_with fail
                refine (ss_held (HSi.out.below HB7.out) T rfl).mono ?_
                rintro e w8 ⟨rv, rfl, hr, hb8⟩
                obtain ⟨ra, rc, rfl⟩ := hr.is_form
                rw [HPP.out]
                have HB8 := Lib.hid (chn HB7.out hb8)
                clear hb8 hr
                go_wp2_with fail
                go_roundw
                case rel => exact ⟨k + 1, l2, by omega, by go_num, HSi.out.below HB8.out, HU2.out⟩
                case measure => simp [intOf]; omega
        · go_wp2_with fail
          refine (ss_drop HSy.out t).mono ?_
          rintro e w4 ⟨rv, rfl, hr, hs⟩
          have HU2 := Lib.hid (HU.out.sub (drp_sub l t))
          obtain ⟨l2, hl2⟩ : ∃ l2, l2 = drp l t := ⟨_, rfl⟩
          rw [← hl2] at hs HU2
          clear hr
          have HS4 := Lib.hid hs
          have HT4 := Lib.hid (HT.out.below HS4.out.bel)
          clear hs hl2 HSy HU
          go_wp2_with fail
          go_loopw [10, 11, 12] (fun o i _ wi => ∃ j : Nat, j ≤ 4 ∧ i = .int .i64 j ∧ Hid (NR wi w4.heap.size o (allN l2 j)) ∧ Hid (Below w4.heap.size w4 wi)) (fun _ i _ _ => 4 - (intOf i).toNat)
          case atStart => exact ⟨0, by omega, rfl, NR.nil _ _, Below.refl _ _⟩
          case round =>
            rename_i o _ _
            obtain ⟨j, hj, rfl, HO, HBi⟩ := hrel
            obtain ⟨oa, oc, rfl⟩ := HO.out.is_form
            have HSi := Lib.hid (HS4.out.below HBi.out)
            by_cases hj4 : j < 4
            · obtain ⟨xs, hxs⟩ : ∃ xs, held l2 (j : Int) = xs := ⟨_, rfl⟩
              have HX := Lib.hid hxs
              have HN : Hid (allN l2 (j + 1) = allN l2 j ++ xs) := by unfold Hid; rw [← hxs]; rfl
              have hle : Hid ((allN l2 j).length + xs.length ≤ 1000) := by
                unfold Hid
                obtain ⟨_, _, h⟩ := HS4.out
                have := all_len h.h4 j
                have := h.h4 (j : Int)
                rw [hxs] at this
                omega
              clear hxs
              go_wp2_with fail
              refine (ss_held HSi.out (j : Int) HX.out).mono ?_
              rintro e w5 ⟨rv, rfl, hr, hb5⟩
              have HR5 := Lib.hid hr.is
              obtain ⟨ra, rc, rfl⟩ := hr.is_form
              have HS5 := Lib.hid (HSi.out.below hb5)
              obtain ⟨v', w6, hrun, hn6, hb6⟩ := app_nums (NR.kept HO.out hb5) HR5.out (Nat.le_trans HBi.out.size hb5.size) hle.out 40
              obtain ⟨va, vc, hv⟩ := hn6.is_form
              obtain ⟨p, hp⟩ : ∃ p, p = (allN l2 j ++ xs).length := ⟨_, rfl⟩
              rw [← hp] at hv
              subst hv
              have HRUN := Lib.hid hrun
              have HB6 := Lib.hid ((HBi.out.trans (hb5.mono HBi.out.size)).trans hb6)
              have HS6 := Lib.hid (HS4.out.below HB6.out)
              have HN6 := Lib.hid hn6
              have HT6 := Lib.hid (HT4.out.below HB6.out)
              obtain ⟨m, hm⟩ : ∃ m, m = xs.length := ⟨_, rfl⟩
              have HM := Lib.hid hm
              rw [← hm] at HRUN ⊢
              clear hr hb5 hrun hn6 hb6 hp hm HR5 HS5 HSi HO hle
              cases m with
              | zero =>
                go_wp2_with (at_builtin; refine wpList_append_eq rfl _ _ 40 40 rfl _ _ _ _ rfl rfl HRUN.out ?_)
                go_roundw
                case rel => exact ⟨j + 1, by omega, by go_num, by rw [HN.out]; exact HN6.out, HB6.out⟩
                case measure => simp [intOf]; omega
              | succ m =>
                obtain ⟨C, hC⟩ : ∃ C, cls (ceil 4 (dl z) (lo z)) l2 l2.length = C := ⟨_, rfl⟩
                obtain ⟨L, hL⟩ : ∃ L, lev 4 (dl z) (j : Int) = L := ⟨_, rfl⟩
                have HC := Lib.hid hC
                have HL := Lib.hid (level_any HT6.out (by decide) (j : Int))
                rw [hL] at HL
                have hCL : decide (C < L) = false := by
                  rw [decide_eq_false_iff_not, ← hC, ← hL]
                  obtain ⟨x, hx⟩ := List.exists_mem_of_length_pos (show 0 < xs.length by have := HM.out; omega)
                  rw [← HX.out] at hx
                  have hm := held_mem.mp hx
                  have h1 := lev_ceil (HU2.out _ hm)
                  have h2 := cls_mem (c := ceil 4 (dl z) (lo z)) hm
                  simp only at h1 h2
                  omega
                clear hC hL
                go_wp2_with (at_builtin; refine wpList_append_eq rfl _ _ 40 40 rfl _ _ _ _ rfl rfl HRUN.out ?_)
                refine HL.out.mono ?_
                rintro e w7 ⟨rfl, hb7⟩
                have HB7 := Lib.hid hb7
                clear hb7 HL
                go_wp2_with fail
                refine (ss_cls (HS6.out.below HB7.out) HC.out).mono ?_
                rintro e w8 ⟨rfl, hb8⟩
                have HB8 := Lib.hid (chn HB7.out hb8)
                clear hb8 HC
                go_wp2_with fail
                go_roundw
                case rel => exact ⟨j + 1, by omega, by go_num, by rw [HN.out]; exact HN6.out.kept HB8.out, HB6.out.trans (HB8.out.mono HB6.out.size)⟩
                case measure => simp [intOf]; omega
            · obtain rfl : j = 4 := by omega
              have HOK : Hid (Ok 4 l2) := by obtain ⟨_, _, h⟩ := HSi.out; exact h.ok
              obtain ⟨C, hC⟩ : ∃ C, cls (ceil 4 (dl z) (lo z)) l2 l2.length = C := ⟨_, rfl⟩
              have HC := Lib.hid hC
              have hhi : hi (ceil 4 (dl z) (lo z)) (allN l2 4) (allN l2 4).length = C := by rw [← hC]; exact (cls_all HOK.out).symm
              have HTi := Lib.hid (HT4.out.below HBi.out)
              have HAP := Lib.hid (all_pos HOK.out)
              obtain ⟨m, hm⟩ : ∃ m, m = (allN l2 4).length := ⟨_, rfl⟩
              have hmx2 : m ≤ 9223372036854775807 := by
                obtain ⟨_, _, h⟩ := HSi.out
                have := all_len h.h4 4
                omega
              have HIS := Lib.hid HO.out.is
              rw [← hm] at HAP HIS ⊢
              have HHI := Lib.hid hhi
              clear hC hhi hm HO
              obtain ⟨T, hT⟩ : ∃ T, topT l2 = T := ⟨_, rfl⟩
              obtain ⟨B, hB⟩ : ∃ B, topB l2 = B := ⟨_, rfl⟩
              have HTP := Lib.hid hT
              have HBP := Lib.hid hB
              have hBm : decide (0 < m) = B := by rw [← HAP.out, ← hB]; rfl
              have HIS2 : ∀ W, Below wr.heap.size wr W → True := fun _ _ => trivial
              clear HIS2
              cases B with
              | false =>
                have hm0 : m = 0 := by have := of_decide_eq_false hBm; omega
                subst hm0
                clear hBm hB hT
                go_wp2_with fail
                refine (ss_top HSi.out HTP.out HBP.out).mono ?_
                rintro e w5 ⟨rfl, hb5⟩
                have HB5 := Lib.hid hb5
                clear hb5
                go_wp2_with fail
                refine (ss_cls (HSi.out.below HB5.out) HC.out).mono ?_
                rintro e w6 ⟨rfl, hb6⟩
                have HB6 := Lib.hid (chn HB5.out hb6)
                clear hb6
                go_wp2_with fail
                refine (high_fit HHI.out (HTi.out.below HB6.out) (HIS.out.below HB6.out) (by decide)).mono ?_
                rintro e w7 ⟨rfl, hb7⟩
                have HB7 := Lib.hid (chn HB6.out hb7)
                clear hb7
                go_wp2_with fail
                go_roundw
                case rel => exact ⟨k + 1, l2, by omega, by go_num, HSi.out.below HB7.out, HU2.out⟩
                case measure => simp [intOf]; omega
              | true =>
                have hm0 : 0 < m := of_decide_eq_true hBm
                have hm1 : decide (0 < (m : Int)) = true := by simp; omega
                have hm2 : decide (0 < m) = true := hBm
                have htl : 0 < (held l2 T).length := by
                  rw [← hT]
                  refine top_held ?_
                  have := HAP.out
                  rw [hBm] at this
                  exact of_decide_eq_true this
                obtain ⟨p, hp⟩ : ∃ p, (held l2 T).length = p + 1 := ⟨(held l2 T).length - 1, by omega⟩
                have hpz : ((p + 1 : Nat) : Int) ≠ 0 := by omega
                have hpz2 : (((p + 1 : Nat) : Int) == 0) = false := by simp; omega
                have hpz3 : decide (((p + 1 : Nat) : Int) = 0) = false := by simp; omega
                obtain ⟨p1, hp1⟩ : ∃ p1, p1 = p + 1 := ⟨_, rfl⟩
                rw [← hp1] at hp hpz hpz2 hpz3
                have HPP := Lib.hid hp
                clear hBm hB hT htl hp hp1
                go_wp2_with fail
                refine (ss_top HSi.out HTP.out HBP.out).mono ?_
                rintro e w5 ⟨rfl, hb5⟩
                have HB5 := Lib.hid hb5
                clear hb5
                go_wp2_with fail
                refine (ss_cls (HSi.out.below HB5.out) HC.out).mono ?_
                rintro e w6 ⟨rfl, hb6⟩
                have HB6 := Lib.hid (chn HB5.out hb6)
                clear hb6
                go_wp2_with fail
                refine (high_fit HHI.out (HTi.out.below HB6.out) (HIS.out.below HB6.out) (by decide)).mono ?_
                rintro e w7 ⟨rfl, hb7⟩
                have HB7 := Lib.hid (chn HB6.out hb7)
                clear hb7
                go_wp2_with fail
                refine (ss_held (HSi.out.below HB7.out) T rfl).mono ?_
                rintro e w8 ⟨rv, rfl, hr, hb8⟩
                obtain ⟨ra, rc, rfl⟩ := hr.is_form
                rw [HPP.out]
                have HB8 := Lib.hid (chn HB7.out hb8)
                clear hb8 hr
                go_wp2_with fail
                go_roundw
                case rel => exact ⟨k + 1, l2, by omega, by go_num, HSi.out.below HB8.out, HU2.out⟩
                case measure => simp [intOf]; omega
      · have hk1 : decide ((k : Int) < 150) = false := by simp; omega
        have hkI : (k : Int) < (n : Int) := by omega
        have HBr := Lib.hid (HB1.out.trans (HS.out.bel.mono HB1.out.size))
        go_wp2_with fail
        refine (works_any _).mono ?_
        rintro e w5 ⟨rfl, hb5⟩
        have HB5 := Lib.hid (chn HBr.out hb5)
        clear hb5
        go_wp2_with fail
        go_ret
        exact ⟨rfl, HB5.out⟩
    · obtain rfl : k = n := by omega
      have HBr := Lib.hid (HB1.out.trans (HS.out.bel.mono HB1.out.size))
      go_wp2_with fail
      refine (works_any _).mono ?_
      rintro e w5 ⟨rfl, hb5⟩
      have HB5 := Lib.hid (chn HBr.out hb5)
      clear hb5
      go_wp2_with fail
      go_ret
      exact ⟨rfl, HB5.out⟩
end Go.Proofs.Ytmheggedlepdlaa
