/- The document's queue: Late, First. -/
import Derived.Test.YtmdckfekjbhcfaaRdyC
namespace Go.Proofs.Ytmdckfekjbhcfaa
open Go.RowKit Rk Rd Go.Sort
set_option linter.unusedVariables false

/-- the tasks of the first k jobs whose deadline is at most n -/
def lateTo (L : List Int) (n : Int) (k : Nat) : List Int := ids (((srt L).take k).filter fun x => decide (x.2 ≤ n))
theorem lateTo_yes {L : List Int} {n : Int} {k : Nat} (h : k < (srt L).length) (hx : ((srt L).getD k (0, 0)).2 ≤ n) : lateTo L n (k + 1) = lateTo L n k ++ [((srt L).getD k (0, 0)).1] := by
  unfold lateTo
  rw [late_step _ _ _ h, if_pos hx]
  unfold ids
  rw [List.map_append]; rfl
theorem lateTo_no {L : List Int} {n : Int} {k : Nat} (h : k < (srt L).length) (hx : ¬ ((srt L).getD k (0, 0)).2 ≤ n) : lateTo L n (k + 1) = lateTo L n k := by
  unfold lateTo
  rw [late_step _ _ _ h, if_neg hx]
theorem lateTo_len (L : List Int) (n : Int) (k : Nat) : (lateTo L n k).length ≤ k := by
  unfold lateTo
  rw [ids_len]
  have h1 := List.length_filter_le (fun x : En => decide (x.2 ≤ n)) ((srt L).take k)
  have h2 : ((srt L).take k).length ≤ k := by rw [List.length_take]; omega
  omega
theorem lateTo_all (L : List Int) (n : Int) : lateTo L n (srt L).length = ids (lateL L n) := by
  unfold lateTo lateL
  rw [List.take_length]
/-- a job, by its number: its task, and that task's deadline -/
theorem srt_at {L : List Int} {k : Nat} (h : k < (srt L).length) : ∃ q : Nat, q < L.length ∧ (srt L).getD k (0, 0) = ((q : Int), L.getD q (-1)) := jobs_at h

set_option maxRecDepth 100000 in
set_option maxHeartbeats 8000000 in
theorem rlate_any {w : World} {mb C : Nat} {L : List Int} {lv : Value} (h : DQ w mb C L lv) (ok : Gd L) (now : Int) : Calls Try.prog 16 #[.pointer (some ⟨mb, 0, none⟩), .int .i64 now] w (NumsP w (ids (lateL L now))) := by
  obtain ⟨a, cap, rfl⟩ := h.form
  have H := Lib.hid h
  have HJ := Lib.hid (rjobs_any h ok)
  have hlen := ok.len
  obtain ⟨m, hm⟩ : ∃ m, m = L.length := ⟨_, rfl⟩
  have HM := Lib.hid hm
  rw [← hm] at hlen H
  obtain ⟨N, hN⟩ : ∃ N, N = (srt L).length := ⟨_, rfl⟩
  have hNm : N ≤ m := by rw [hN, hm]; exact srt_len L
  have HN := Lib.hid hN
  have eN : (ids (srt L)).length = N := by rw [ids_len, ← hN]
  have HEN := Lib.hid eN
  clear h hm ok hN eN
  go_enter Try.func16, Try.ntmps16
  go_wp2_with fail
  refine HJ.out.mono ?_
  rintro e w1 ⟨r, rfl, hnr, hb1⟩
  obtain ⟨ra, rcap, rfl⟩ := hnr.is_form
  rw [HEN.out] at hnr ⊢
  obtain ⟨_, _, eS, hoc1, hoc2⟩ := hnr.is.slice
  rw [HEN.out] at eS hoc1
  injection eS with eS1 _ eS2
  subst eS1; subst eS2
  have hm8 : rcap ≤ 9223372036854775807 := by unfold maxLen at hoc2; omega
  have HNR := Lib.hid hnr
  have HB1 := Lib.hid hb1
  have HD1 := Lib.hid (H.out.below hb1)
  clear hnr hb1 HJ hoc2
  go_wp2_with fail
  go_loopw [5, 7] (fun o i wr => ∃ k : Nat, k ≤ N ∧ i = .int .i64 k ∧ Hid (NR wr w1.heap.size o (lateTo L now k)) ∧ Hid (Below w1.heap.size w1 wr)) (fun _ i _ => N - (intOf i).toNat)
  case atStart => exact ⟨0, Nat.zero_le _, rfl, NR.nil _ _, Below.refl _ _⟩
  case round =>
    obtain ⟨k, hk, rfl, HO, HB⟩ := hrel
    have HD := Lib.hid (HD1.out.below HB.out)
    have c0 := HD.out.c0
    by_cases hkN : k < N
    · obtain ⟨q, hq, eq⟩ := srt_at (L := L) (k := k) (by rw [← HN.out]; exact hkN)
      obtain ⟨b, rfl, d1'⟩ := HNR.out.at (j := k) (by rw [HEN.out]; exact hkN)
      have d1 := (HB.out.cell (p := ⟨b, k, none⟩) (World.block_lt_of_cell? w1 _ d1')).trans d1'
      rw [ids_getD, eq] at d1
      dsimp only at d1
      obtain ⟨g, rfl, d2, -, -, hc1, hc2⟩ := HD.out.at (i := q) hq
      have HEQ := Lib.hid eq
      have hki : (k : Int) < (N : Int) := by omega
      have hk0 : (0 : Int) ≤ k := by omega
      have hqm : (q : Int) < (m : Int) := by rw [HM.out]; omega
      have hq0 : (0 : Int) ≤ q := by omega
      have hm9 : cap ≤ 9223372036854775807 := by unfold maxLen at hc2; omega
      have HKL : Hid (k < (srt L).length) := by unfold Hid; rw [← HN.out]; exact hkN
      obtain ⟨X, hX⟩ : ∃ X, X = L.getD q (-1) := ⟨_, rfl⟩
      have HXX := Lib.hid hX
      rw [← hX] at d2
      clear eq hX hq hc2 d1'
      by_cases hle : X ≤ now
      · have hd : decide (X ≤ now) = true := by simpa using hle
        have HE : Hid (lateTo L now (k + 1) = lateTo L now k ++ [(q : Int)]) := by
          have := lateTo_yes (L := L) (n := now) HKL.out (by rw [HEQ.out]; simp only; rw [← HXX.out]; exact hle)
          rw [HEQ.out] at this
          exact this
        have HLL := lateTo_len L now k
        go_wp2_with fail
        go_quiet (fail)
        rename_i nq _
        have HOq : Hid (NR (wr.drewN nq) w1.heap.size u5 (lateTo L now k)) := HO.out
        have HBq : Hid (Below w1.heap.size w1 (wr.drewN nq)) := below_drewN HB.out nq
        have d1' := (HBq.out.cell (p := ⟨b, k, none⟩) (HNR.out.lt b rfl).2).trans ((HNR.out.at (j := k) (by rw [HEN.out]; exact hkN)).elim fun g hg => by
          obtain ⟨e, hc⟩ := hg
          injection e with e
          injection e with e _ _
          subst e
          exact hc)
        rw [ids_getD, HEQ.out] at d1'
        dsimp only at d1'
        clear HO HB HD c0 d1 d2 hd hle
        generalize wr.drewN nq = wd at *
        obtain ⟨v2, w2, run2, nr2, b2⟩ := app_num (w := wd.alloc (.cells #[.int .i64 q] 3)) (World.ownsRow.alloc HOq.out _) q (g := wd.heap.size) (heap_alloc_new wd _) (Nat.le_trans HBq.out.size (by simp)) (by omega) 36
        have HR2 := Lib.hid run2
        have HN2 : Hid (NR w2 w1.heap.size v2 (lateTo L now (k + 1))) := by unfold Hid; rw [HE.out]; exact nr2
        have HB2 : Hid (Below w1.heap.size w1 w2) := (HBq.out.alloc HBq.out.size _).trans b2
        clear run2 nr2 b2 HOq HBq
        go_wp2_with (at_builtin; refine wpList_append_eq rfl (.tmp 28) (.tmp 33) 36 36 rfl _ _ _ _ rfl rfl HR2.out ?_)
        go_roundw
        case rel => exact ⟨k + 1, by omega, by go_num, HN2.out, HB2.out⟩
        case measure => simp [intOf]; omega
      · have hd : decide (X ≤ now) = false := by simpa using hle
        have HE : Hid (lateTo L now (k + 1) = lateTo L now k) := lateTo_no HKL.out (by rw [HEQ.out]; simp only; rw [← HXX.out]; exact hle)
        go_wp2_with fail
        go_quiet (fail)
        go_wp2_with fail
        go_roundw
        case rel => exact ⟨k + 1, by omega, by go_num, by rw [HE.out]; exact HO.out, below_drewN HB.out _⟩
        case measure => simp [intOf]; omega
    · obtain rfl : k = N := by omega
      have HE : Hid (lateTo L now k = ids (lateL L now)) := by unfold Hid; rw [HN.out]; exact lateTo_all L now
      go_wp2_with fail
      go_ret
      exact ⟨_, rfl, own_base (by rw [← HE.out]; exact HO.out) HB1.out.size, HB1.out.trans (HB.out.mono HB1.out.size)⟩
set_option maxRecDepth 100000 in
set_option maxHeartbeats 4000000 in
theorem rfirst_any {w : World} {mb C : Nat} {L : List Int} {lv : Value} (h : DQ w mb C L lv) (ok : Gd L) : Calls Try.prog 28 #[.pointer (some ⟨mb, 0, none⟩)] w (Fst (fs L).1 (fs L).2 (decide (0 < (srt L).length)) w) := by
  obtain ⟨a, cap, rfl⟩ := h.form
  have H := Lib.hid h
  have HJ := Lib.hid (rjobs_any h ok)
  have hlen := ok.len
  obtain ⟨m, hm⟩ : ∃ m, m = L.length := ⟨_, rfl⟩
  have HM := Lib.hid hm
  rw [← hm] at hlen H
  obtain ⟨N, hN⟩ : ∃ N, N = (srt L).length := ⟨_, rfl⟩
  have hNm : N ≤ m := by rw [hN, hm]; exact srt_len L
  have HN := Lib.hid hN
  have eN : (ids (srt L)).length = N := by rw [ids_len, ← hN]
  have HEN := Lib.hid eN
  rw [← hN]
  clear h hm ok hN eN
  by_cases h0 : N = 0
  · have hf : fs L = (0, 0) := fs_none (by rw [← HN.out]; exact h0)
    have hz : ((N : Int) == 0) = true := by simp [h0]
    have hd : decide (0 < N) = false := by simp [h0]
    rw [hf, hd]
    clear hf hd
    go_enter Try.func28, Try.ntmps28
    go_wp2_with fail
    refine HJ.out.mono ?_
    rintro e w1 ⟨r, rfl, hnr, hb1⟩
    obtain ⟨ra, rcap, rfl⟩ := hnr.is_form
    rw [HEN.out]
    have HB1 := Lib.hid hb1
    clear hnr hb1 HJ
    go_wp2_with fail
    go_ret3
    exact ⟨rfl, HB1.out⟩
  · have hN0 : 0 < N := by omega
    have hNI : (0 : Int) < (N : Int) := by omega
    have hz : ((N : Int) == 0) = false := by simp; omega
    obtain ⟨q, hq, eq⟩ := srt_at (L := L) (k := 0) (by rw [← HN.out]; exact hN0)
    rw [decide_eq_true hN0, fs_eq, eq]
    dsimp only
    have HEQ := Lib.hid eq
    obtain ⟨X, hX⟩ : ∃ X, X = L.getD q (-1) := ⟨_, rfl⟩
    have HXX := Lib.hid hX
    rw [← hX]
    have HQ := Lib.hid hq
    have hqm : (q : Int) < (m : Int) := by rw [HM.out]; omega
    have hq0 : (0 : Int) ≤ q := by omega
    clear eq hX hq
    go_enter Try.func28, Try.ntmps28
    go_wp2_with fail
    refine HJ.out.mono ?_
    rintro e w1 ⟨r, rfl, hnr, hb1⟩
    obtain ⟨ra, rcap, rfl⟩ := hnr.is_form
    rw [HEN.out] at hnr ⊢
    obtain ⟨b, rfl, d1⟩ := hnr.at (j := 0) (by rw [HEN.out]; exact hN0)
    rw [ids_getD, HEQ.out] at d1
    dsimp only at d1
    have HD := Lib.hid (H.out.below hb1)
    obtain ⟨g, rfl, d2, -, -, hc1, hc2⟩ := HD.out.at (i := q) HQ.out
    rw [← HXX.out] at d2
    have c0 := HD.out.c0
    have HB1 := Lib.hid hb1
    have hm9 : cap ≤ 9223372036854775807 := by unfold maxLen at hc2; omega
    clear hnr hb1 HJ hc2
    go_wp2_with fail
    go_quiet (fail)
    go_wp2_with fail
    go_ret3
    exact ⟨rfl, below_drewN HB1.out _⟩
end Go.Proofs.Ytmdckfekjbhcfaa
