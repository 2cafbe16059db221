/- The program's job: what writes. -/
import Derived.Test.YtoggnofdgmhbmaaJobG
namespace Go.Proofs.Ytoggnofdgmhbmaa
open Go.RowKit Go.Sort Ac Jo
set_option linter.unusedVariables false

section
variable {w : World} {jb rb g : Nat} {s : Jb}
theorem pj_toldL (h : PJ w jb rb g s) : Calls Try.prog 34 #[.pointer (some ⟨jb, 0, none⟩)] w (VB (.agg #[.pointer (some ⟨rb, 0, none⟩), .int .i64 (s.t 0), .int .i64 (s.t 1), .int .i64 (s.t 2), .int .i64 (s.t 3), .int .i64 (s.t 4), .int .i64 (s.t 5), .int .i64 (s.t 6), .int .i64 (s.t 7), .int .i64 s.e, .bool s.b, .int .i64 s.n, .int .i64 s.c, .int .i64 s.k, .int .i64 s.x]) w) := pj_told h
set_option maxHeartbeats 1000000 in
theorem pj_did (h : PJ w jb rb g s) (hi : Inv s) : Calls Try.prog 10 #[.pointer (some ⟨jb, 0, none⟩)] w (PP (.int .i64 (didE s.l)) jb rb g (didJ s) w) := by
  have HT := Lib.hid (pj_toldL h)
  have hl := Lib.hid hi.gd.len
  have H := Lib.hid h
  have qfd := qf0 (some ⟨rb, 0, none⟩) (s.t 0) (s.t 1) (s.t 2) (s.t 3) (s.t 4) (s.t 5) (s.t 6) (s.t 7) s.e s.n s.c s.k s.x s.b
  clear h hi
  rcases didE_or s.l with hr | hr
  · have HR := Lib.hid hr
    rw [hr]
    clear hr
    go_enter Try.func10, Try.ntmps10
    go_wp2_with fail
    refine HT.out.mono ?_
    rintro e w1 ⟨rfl, hb⟩
    have H1 := Lib.hid (H.out.below hb)
    have HB := Lib.hid hb
    have HC := Lib.hid (did_any H1.out.rw hl.out)
    rw [HR.out] at HC
    clear hb H HT
    go_wp2_with fail
    refine HC.out.mono ?_
    rintro e w2 ⟨rfl, h1, h2⟩
    obtain ⟨hj, ho⟩ := H1.out.row (s' := ⟨s.t, s.e, s.n, s.c, s.k, s.x, s.b, didL s.l⟩) h1 h2 rfl
    obtain ⟨hj2, ho2⟩ := hj.set (s' := ⟨s.t, s.e, s.n, s.c, s.k, s.x, true, didL s.l⟩) 10 (.bool true) rfl rfl
    have HF := Lib.hid (show PP (.int .i64 0) jb rb g (didJ s) w (.returned (.int .i64 0)) (w2.setCell ⟨jb, 10, none⟩ (.bool true)) from ⟨rfl, by unfold didJ; rw [if_pos HR.out]; exact hj2, ((tri_below HB.out).trans ho).trans ho2⟩)
    have f := hj.free 10
    have cc : w2.cell? ⟨jb, 10, none⟩ = some (.bool s.b) := hj.cell 10
    clear h1 h2 hj ho hj2 ho2 qfd
    go_wp2_with fail
    go_ret
    exact HF.out
  · have HR := Lib.hid hr
    rw [hr]
    clear hr
    go_enter Try.func10, Try.ntmps10
    go_wp2_with fail
    refine HT.out.mono ?_
    rintro e w1 ⟨rfl, hb⟩
    have H1 := Lib.hid (H.out.below hb)
    have HB := Lib.hid hb
    have HC := Lib.hid (did_any H1.out.rw hl.out)
    rw [HR.out] at HC
    clear hb H HT
    go_wp2_with fail
    refine HC.out.mono ?_
    rintro e w2 ⟨rfl, h1, h2⟩
    have HF := Lib.hid (show PP (.int .i64 250) jb rb g (didJ s) w (.returned (.int .i64 250)) w2 from by
      have hl := did_same HR.out
      rw [hl] at h1
      obtain ⟨hj, ho⟩ := H1.out.row (s' := s) h1 h2 rfl
      exact ⟨rfl, by unfold didJ; rw [if_neg (by rw [HR.out]; decide)]; exact hj, (tri_below HB.out).trans ho⟩)
    clear h1 h2 qfd
    go_wp2_with fail
    go_ret
    exact HF.out
set_option maxHeartbeats 2000000 in
theorem pj_run (h : PJ w jb rb g s) (hi : Inv s) : Calls Try.prog 12 #[.pointer (some ⟨jb, 0, none⟩)] w (PP (.int .i64 (runE s)) jb rb g (runJ s) w) := by
  have HT := Lib.hid (pj_toldL h)
  have H := Lib.hid h
  have HG := Lib.hid hi.gd
  have hn0 := hi.n0
  have hk0 := hi.k0
  have hkn := hi.kn
  have hnl : s.n ≤ 2048 := by have := hi.nl; have := left_bd hi.gd.all; omega
  have qfd := qf0 (some ⟨rb, 0, none⟩) (s.t 0) (s.t 1) (s.t 2) (s.t 3) (s.t 4) (s.t 5) (s.t 6) (s.t 7) s.e s.n s.c s.k s.x s.b
  have qfe := qf5 (some ⟨rb, 0, none⟩) (s.t 0) (s.t 1) (s.t 2) (s.t 3) (s.t 4) (s.t 5) (s.t 6) (s.t 7) s.e s.n s.c s.k s.x s.b
  clear h hi
  by_cases h3 : s.c = 3
  · have HR := Lib.hid h3
    have hre : runE s = 250 := if_pos h3
    have hrj : runJ s = s := if_pos h3
    have hd3 : (s.c == 3) = true := by simpa using h3
    rw [hre, hrj]
    clear hre hrj h3
    go_enter Try.func12, Try.ntmps12
    go_wp2_with fail
    refine HT.out.mono ?_
    rintro e w1 ⟨rfl, hb⟩
    have HF := Lib.hid (show PP (.int .i64 250) jb rb g s w (.returned (.int .i64 250)) w1 from ⟨rfl, H.out.below hb, tri_below hb⟩)
    clear hb H HT
    go_wp2_with fail
    go_ret
    exact HF.out
  · have hd3 : (s.c == 3) = false := by simpa using h3
    rcases ranE_or s.l with hr | hr
    · have HR := Lib.hid hr
      have hre : runE s = 0 := by unfold runE; rw [if_neg h3]; exact hr
      have hrj : runJ s = ⟨s.t, s.e, s.n + 1, s.c, s.k + 1, s.x, true, ranL s.l⟩ := by unfold runJ; rw [if_neg h3, if_pos hr]
      rw [hre, hrj]
      clear hr hre hrj h3
      go_enter Try.func12, Try.ntmps12
      go_wp2_with fail
      refine HT.out.mono ?_
      rintro e w1 ⟨rfl, hb⟩
      have H1 := Lib.hid (H.out.below hb)
      have HB := Lib.hid hb
      have HT1 := Lib.hid (pj_toldL H1.out)
      clear hb H HT
      go_wp2_with fail
      refine HT1.out.mono ?_
      rintro e w1' ⟨rfl, hb⟩
      have H2 := Lib.hid (H1.out.below hb)
      have HB2 := Lib.hid (chn HB.out hb)
      have HC := Lib.hid (ran_any H2.out.rw HG.out)
      rw [HR.out] at HC
      clear hb H1 HT1 HB
      go_wp2_with fail
      refine HC.out.mono ?_
      rintro e w2 ⟨rfl, h1, h2⟩
      obtain ⟨hj, ho⟩ := H2.out.row (s' := ⟨s.t, s.e, s.n, s.c, s.k, s.x, s.b, ranL s.l⟩) h1 h2 rfl
      obtain ⟨hj2, ho2⟩ := hj.set (s' := ⟨s.t, s.e, s.n, s.c, s.k, s.x, true, ranL s.l⟩) 10 (.bool true) rfl rfl
      obtain ⟨hj3, ho3⟩ := hj2.set (s' := ⟨s.t, s.e, s.n + 1, s.c, s.k, s.x, true, ranL s.l⟩) 11 (.int .i64 (s.n + 1)) rfl rfl
      obtain ⟨hj4, ho4⟩ := hj3.set (s' := ⟨s.t, s.e, s.n + 1, s.c, s.k + 1, s.x, true, ranL s.l⟩) 13 (.int .i64 (s.k + 1)) rfl rfl
      have HF := Lib.hid (show PP (.int .i64 0) jb rb g ⟨s.t, s.e, s.n + 1, s.c, s.k + 1, s.x, true, ranL s.l⟩ w (.returned (.int .i64 0)) _ from ⟨rfl, hj4, ((((tri_below HB2.out).trans ho).trans ho2).trans ho3).trans ho4⟩)
      have f10 := hj.free 10
      have f11 := hj2.free 11
      have f13 := hj3.free 13
      have e10 : w2.cell? ⟨jb, 10, none⟩ = some (.bool s.b) := hj.cell 10
      have e11 : (w2.setCell ⟨jb, 10, none⟩ (.bool true)).cell? ⟨jb, 11, none⟩ = some (.int .i64 s.n) := hj2.cell 11
      have e13 : ((w2.setCell ⟨jb, 10, none⟩ (.bool true)).setCell ⟨jb, 11, none⟩ (.int .i64 (s.n + 1))).cell? ⟨jb, 13, none⟩ = some (.int .i64 s.k) := hj3.cell 13
      clear h1 h2 hj ho hj2 ho2 hj3 ho3 hj4 ho4 qfd qfe
      go_wp2_with fail
      go_ret
      exact HF.out
    · have HR := Lib.hid hr
      have hre : runE s = 250 := by unfold runE; rw [if_neg h3]; exact hr
      have hrj : runJ s = s := by unfold runJ; rw [if_neg h3, if_neg (by rw [hr]; decide)]
      rw [hre, hrj]
      clear hr hre hrj h3
      go_enter Try.func12, Try.ntmps12
      go_wp2_with fail
      refine HT.out.mono ?_
      rintro e w1 ⟨rfl, hb⟩
      have H1 := Lib.hid (H.out.below hb)
      have HB := Lib.hid hb
      have HT1 := Lib.hid (pj_toldL H1.out)
      clear hb H HT
      go_wp2_with fail
      refine HT1.out.mono ?_
      rintro e w1' ⟨rfl, hb⟩
      have H2 := Lib.hid (H1.out.below hb)
      have HB2 := Lib.hid (chn HB.out hb)
      have HC := Lib.hid (ran_any H2.out.rw HG.out)
      rw [HR.out] at HC
      clear hb H1 HT1 HB
      go_wp2_with fail
      refine HC.out.mono ?_
      rintro e w2 ⟨rfl, h1, h2⟩
      have HF := Lib.hid (show PP (.int .i64 250) jb rb g s w (.returned (.int .i64 250)) w2 from by
        have hl := ran_same HR.out
        rw [hl] at h1
        obtain ⟨hj, ho⟩ := H2.out.row (s' := s) h1 h2 rfl
        exact ⟨rfl, hj, (tri_below HB2.out).trans ho⟩)
      clear h1 h2 qfd qfe
      go_wp2_with fail
      go_ret
      exact HF.out
theorem pj_goto (h : PJ w jb rb g s) (a : Int) : Calls Try.prog 41 #[.pointer (some ⟨jb, 0, none⟩), .int .i64 a] w (PP (.tuple #[]) jb rb g ⟨s.t, s.e, s.n, a, 0, s.x, s.b, s.l⟩ w) := by
  obtain ⟨hj, ho⟩ := h.set (s' := ⟨s.t, s.e, s.n, a, s.k, s.x, s.b, s.l⟩) 12 (.int .i64 a) rfl rfl
  obtain ⟨hj2, ho2⟩ := hj.set (s' := ⟨s.t, s.e, s.n, a, 0, s.x, s.b, s.l⟩) 13 (.int .i64 0) rfl rfl
  have HF := Lib.hid (show PP (.tuple #[]) jb rb g ⟨s.t, s.e, s.n, a, 0, s.x, s.b, s.l⟩ w (.returned (.tuple #[])) _ from ⟨rfl, hj2, ho.trans ho2⟩)
  have f12 := h.free 12
  have f13 := hj.free 13
  have e12 : w.cell? ⟨jb, 12, none⟩ = some (.int .i64 s.c) := h.cell 12
  have e13 : (w.setCell ⟨jb, 12, none⟩ (.int .i64 a)).cell? ⟨jb, 13, none⟩ = some (.int .i64 s.k) := hj.cell 13
  clear h hj ho hj2 ho2
  go_enter Try.func41, Try.ntmps41
  go_wp2_with fail
  go_returns
  exact HF.out
theorem pj_take (h : PJ w jb rb g s) (a : Int) : Calls Try.prog 40 #[.pointer (some ⟨jb, 0, none⟩), .int .i64 a] w (IsB (s.c == 0 && a != 1) w) := by
  have e12 : w.cell? ⟨jb, 12, none⟩ = some (.int .i64 s.c) := h.cell 12
  clear h
  generalize s.c = c at *
  cases h0 : c == 0 with
  | false =>
    go_enter Try.func40, Try.ntmps40
    go_wp2_with fail
    go_ret
    exact ⟨rfl, rfl⟩
  | true =>
    go_enter Try.func40, Try.ntmps40
    go_wp2_with fail
    go_ret
    exact ⟨rfl, rfl⟩
theorem pj_wait (h : PJ w jb rb g s) (a : Int) : Calls Try.prog 56 #[.pointer (some ⟨jb, 0, none⟩), .int .i64 a] w (IsB (s.c == 3 && a == 2) w) := by
  have e12 : w.cell? ⟨jb, 12, none⟩ = some (.int .i64 s.c) := h.cell 12
  clear h
  generalize s.c = c at *
  cases h0 : c == 3 with
  | false =>
    go_enter Try.func56, Try.ntmps56
    go_wp2_with fail
    go_ret
    exact ⟨rfl, rfl⟩
  | true =>
    go_enter Try.func56, Try.ntmps56
    go_wp2_with fail
    go_ret
    exact ⟨rfl, rfl⟩
set_option maxHeartbeats 1000000
theorem pj_may_low (h : PJ w jb rb g s) (a : Int) (h1 : a < 1) : Calls Try.prog 39 #[.pointer (some ⟨jb, 0, none⟩), .int .i64 a] w (VB (.int .i64 2) w) := by
  have HI := Lib.hid (pj_is h)
  have H := Lib.hid h
  clear h
  have d1 : decide (a < 1) = true := by simpa using h1
  clear h1
  go_enter Try.func39, Try.ntmps39
  go_wp2_with fail
  refine HI.out.mono ?_
  rintro e w1 ⟨rfl, hb⟩
  have H1 := Lib.hid (H.out.below hb)
  have HB := Lib.hid hb
  have c12 : w1.cell? ⟨jb, 12, none⟩ = some (.int .i64 s.c) := H1.out.cell 12
  clear hb H HI
  go_wp2_with fail
  go_ret
  exact ⟨rfl, HB.out⟩
theorem pj_may_high (h : PJ w jb rb g s) (a : Int) (h1 : 3 < a) : Calls Try.prog 39 #[.pointer (some ⟨jb, 0, none⟩), .int .i64 a] w (VB (.int .i64 2) w) := by
  have HI := Lib.hid (pj_is h)
  have H := Lib.hid h
  clear h
  have d1 : decide (a < 1) = false := by simp; omega
  have d2 : decide (3 < a) = true := by simpa using h1
  clear h1
  go_enter Try.func39, Try.ntmps39
  go_wp2_with fail
  refine HI.out.mono ?_
  rintro e w1 ⟨rfl, hb⟩
  have H1 := Lib.hid (H.out.below hb)
  have HB := Lib.hid hb
  have c12 : w1.cell? ⟨jb, 12, none⟩ = some (.int .i64 s.c) := H1.out.cell 12
  clear hb H HI
  go_wp2_with fail
  go_ret
  exact ⟨rfl, HB.out⟩
theorem pj_may_nest (h : PJ w jb rb g s) (a : Int) (h1 : 1 ≤ a) (h2 : a ≤ 3) (h3 : s.c ≠ 0) (h4 : ¬ (s.c = 3 ∧ a = 2)) : Calls Try.prog 39 #[.pointer (some ⟨jb, 0, none⟩), .int .i64 a] w (VB (.int .i64 130) w) := by
  have HI := Lib.hid (pj_is h)
  have H := Lib.hid h
  clear h
  have d1 : decide (a < 1) = false := by simp; omega
  have d2 : decide (3 < a) = false := by simp; omega
  have d3 : (s.c != 0) = true := by simpa using h3
  have d3' : (s.c == 0) = false := by simpa using h3
  have hv : (s.c == 3 && a == 2) = false := by
    cases hq : (s.c == 3 && a == 2) with
    | false => rfl
    | true => exact absurd (by simpa using hq) h4
  have HV := Lib.hid hv
  clear h1 h2 h3 h4 hv
  go_enter Try.func39, Try.ntmps39
  go_wp2_with fail
  refine HI.out.mono ?_
  rintro e w1 ⟨rfl, hb⟩
  have H1 := Lib.hid (H.out.below hb)
  have HB := Lib.hid hb
  have c12 : w1.cell? ⟨jb, 12, none⟩ = some (.int .i64 s.c) := H1.out.cell 12
  clear hb H HI
  go_wp2_with fail
  have HW := pj_wait H1.out a
  rw [HV.out] at HW
  refine HW.mono ?_
  rintro e w2 ⟨rfl, rfl⟩
  go_wp2_with fail
  go_ret
  exact ⟨rfl, HB.out⟩
theorem pj_may_global (h : PJ w jb rb g s) (a : Int) (h3 : s.c = 3) (h4 : a = 2) : Calls Try.prog 39 #[.pointer (some ⟨jb, 0, none⟩), .int .i64 a] w (VB (.int .i64 0) w) := by
  have HI := Lib.hid (pj_is h)
  have H := Lib.hid h
  clear h
  subst h4
  have d1 : decide ((2 : Int) < 1) = false := by decide
  have d3 : (s.c != 0) = true := by simp; omega
  have hw : (s.c == 3 && (2 : Int) == 2) = true := by simp; omega
  have HW := Lib.hid hw
  have hv : (s.c == 0 && (2 : Int) != 1) = false := by simp; omega
  have HV := Lib.hid hv
  clear h3 hw hv
  go_enter Try.func39, Try.ntmps39
  go_wp2_with fail
  refine HI.out.mono ?_
  rintro e w1 ⟨rfl, hb⟩
  have H1 := Lib.hid (H.out.below hb)
  have HB := Lib.hid hb
  have c12 : w1.cell? ⟨jb, 12, none⟩ = some (.int .i64 s.c) := H1.out.cell 12
  clear hb H HI
  go_wp2_with fail
  have HW2 := pj_wait H1.out 2
  rw [HW.out] at HW2
  refine HW2.mono ?_
  clear HW
  rintro e w2 ⟨rfl, rfl⟩
  go_wp2_with fail
  have k8 : w1.cell? ⟨jb, 8, none⟩ = some (.int .i64 (s.t 7)) := H1.out.cell 8
  have k14 : w1.cell? ⟨jb, 14, none⟩ = some (.int .i64 s.x) := H1.out.cell 14
  have C1 := Lib.hid (fun d => pj_take (H1.out.drewN d) 2)
  rw [HV.out] at C1
  clear H1 c12 HV
  generalize s.t 7 = t7 at *
  generalize s.x = x at *
  go_quiet ((go_at_call 40; exact Calls.quiet_of_same ((C1.out _).mono fun _ _ ⟨e1, e2⟩ => ⟨e1, e2.symm⟩)))
  go_wp2_with fail
  go_ret
  exact ⟨rfl, below_drewN HB.out _⟩
theorem pj_may_local (h : PJ w jb rb g s) (a : Int) (h3 : s.c = 0) (h4 : a = 1) : Calls Try.prog 39 #[.pointer (some ⟨jb, 0, none⟩), .int .i64 a] w (VB (.int .i64 0) w) := by
  have HI := Lib.hid (pj_is h)
  have H := Lib.hid h
  clear h
  subst h4
  have d1 : decide ((1 : Int) < 1) = false := by decide
  have d3 : (s.c != 0) = false := by simp; omega
  have hv : (s.c == 0 && (1 : Int) != 1) = false := by simp
  have HV := Lib.hid hv
  clear h3 hv
  go_enter Try.func39, Try.ntmps39
  go_wp2_with fail
  refine HI.out.mono ?_
  rintro e w1 ⟨rfl, hb⟩
  have H1 := Lib.hid (H.out.below hb)
  have HB := Lib.hid hb
  have c12 : w1.cell? ⟨jb, 12, none⟩ = some (.int .i64 s.c) := H1.out.cell 12
  clear hb H HI
  go_wp2_with fail
  have k8 : w1.cell? ⟨jb, 8, none⟩ = some (.int .i64 (s.t 7)) := H1.out.cell 8
  have k14 : w1.cell? ⟨jb, 14, none⟩ = some (.int .i64 s.x) := H1.out.cell 14
  have C1 := Lib.hid (fun d => pj_take (H1.out.drewN d) 1)
  rw [HV.out] at C1
  clear H1 c12 HV
  generalize s.t 7 = t7 at *
  generalize s.x = x at *
  go_quiet ((go_at_call 40; exact Calls.quiet_of_same ((C1.out _).mono fun _ _ ⟨e1, e2⟩ => ⟨e1, e2.symm⟩)))
  go_wp2_with fail
  go_ret
  exact ⟨rfl, below_drewN HB.out _⟩
theorem pj_may_bound (h : PJ w jb rb g s) (a : Int) (h1 : 1 ≤ a) (h2 : a ≤ 3) (h3 : s.c = 0) (h4 : a ≠ 1) (h5 : s.t 7 ≤ s.x) : Calls Try.prog 39 #[.pointer (some ⟨jb, 0, none⟩), .int .i64 a] w (VB (.int .i64 170) w) := by
  have HI := Lib.hid (pj_is h)
  have H := Lib.hid h
  clear h
  have d1 : decide (a < 1) = false := by simp; omega
  have d2 : decide (3 < a) = false := by simp; omega
  have d3 : (s.c != 0) = false := by simp; omega
  have hv : (s.c == 0 && a != 1) = true := by simp; omega
  have d6 : decide (s.t 7 ≤ s.x) = true := by simpa using h5
  clear h1 h2 h4 h5
  have HV := Lib.hid hv
  clear h3 hv
  go_enter Try.func39, Try.ntmps39
  go_wp2_with fail
  refine HI.out.mono ?_
  rintro e w1 ⟨rfl, hb⟩
  have H1 := Lib.hid (H.out.below hb)
  have HB := Lib.hid hb
  have c12 : w1.cell? ⟨jb, 12, none⟩ = some (.int .i64 s.c) := H1.out.cell 12
  clear hb H HI
  go_wp2_with fail
  have k8 : w1.cell? ⟨jb, 8, none⟩ = some (.int .i64 (s.t 7)) := H1.out.cell 8
  have k14 : w1.cell? ⟨jb, 14, none⟩ = some (.int .i64 s.x) := H1.out.cell 14
  have C1 := Lib.hid (fun d => pj_take (H1.out.drewN d) a)
  rw [HV.out] at C1
  clear H1 c12 HV
  generalize s.t 7 = t7 at *
  generalize s.x = x at *
  go_quiet ((go_at_call 40; exact Calls.quiet_of_same ((C1.out _).mono fun _ _ ⟨e1, e2⟩ => ⟨e1, e2.symm⟩)))
  go_wp2_with fail
  go_ret
  exact ⟨rfl, below_drewN HB.out _⟩
theorem pj_may_take (h : PJ w jb rb g s) (a : Int) (h1 : 1 ≤ a) (h2 : a ≤ 3) (h3 : s.c = 0) (h4 : a ≠ 1) (h5 : ¬ s.t 7 ≤ s.x) : Calls Try.prog 39 #[.pointer (some ⟨jb, 0, none⟩), .int .i64 a] w (VB (.int .i64 0) w) := by
  have HI := Lib.hid (pj_is h)
  have H := Lib.hid h
  clear h
  have d1 : decide (a < 1) = false := by simp; omega
  have d2 : decide (3 < a) = false := by simp; omega
  have d3 : (s.c != 0) = false := by simp; omega
  have hv : (s.c == 0 && a != 1) = true := by simp; omega
  have d6 : decide (s.t 7 ≤ s.x) = false := by simpa using h5
  clear h1 h2 h4 h5
  have HV := Lib.hid hv
  clear h3 hv
  go_enter Try.func39, Try.ntmps39
  go_wp2_with fail
  refine HI.out.mono ?_
  rintro e w1 ⟨rfl, hb⟩
  have H1 := Lib.hid (H.out.below hb)
  have HB := Lib.hid hb
  have c12 : w1.cell? ⟨jb, 12, none⟩ = some (.int .i64 s.c) := H1.out.cell 12
  clear hb H HI
  go_wp2_with fail
  have k8 : w1.cell? ⟨jb, 8, none⟩ = some (.int .i64 (s.t 7)) := H1.out.cell 8
  have k14 : w1.cell? ⟨jb, 14, none⟩ = some (.int .i64 s.x) := H1.out.cell 14
  have C1 := Lib.hid (fun d => pj_take (H1.out.drewN d) a)
  rw [HV.out] at C1
  clear H1 c12 HV
  generalize s.t 7 = t7 at *
  generalize s.x = x at *
  go_quiet ((go_at_call 40; exact Calls.quiet_of_same ((C1.out _).mono fun _ _ ⟨e1, e2⟩ => ⟨e1, e2.symm⟩)))
  go_wp2_with fail
  go_ret
  exact ⟨rfl, below_drewN HB.out _⟩
theorem pj_may (h : PJ w jb rb g s) (a : Int) : Calls Try.prog 39 #[.pointer (some ⟨jb, 0, none⟩), .int .i64 a] w (VB (.int .i64 (entE s a)) w) := by
  unfold entE
  split
  · rename_i q
    rcases q with q | q
    · exact pj_may_low h a q
    · exact pj_may_high h a q
  rename_i q1
  split
  · rename_i q
    exact pj_may_global h a q.1 q.2
  rename_i q2
  split
  · rename_i q
    exact pj_may_nest h a (by omega) (by omega) q q2
  rename_i q3
  split
  · rename_i q
    exact pj_may_bound h a (by omega) (by omega) (by omega) q.1 q.2
  · rename_i q
    by_cases h1 : a = 1
    · exact pj_may_local h a (by omega) h1
    · exact pj_may_take h a (by omega) (by omega) (by omega) h1 (fun x => q ⟨h1, x⟩)
set_option maxHeartbeats 1000000 in
theorem pj_enter (h : PJ w jb rb g s) (hi : Inv s) (a : Int) : Calls Try.prog 14 #[.pointer (some ⟨jb, 0, none⟩), .int .i64 a] w (PP (.int .i64 (entE s a)) jb rb g (entJ s a) w) := by
  have HM := Lib.hid (pj_may h a)
  have H := Lib.hid h
  have hx0 := hi.x0
  have hxm : entE s a = 0 → s.c = 0 → a ≠ 1 → s.x ≤ 9223372036854775806 := fun he hc ha => by
    have := hi.tm
    unfold entE at he
    split at he
    · exact absurd he (by decide)
    split at he
    · omega
    split at he
    · exact absurd he (by decide)
    split at he
    · exact absurd he (by decide)
    · omega
  have HX := Lib.hid hxm
  clear h hi hxm
  by_cases he : entE s a = 0
  · have HE := Lib.hid he
    rw [he] at HM
    by_cases hc : s.c = 0 ∧ a ≠ 1
    · have hxm := HX.out he hc.1 hc.2
      have hv : (s.c == 0 && a != 1) = true := by simp; exact hc
      have HV := Lib.hid hv
      have hj : entJ s a = ⟨s.t, s.e, s.n, a, 0, s.x + 1, s.b, s.l⟩ := by unfold entJ; rw [if_pos he, if_pos hc]
      rw [he, hj]
      clear he hc hv hj HX
      go_enter Try.func14, Try.ntmps14
      go_wp2_with fail
      refine HM.out.mono ?_
      rintro e w1 ⟨rfl, hb⟩
      have H1 := Lib.hid (H.out.below hb)
      have HB := Lib.hid hb
      clear hb H HM
      go_wp2_with fail
      have HW := pj_take H1.out a
      rw [HV.out] at HW
      refine HW.mono ?_
      clear HW HV
      rintro e w2 ⟨rfl, rfl⟩
      obtain ⟨hj, ho⟩ := H1.out.set (s' := ⟨s.t, s.e, s.n, s.c, s.k, s.x + 1, s.b, s.l⟩) 14 (.int .i64 (s.x + 1)) rfl rfl
      have HJ := Lib.hid hj
      have HO := Lib.hid ((tri_below HB.out).trans ho)
      have f14 := H1.out.free 14
      have e14 : w1.cell? ⟨jb, 14, none⟩ = some (.int .i64 s.x) := H1.out.cell 14
      clear hj ho
      go_wp2_with fail
      refine (pj_goto HJ.out a).mono ?_
      rintro e w3 ⟨rfl, hj, ho⟩
      have HF := Lib.hid (show PP (.int .i64 0) jb rb g ⟨s.t, s.e, s.n, a, 0, s.x + 1, s.b, s.l⟩ w (.returned (.int .i64 0)) w3 from ⟨rfl, hj, HO.out.trans ho⟩)
      clear hj ho f14 e14
      go_wp2_with fail
      go_ret
      exact HF.out
    · have hv : (s.c == 0 && a != 1) = false := by
        cases hq : (s.c == 0 && a != 1) with
        | false => rfl
        | true => exact absurd (by simpa using hq) hc
      have HV := Lib.hid hv
      have hj : entJ s a = ⟨s.t, s.e, s.n, a, 0, s.x, s.b, s.l⟩ := by unfold entJ; rw [if_pos he, if_neg hc]
      rw [he, hj]
      clear he hc hv hj HX
      go_enter Try.func14, Try.ntmps14
      go_wp2_with fail
      refine HM.out.mono ?_
      rintro e w1 ⟨rfl, hb⟩
      have H1 := Lib.hid (H.out.below hb)
      have HB := Lib.hid hb
      clear hb H HM
      go_wp2_with fail
      have HW := pj_take H1.out a
      rw [HV.out] at HW
      refine HW.mono ?_
      clear HW HV
      rintro e w2 ⟨rfl, rfl⟩
      go_wp2_with fail
      refine (pj_goto H1.out a).mono ?_
      rintro e w3 ⟨rfl, hj, ho⟩
      have HF := Lib.hid (show PP (.int .i64 0) jb rb g ⟨s.t, s.e, s.n, a, 0, s.x, s.b, s.l⟩ w (.returned (.int .i64 0)) w3 from ⟨rfl, hj, (tri_below HB.out).trans ho⟩)
      clear hj ho
      go_wp2_with fail
      go_ret
      exact HF.out
  · have hj : entJ s a = s := if_neg he
    rw [hj]
    have hz : (entE s a == 0) = false := by simpa using he
    have hz2 : (entE s a != 0) = true := by simpa using he
    generalize entE s a = er at *
    clear he hj HX
    go_enter Try.func14, Try.ntmps14
    go_wp2_with fail
    refine HM.out.mono ?_
    rintro e w1 ⟨rfl, hb⟩
    have HF := Lib.hid (show PP (.int .i64 er) jb rb g s w (.returned (.int .i64 er)) w1 from ⟨rfl, H.out.below hb, tri_below hb⟩)
    clear hb H HM
    go_wp2_with fail
    go_ret
    exact HF.out
theorem pj_leave (h : PJ w jb rb g s) : Calls Try.prog 16 #[.pointer (some ⟨jb, 0, none⟩)] w (PP (.int .i64 (leaE s)) jb rb g (leaJ s) w) := by
  have HM := Lib.hid (pj_is h)
  have H := Lib.hid h
  clear h
  by_cases hc : s.c = 0
  · have hv : (s.c == 0) = true := by simpa using hc
    rw [show leaE s = 132 from if_pos hc, lea_same hc]
    clear hc
    go_enter Try.func16, Try.ntmps16
    go_wp2_with fail
    refine HM.out.mono ?_
    rintro e w1 ⟨rfl, hb⟩
    have c12 : w1.cell? ⟨jb, 12, none⟩ = some (.int .i64 s.c) := (H.out.below hb).cell 12
    have HF := Lib.hid (show PP (.int .i64 132) jb rb g s w (.returned (.int .i64 132)) w1 from ⟨rfl, H.out.below hb, tri_below hb⟩)
    clear hb H HM
    go_wp2_with fail
    go_ret
    exact HF.out
  · have hv : (s.c == 0) = false := by simpa using hc
    rw [show leaE s = 0 from if_neg hc, lea_out hc]
    clear hc
    go_enter Try.func16, Try.ntmps16
    go_wp2_with fail
    refine HM.out.mono ?_
    rintro e w1 ⟨rfl, hb⟩
    have H1 := Lib.hid (H.out.below hb)
    have HB := Lib.hid hb
    have c12 : w1.cell? ⟨jb, 12, none⟩ = some (.int .i64 s.c) := H1.out.cell 12
    clear hb H HM
    go_wp2_with fail
    clear c12
    refine (pj_goto H1.out 0).mono ?_
    rintro e w3 ⟨rfl, hj, ho⟩
    have HF := Lib.hid (show PP (.int .i64 0) jb rb g ⟨s.t, s.e, s.n, 0, 0, s.x, s.b, s.l⟩ w (.returned (.int .i64 0)) w3 from ⟨rfl, hj, (tri_below HB.out).trans ho⟩)
    clear hj ho
    go_wp2_with fail
    go_ret
    exact HF.out
set_option maxHeartbeats 1000000
theorem pj_long_no (h : PJ w jb rb g s) (q m : Int) (r : ByteArray) (h1 : s.c ≠ 1) (h2 : s.c ≠ 2) : Calls Try.prog 45 #[.pointer (some ⟨jb, 0, none⟩), .agg #[.int .i64 q, .int .i64 m, .string r]] w (VB (.bool false) w) := by
  have hb := below_al w (.cells #[.int .i64 q, .int .i64 m, .string r] 49)
  have h' := h.below hb
  have HB := Lib.hid hb
  have c5 : (w.alloc (.cells #[.int .i64 q, .int .i64 m, .string r] 49)).cell? ⟨jb, 5, none⟩ = some (.int .i64 (s.t 4)) := h'.cell 5
  have c7 : (w.alloc (.cells #[.int .i64 q, .int .i64 m, .string r] 49)).cell? ⟨jb, 7, none⟩ = some (.int .i64 (s.t 6)) := h'.cell 7
  have c12 : (w.alloc (.cells #[.int .i64 q, .int .i64 m, .string r] 49)).cell? ⟨jb, 12, none⟩ = some (.int .i64 s.c) := h'.cell 12
  have c13 : (w.alloc (.cells #[.int .i64 q, .int .i64 m, .string r] 49)).cell? ⟨jb, 13, none⟩ = some (.int .i64 s.k) := h'.cell 13
  obtain ⟨v0, v1, v2⟩ := (AB.new w q m r).cells
  have d1 : (s.c == 1) = false := by simpa using h1
  have d2 : (s.c == 2) = false := by simpa using h2
  clear h h' hb h1 h2
  generalize s.t 4 = t4 at *
  generalize s.t 6 = t6 at *
  generalize s.c = c at *
  generalize s.k = k at *
  go_enter Try.func45, Try.ntmps45
  go_wp2_with fail
  go_ret
  exact ⟨rfl, HB.out⟩
theorem pj_long_gyes (h : PJ w jb rb g s) (q m : Int) (r : ByteArray) (h2 : s.c = 2) (h3 : decide (s.t 6 ≤ s.k) = true) : Calls Try.prog 45 #[.pointer (some ⟨jb, 0, none⟩), .agg #[.int .i64 q, .int .i64 m, .string r]] w (VB (.bool true) w) := by
  have hb := below_al w (.cells #[.int .i64 q, .int .i64 m, .string r] 49)
  have h' := h.below hb
  have HB := Lib.hid hb
  have c5 : (w.alloc (.cells #[.int .i64 q, .int .i64 m, .string r] 49)).cell? ⟨jb, 5, none⟩ = some (.int .i64 (s.t 4)) := h'.cell 5
  have c7 : (w.alloc (.cells #[.int .i64 q, .int .i64 m, .string r] 49)).cell? ⟨jb, 7, none⟩ = some (.int .i64 (s.t 6)) := h'.cell 7
  have c12 : (w.alloc (.cells #[.int .i64 q, .int .i64 m, .string r] 49)).cell? ⟨jb, 12, none⟩ = some (.int .i64 s.c) := h'.cell 12
  have c13 : (w.alloc (.cells #[.int .i64 q, .int .i64 m, .string r] 49)).cell? ⟨jb, 13, none⟩ = some (.int .i64 s.k) := h'.cell 13
  obtain ⟨v0, v1, v2⟩ := (AB.new w q m r).cells
  have d2 : (s.c == 2) = true := by simpa using h2
  clear h h' hb h2
  generalize s.t 4 = t4 at *
  generalize s.t 6 = t6 at *
  generalize s.c = c at *
  generalize s.k = k at *
  go_enter Try.func45, Try.ntmps45
  go_wp2_with fail
  go_quiet (fail)
  go_wp2_with fail
  go_ret
  exact ⟨rfl, below_drewN HB.out _⟩
theorem pj_long_gno (h : PJ w jb rb g s) (q m : Int) (r : ByteArray) (h2 : s.c = 2) (h3 : decide (s.t 6 ≤ s.k) = false) : Calls Try.prog 45 #[.pointer (some ⟨jb, 0, none⟩), .agg #[.int .i64 q, .int .i64 m, .string r]] w (VB (.bool false) w) := by
  have hb := below_al w (.cells #[.int .i64 q, .int .i64 m, .string r] 49)
  have h' := h.below hb
  have HB := Lib.hid hb
  have c5 : (w.alloc (.cells #[.int .i64 q, .int .i64 m, .string r] 49)).cell? ⟨jb, 5, none⟩ = some (.int .i64 (s.t 4)) := h'.cell 5
  have c7 : (w.alloc (.cells #[.int .i64 q, .int .i64 m, .string r] 49)).cell? ⟨jb, 7, none⟩ = some (.int .i64 (s.t 6)) := h'.cell 7
  have c12 : (w.alloc (.cells #[.int .i64 q, .int .i64 m, .string r] 49)).cell? ⟨jb, 12, none⟩ = some (.int .i64 s.c) := h'.cell 12
  have c13 : (w.alloc (.cells #[.int .i64 q, .int .i64 m, .string r] 49)).cell? ⟨jb, 13, none⟩ = some (.int .i64 s.k) := h'.cell 13
  obtain ⟨v0, v1, v2⟩ := (AB.new w q m r).cells
  have d2 : (s.c == 2) = true := by simpa using h2
  clear h h' hb h2
  generalize s.t 4 = t4 at *
  generalize s.t 6 = t6 at *
  generalize s.c = c at *
  generalize s.k = k at *
  go_enter Try.func45, Try.ntmps45
  go_wp2_with fail
  go_quiet (fail)
  go_wp2_with fail
  go_ret
  exact ⟨rfl, below_drewN HB.out _⟩
theorem pj_long_lno (h : PJ w jb rb g s) (q m : Int) (r : ByteArray) (h1 : s.c = 1) (h3 : decide (s.t 4 ≤ s.k) = false) : Calls Try.prog 45 #[.pointer (some ⟨jb, 0, none⟩), .agg #[.int .i64 q, .int .i64 m, .string r]] w (VB (.bool false) w) := by
  have hb := below_al w (.cells #[.int .i64 q, .int .i64 m, .string r] 49)
  have h' := h.below hb
  have HB := Lib.hid hb
  have c5 : (w.alloc (.cells #[.int .i64 q, .int .i64 m, .string r] 49)).cell? ⟨jb, 5, none⟩ = some (.int .i64 (s.t 4)) := h'.cell 5
  have c7 : (w.alloc (.cells #[.int .i64 q, .int .i64 m, .string r] 49)).cell? ⟨jb, 7, none⟩ = some (.int .i64 (s.t 6)) := h'.cell 7
  have c12 : (w.alloc (.cells #[.int .i64 q, .int .i64 m, .string r] 49)).cell? ⟨jb, 12, none⟩ = some (.int .i64 s.c) := h'.cell 12
  have c13 : (w.alloc (.cells #[.int .i64 q, .int .i64 m, .string r] 49)).cell? ⟨jb, 13, none⟩ = some (.int .i64 s.k) := h'.cell 13
  obtain ⟨v0, v1, v2⟩ := (AB.new w q m r).cells
  have d1 : (s.c == 1) = true := by simpa using h1
  have d2 : (s.c == 2) = false := by simp; omega
  clear h h' hb h1
  generalize s.t 4 = t4 at *
  generalize s.t 6 = t6 at *
  generalize s.c = c at *
  generalize s.k = k at *
  go_enter Try.func45, Try.ntmps45
  go_wp2_with fail
  go_quiet (fail)
  go_wp2_with fail
  go_ret
  exact ⟨rfl, below_drewN HB.out _⟩
theorem pj_long_ltrue (h : PJ w jb rb g s) (q m : Int) (r : ByteArray) (h1 : s.c = 1) (h3 : decide (s.t 4 ≤ s.k) = true) (h4 : (q == 1) = true) : Calls Try.prog 45 #[.pointer (some ⟨jb, 0, none⟩), .agg #[.int .i64 q, .int .i64 m, .string r]] w (VB (.bool true) w) := by
  have hb := below_al w (.cells #[.int .i64 q, .int .i64 m, .string r] 49)
  have h' := h.below hb
  have HB := Lib.hid hb
  have c5 : (w.alloc (.cells #[.int .i64 q, .int .i64 m, .string r] 49)).cell? ⟨jb, 5, none⟩ = some (.int .i64 (s.t 4)) := h'.cell 5
  have c7 : (w.alloc (.cells #[.int .i64 q, .int .i64 m, .string r] 49)).cell? ⟨jb, 7, none⟩ = some (.int .i64 (s.t 6)) := h'.cell 7
  have c12 : (w.alloc (.cells #[.int .i64 q, .int .i64 m, .string r] 49)).cell? ⟨jb, 12, none⟩ = some (.int .i64 s.c) := h'.cell 12
  have c13 : (w.alloc (.cells #[.int .i64 q, .int .i64 m, .string r] 49)).cell? ⟨jb, 13, none⟩ = some (.int .i64 s.k) := h'.cell 13
  obtain ⟨v0, v1, v2⟩ := (AB.new w q m r).cells
  have d1 : (s.c == 1) = true := by simpa using h1
  have d2 : (s.c == 2) = false := by simp; omega
  clear h h' hb h1
  generalize s.t 4 = t4 at *
  generalize s.t 6 = t6 at *
  generalize s.c = c at *
  generalize s.k = k at *
  go_enter Try.func45, Try.ntmps45
  go_wp2_with fail
  go_quiet (fail)
  go_wp2_with fail
  go_ret
  exact ⟨rfl, below_drewN HB.out _⟩
theorem pj_long_lfalse (h : PJ w jb rb g s) (q m : Int) (r : ByteArray) (h1 : s.c = 1) (h3 : decide (s.t 4 ≤ s.k) = true) (h4 : (q == 1) = false) : Calls Try.prog 45 #[.pointer (some ⟨jb, 0, none⟩), .agg #[.int .i64 q, .int .i64 m, .string r]] w (VB (.bool false) w) := by
  have hb := below_al w (.cells #[.int .i64 q, .int .i64 m, .string r] 49)
  have h' := h.below hb
  have HB := Lib.hid hb
  have c5 : (w.alloc (.cells #[.int .i64 q, .int .i64 m, .string r] 49)).cell? ⟨jb, 5, none⟩ = some (.int .i64 (s.t 4)) := h'.cell 5
  have c7 : (w.alloc (.cells #[.int .i64 q, .int .i64 m, .string r] 49)).cell? ⟨jb, 7, none⟩ = some (.int .i64 (s.t 6)) := h'.cell 7
  have c12 : (w.alloc (.cells #[.int .i64 q, .int .i64 m, .string r] 49)).cell? ⟨jb, 12, none⟩ = some (.int .i64 s.c) := h'.cell 12
  have c13 : (w.alloc (.cells #[.int .i64 q, .int .i64 m, .string r] 49)).cell? ⟨jb, 13, none⟩ = some (.int .i64 s.k) := h'.cell 13
  obtain ⟨v0, v1, v2⟩ := (AB.new w q m r).cells
  have d1 : (s.c == 1) = true := by simpa using h1
  have d2 : (s.c == 2) = false := by simp; omega
  clear h h' hb h1
  generalize s.t 4 = t4 at *
  generalize s.t 6 = t6 at *
  generalize s.c = c at *
  generalize s.k = k at *
  go_enter Try.func45, Try.ntmps45
  go_wp2_with fail
  go_quiet (fail)
  go_wp2_with fail
  go_ret
  exact ⟨rfl, below_drewN HB.out _⟩
theorem pj_long (h : PJ w jb rb g s) (q m : Int) (r : ByteArray) : Calls Try.prog 45 #[.pointer (some ⟨jb, 0, none⟩), .agg #[.int .i64 q, .int .i64 m, .string r]] w (VB (.bool (decide (s.c = 2 ∧ s.t 6 ≤ s.k ∨ s.c = 1 ∧ s.t 4 ≤ s.k ∧ q = 1))) w) := by
  by_cases h2 : s.c = 2
  · by_cases h3 : s.t 6 ≤ s.k
    · rw [show decide (s.c = 2 ∧ s.t 6 ≤ s.k ∨ s.c = 1 ∧ s.t 4 ≤ s.k ∧ q = 1) = true from by simp; omega]
      exact pj_long_gyes h q m r h2 (by simpa using h3)
    · rw [show decide (s.c = 2 ∧ s.t 6 ≤ s.k ∨ s.c = 1 ∧ s.t 4 ≤ s.k ∧ q = 1) = false from by simp; omega]
      exact pj_long_gno h q m r h2 (by simpa using h3)
  · by_cases h1 : s.c = 1
    · by_cases h3 : s.t 4 ≤ s.k
      · by_cases h4 : q = 1
        · rw [show decide (s.c = 2 ∧ s.t 6 ≤ s.k ∨ s.c = 1 ∧ s.t 4 ≤ s.k ∧ q = 1) = true from by simp; omega]
          exact pj_long_ltrue h q m r h1 (by simpa using h3) (by simpa using h4)
        · rw [show decide (s.c = 2 ∧ s.t 6 ≤ s.k ∨ s.c = 1 ∧ s.t 4 ≤ s.k ∧ q = 1) = false from by simp; omega]
          exact pj_long_lfalse h q m r h1 (by simpa using h3) (by simpa using h4)
      · rw [show decide (s.c = 2 ∧ s.t 6 ≤ s.k ∨ s.c = 1 ∧ s.t 4 ≤ s.k ∧ q = 1) = false from by simp; omega]
        exact pj_long_lno h q m r h1 (by simpa using h3)
    · rw [show decide (s.c = 2 ∧ s.t 6 ≤ s.k ∨ s.c = 1 ∧ s.t 4 ≤ s.k ∧ q = 1) = false from by simp; omega]
      exact pj_long_no h q m r h1 h2
end
end Go.Proofs.Ytoggnofdgmhbmaa
