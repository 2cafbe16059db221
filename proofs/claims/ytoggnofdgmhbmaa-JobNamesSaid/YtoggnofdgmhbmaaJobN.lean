/- The program's job: New; what is asked of it, all. -/
import Derived.Test.YtoggnofdgmhbmaaJobL
namespace Go.Proofs.Ytoggnofdgmhbmaa
open Go.RowKit Go.Sort Ac Jo
set_option linter.unusedVariables false

theorem within_any (x a b : Int) (w : World) : Calls Try.prog 58 #[.int .i64 x, .int .i64 a, .int .i64 b] w (IsB (decide (a ≤ x) && decide (x ≤ b)) w) := by
  cases h0 : decide (a ≤ x) with
  | false =>
    go_enter Try.func58, Try.ntmps58
    go_wp2_with fail
    go_ret
    exact ⟨rfl, rfl⟩
  | true =>
    go_enter Try.func58, Try.ntmps58
    go_wp2_with fail
    go_ret
    exact ⟨rfl, rfl⟩
theorem tok_three (t : Nat → Int) : tok t = ((decide (1 ≤ t 0) && decide (t 0 ≤ 64)) && ((decide (1 ≤ t 1) && decide (t 1 ≤ t 0)) && (decide (1 ≤ t 2) && decide (t 2 ≤ t 1)))) := by
  unfold Jo.tok
  simp only [Bool.and_assoc]
set_option maxHeartbeats 2000000 in
theorem tm_one {w : World} {g : Nat} {t : Nat → Int} (h : TB1 w g t) : Calls Try.prog 47 #[.slice (some ⟨g, 0, none⟩) 1 1] w (YB (tok t) w) := by
  have c0 : w.cell? ⟨g, 0, none⟩ = some (.int .i64 (t 0)) := cell_of_row _ _ 0 _ _ _ h
  have c1 : w.cell? ⟨g, 0 + 1, none⟩ = some (.int .i64 (t 1)) := cell_of_row _ _ 1 _ _ _ h
  have c2 : w.cell? ⟨g, 0 + 2, none⟩ = some (.int .i64 (t 2)) := cell_of_row _ _ 2 _ _ _ h
  have c3 : w.cell? ⟨g, 0 + 3, none⟩ = some (.int .i64 (t 3)) := cell_of_row _ _ 3 _ _ _ h
  have c4 : w.cell? ⟨g, 0 + 4, none⟩ = some (.int .i64 (t 4)) := cell_of_row _ _ 4 _ _ _ h
  have c5 : w.cell? ⟨g, 0 + 5, none⟩ = some (.int .i64 (t 5)) := cell_of_row _ _ 5 _ _ _ h
  have c6 : w.cell? ⟨g, 0 + 6, none⟩ = some (.int .i64 (t 6)) := cell_of_row _ _ 6 _ _ _ h
  have c7 : w.cell? ⟨g, 0 + 7, none⟩ = some (.int .i64 (t 7)) := cell_of_row _ _ 7 _ _ _ h
  have HR := Lib.hid (tok_three t)
  have HW0 := Lib.hid (fun W => within_any (t 0) 1 64 W)
  have HW1 := Lib.hid (fun W => within_any (t 1) 1 (t 0) W)
  have HW2 := Lib.hid (fun W => within_any (t 2) 1 (t 1) W)
  have HB := Lib.hid (below_al w (.cells (tcs t) 23))
  unfold tcs at HB
  generalize tok t = R at *
  generalize (decide (1 ≤ t 0) && decide (t 0 ≤ 64)) = b0 at *
  generalize (decide (1 ≤ t 1) && decide (t 1 ≤ t 0)) = b1 at *
  generalize (decide (1 ≤ t 2) && decide (t 2 ≤ t 1)) = b2 at *
  clear h
  generalize t 0 = t0 at *
  generalize t 1 = t1 at *
  generalize t 2 = t2 at *
  generalize t 3 = t3 at *
  generalize t 4 = t4 at *
  generalize t 5 = t5 at *
  generalize t 6 = t6 at *
  generalize t 7 = t7 at *
  cases b0 with
  | false =>
    go_enter Try.func47, Try.ntmps47
    go_wp2_with fail
    refine wp_loop_rounds 2 ?_
    rw [rounds_succ]
    go_wp2_with fail
    refine (HW0.out _).mono ?_
    rintro e w1 ⟨rfl, rfl⟩
    go_wp2_with fail
    go_ret
    exact ⟨by rw [HR.out]; rfl, HB.out⟩
  | true =>
    cases b1 with
    | false =>
      go_enter Try.func47, Try.ntmps47
      go_wp2_with fail
      refine wp_loop_rounds 2 ?_
      rw [rounds_succ]
      go_wp2_with fail
      refine (HW0.out _).mono ?_
      rintro e w1 ⟨rfl, rfl⟩
      go_wp2_with fail
      refine (HW1.out _).mono ?_
      rintro e w1 ⟨rfl, rfl⟩
      go_wp2_with fail
      go_ret
      exact ⟨by rw [HR.out]; rfl, HB.out⟩
    | true =>
      cases b2 with
      | false =>
        go_enter Try.func47, Try.ntmps47
        go_wp2_with fail
        refine wp_loop_rounds 2 ?_
        rw [rounds_succ]
        go_wp2_with fail
        refine (HW0.out _).mono ?_
        rintro e w1 ⟨rfl, rfl⟩
        go_wp2_with fail
        refine (HW1.out _).mono ?_
        rintro e w1 ⟨rfl, rfl⟩
        go_wp2_with fail
        refine (HW2.out _).mono ?_
        rintro e w1 ⟨rfl, rfl⟩
        go_wp2_with fail
        go_ret
        exact ⟨by rw [HR.out]; rfl, HB.out⟩
      | true =>
        go_enter Try.func47, Try.ntmps47
        go_wp2_with fail
        refine wp_loop_rounds 2 ?_
        rw [rounds_succ]
        go_wp2_with fail
        refine (HW0.out _).mono ?_
        rintro e w1 ⟨rfl, rfl⟩
        go_wp2_with fail
        refine (HW1.out _).mono ?_
        rintro e w1 ⟨rfl, rfl⟩
        go_wp2_with fail
        refine (HW2.out _).mono ?_
        rintro e w1 ⟨rfl, rfl⟩
        go_wp2_with fail
        rw [rounds_succ]
        go_wp2_with fail
        go_ret
        exact ⟨by rw [HR.out]; rfl, HB.out⟩

theorem am_one {w : World} {g : Nat} (h : w.heap[g]? = some (.cells #[.int .i64 0] 3 (0, 0))) : Calls Try.prog 48 #[.slice (some ⟨g, 0, none⟩) 1 1] w (IsB true w) := by
  have c0 : w.cell? ⟨g, 0, none⟩ = some (.int .i64 0) := cell_of_row _ _ 0 _ _ _ h
  have HW := Lib.hid (fun W => within_any 0 0 4096 W)
  clear h
  go_enter Try.func48, Try.ntmps48
  go_wp2_with fail
  refine wp_loop_rounds 2 ?_
  rw [rounds_succ]
  go_wp2_with fail
  refine (HW.out _).mono ?_
  rintro e w1 ⟨rfl, rfl⟩
  go_wp2_with fail
  rw [rounds_succ]
  go_wp2_with fail
  go_ret
  exact ⟨rfl, rfl⟩
theorem ck_one {w : World} {g m : Nat} {t : Nat → Int} (h : TB1 w g t) (hm : w.heap[m]? = some (.cells #[.int .i64 0] 3 (0, 0))) : Calls Try.prog 28 #[.slice (some ⟨g, 0, none⟩) 1 1, .slice (some ⟨m, 0, none⟩) 1 1] w (VB (.int .i64 (if tok t then 0 else 2)) w) := by
  have HC := Lib.hid (tm_one h)
  have HM := Lib.hid hm
  clear h hm
  generalize tok t = R at *
  cases R with
  | false =>
    go_enter Try.func28, Try.ntmps28
    go_wp2_with fail
    refine HC.out.mono ?_
    rintro e w1 ⟨rfl, hb⟩
    have HB := Lib.hid hb
    clear hb
    go_wp2_with fail
    go_ret
    exact ⟨rfl, HB.out⟩
  | true =>
    go_enter Try.func28, Try.ntmps28
    go_wp2_with fail
    refine HC.out.mono ?_
    rintro e w1 ⟨rfl, hb⟩
    have HB := Lib.hid hb
    have HM1 := Lib.hid ((hb.block m (lt_of_block HM.out)).trans HM.out)
    clear hb
    go_wp2_with fail
    refine (am_one HM1.out).mono ?_
    rintro e w2 ⟨rfl, rfl⟩
    go_wp2_with fail
    go_ret
    exact ⟨rfl, HB.out⟩
set_option maxHeartbeats 2000000 in
theorem pn_task {w : World} {v : Value} {l : List Ak} (t : Nat → Int) (now : Int) (hv : AS w v l) (h : tok t = false) : Calls Try.prog 6 #[tv t, v, .int .i64 now] w (NoP 2 w) := by
  have hb0 := ((below_al w (.cells (tcs t) 23)).alloc (by simp) (.cells (tcs t) 23)).alloc (by simp; omega) (.cells #[.int .i64 0] 3)
  have HB := Lib.hid hb0
  have HV := Lib.hid (hv.below hb0)
  have hT : TB1 (((w.alloc (.cells (tcs t) 23)).alloc (.cells (tcs t) 23)).alloc (.cells #[.int .i64 0] 3)) (w.heap.size + 1) t := by
    have q : TB1 ((w.alloc (.cells (tcs t) 23)).alloc (.cells (tcs t) 23)) (w.alloc (.cells (tcs t) 23)).heap.size t := heap_alloc_new _ _
    rw [World.size_alloc] at q
    exact q.below (below_al _ _)
  have hM : (((w.alloc (.cells (tcs t) 23)).alloc (.cells (tcs t) 23)).alloc (.cells #[.int .i64 0] 3)).heap[w.heap.size + 1 + 1]? = some (.cells #[.int .i64 0] 3 (0, 0)) := by
    have q := heap_alloc_new ((w.alloc (.cells (tcs t) 23)).alloc (.cells (tcs t) 23)) (.cells #[.int .i64 0] 3)
    simp only [World.size_alloc] at q
    exact q
  have HC := ck_one hT hM
  rw [h] at HC
  have HC := Lib.hid HC
  clear h hb0 hT hM hv
  unfold tcs at HB HC HV
  unfold tv
  generalize t 0 = t0 at *
  generalize t 1 = t1 at *
  generalize t 2 = t2 at *
  generalize t 3 = t3 at *
  generalize t 4 = t4 at *
  generalize t 5 = t5 at *
  generalize t 6 = t6 at *
  generalize t 7 = t7 at *
  go_enter Try.func6, Try.ntmps6
  go_wp2_with fail
  refine HC.out.mono ?_
  rintro e w1 ⟨rfl, hb⟩
  have HB1 := Lib.hid (HB.out.trans (hb.mono HB.out.size))
  clear hb HC HB HV
  go_wp2_with fail
  go_ret2
  exact ⟨rfl, HB1.out⟩
set_option maxHeartbeats 2000000 in
theorem pn_neg {w : World} {v : Value} {l : List Ak} (t : Nat → Int) (now : Int) (hv : AS w v l) (h : tok t = true) (hn : now < 0) : Calls Try.prog 6 #[tv t, v, .int .i64 now] w (NoP 2 w) := by
  have hb0 := ((below_al w (.cells (tcs t) 23)).alloc (by simp) (.cells (tcs t) 23)).alloc (by simp; omega) (.cells #[.int .i64 0] 3)
  have HB := Lib.hid hb0
  have HV := Lib.hid (hv.below hb0)
  have hT : TB1 (((w.alloc (.cells (tcs t) 23)).alloc (.cells (tcs t) 23)).alloc (.cells #[.int .i64 0] 3)) (w.heap.size + 1) t := by
    have q : TB1 ((w.alloc (.cells (tcs t) 23)).alloc (.cells (tcs t) 23)) (w.alloc (.cells (tcs t) 23)).heap.size t := heap_alloc_new _ _
    rw [World.size_alloc] at q
    exact q.below (below_al _ _)
  have hM : (((w.alloc (.cells (tcs t) 23)).alloc (.cells (tcs t) 23)).alloc (.cells #[.int .i64 0] 3)).heap[w.heap.size + 1 + 1]? = some (.cells #[.int .i64 0] 3 (0, 0)) := by
    have q := heap_alloc_new ((w.alloc (.cells (tcs t) 23)).alloc (.cells (tcs t) 23)) (.cells #[.int .i64 0] 3)
    simp only [World.size_alloc] at q
    exact q
  have HC := ck_one hT hM
  rw [h] at HC
  have HC := Lib.hid HC
  have hd : decide (now < 0) = true := by simpa using hn
  clear h hb0 hT hM hv
  unfold tcs at HB HC HV
  unfold tv
  generalize t 0 = t0 at *
  generalize t 1 = t1 at *
  generalize t 2 = t2 at *
  generalize t 3 = t3 at *
  generalize t 4 = t4 at *
  generalize t 5 = t5 at *
  generalize t 6 = t6 at *
  generalize t 7 = t7 at *
  go_enter Try.func6, Try.ntmps6
  go_wp2_with fail
  refine HC.out.mono ?_
  rintro e w1 ⟨rfl, hb⟩
  have HB1 := Lib.hid (HB.out.trans (hb.mono HB.out.size))
  clear hb HC HB HV
  go_wp2_with fail
  go_ret2
  exact ⟨rfl, HB1.out⟩
set_option maxHeartbeats 2000000 in
theorem pn_over {w : World} {v : Value} {l : List Ak} (t : Nat → Int) (now : Int) (hv : AS w v l) (h : tok t = true) (hn : 0 ≤ now) (hm : 1099511627776 < now) : Calls Try.prog 6 #[tv t, v, .int .i64 now] w (NoP 10 w) := by
  have hb0 := ((below_al w (.cells (tcs t) 23)).alloc (by simp) (.cells (tcs t) 23)).alloc (by simp; omega) (.cells #[.int .i64 0] 3)
  have HB := Lib.hid hb0
  have HV := Lib.hid (hv.below hb0)
  have hT : TB1 (((w.alloc (.cells (tcs t) 23)).alloc (.cells (tcs t) 23)).alloc (.cells #[.int .i64 0] 3)) (w.heap.size + 1) t := by
    have q : TB1 ((w.alloc (.cells (tcs t) 23)).alloc (.cells (tcs t) 23)) (w.alloc (.cells (tcs t) 23)).heap.size t := heap_alloc_new _ _
    rw [World.size_alloc] at q
    exact q.below (below_al _ _)
  have hM : (((w.alloc (.cells (tcs t) 23)).alloc (.cells (tcs t) 23)).alloc (.cells #[.int .i64 0] 3)).heap[w.heap.size + 1 + 1]? = some (.cells #[.int .i64 0] 3 (0, 0)) := by
    have q := heap_alloc_new ((w.alloc (.cells (tcs t) 23)).alloc (.cells (tcs t) 23)) (.cells #[.int .i64 0] 3)
    simp only [World.size_alloc] at q
    exact q
  have HC := ck_one hT hM
  rw [h] at HC
  have HC := Lib.hid HC
  have hd : decide (now < 0) = false := by simp; omega
  have hd2 : decide (1099511627776 < now) = true := by simpa using hm
  clear h hb0 hT hM hv
  unfold tcs at HB HC HV
  unfold tv
  generalize t 0 = t0 at *
  generalize t 1 = t1 at *
  generalize t 2 = t2 at *
  generalize t 3 = t3 at *
  generalize t 4 = t4 at *
  generalize t 5 = t5 at *
  generalize t 6 = t6 at *
  generalize t 7 = t7 at *
  go_enter Try.func6, Try.ntmps6
  go_wp2_with fail
  refine HC.out.mono ?_
  rintro e w1 ⟨rfl, hb⟩
  have HB1 := Lib.hid (HB.out.trans (hb.mono HB.out.size))
  clear hb HC HB HV
  go_wp2_with fail
  go_ret2
  exact ⟨rfl, HB1.out⟩
set_option maxHeartbeats 2000000 in
theorem pn_err {w : World} {v : Value} {l : List Ak} (t : Nat → Int) (now : Int) (hv : AS w v l) (h : tok t = true) (hn : 0 ≤ now) (hm : now ≤ 1099511627776) {er : Int} (hne : er ≠ 0) (hr : ∀ (W : World) (v : Value), AS W v l → Calls Try.prog 29 #[v] W (NoP er W)) : Calls Try.prog 6 #[tv t, v, .int .i64 now] w (NoP er w) := by
  have hb0 := ((below_al w (.cells (tcs t) 23)).alloc (by simp) (.cells (tcs t) 23)).alloc (by simp; omega) (.cells #[.int .i64 0] 3)
  have HB := Lib.hid hb0
  have HV := Lib.hid (hv.below hb0)
  have hT : TB1 (((w.alloc (.cells (tcs t) 23)).alloc (.cells (tcs t) 23)).alloc (.cells #[.int .i64 0] 3)) (w.heap.size + 1) t := by
    have q : TB1 ((w.alloc (.cells (tcs t) 23)).alloc (.cells (tcs t) 23)) (w.alloc (.cells (tcs t) 23)).heap.size t := heap_alloc_new _ _
    rw [World.size_alloc] at q
    exact q.below (below_al _ _)
  have hM : (((w.alloc (.cells (tcs t) 23)).alloc (.cells (tcs t) 23)).alloc (.cells #[.int .i64 0] 3)).heap[w.heap.size + 1 + 1]? = some (.cells #[.int .i64 0] 3 (0, 0)) := by
    have q := heap_alloc_new ((w.alloc (.cells (tcs t) 23)).alloc (.cells (tcs t) 23)) (.cells #[.int .i64 0] 3)
    simp only [World.size_alloc] at q
    exact q
  have HC := ck_one hT hM
  rw [h] at HC
  have HC := Lib.hid HC
  have hd : decide (now < 0) = false := by simp; omega
  have hd2 : decide (1099511627776 < now) = false := by simp; omega
  have HQ := Lib.hid hr
  have hz : (er == 0) = false := by simpa using hne
  have hz2 : (er != 0) = true := by simpa using hne
  clear h hne hr hb0 hT hM hv
  unfold tcs at HB HC HV
  unfold tv
  generalize t 0 = t0 at *
  generalize t 1 = t1 at *
  generalize t 2 = t2 at *
  generalize t 3 = t3 at *
  generalize t 4 = t4 at *
  generalize t 5 = t5 at *
  generalize t 6 = t6 at *
  generalize t 7 = t7 at *
  go_enter Try.func6, Try.ntmps6
  go_wp2_with fail
  refine HC.out.mono ?_
  rintro e w1 ⟨rfl, hb⟩
  have HB1 := Lib.hid (HB.out.trans (hb.mono HB.out.size))
  have HV1 := Lib.hid (HV.out.below hb)
  clear hb HC HB HV
  go_wp2_with fail
  refine (HQ.out _ _ HV1.out).mono ?_
  rintro e w2 ⟨rfl, hb⟩
  have HB2 := Lib.hid (HB1.out.trans (hb.mono HB1.out.size))
  clear hb HB1 HV1
  go_wp2_with fail
  go_ret2
  exact ⟨rfl, HB2.out⟩
/-- a job is answered -/
def PNew (s : Jb) (w : World) (e : Ending) (w' : World) : Prop :=
  ∃ jb rb g, e = .returned (.tuple #[.pointer (some ⟨jb, 0, none⟩), .int .i64 0]) ∧ PJ w' jb rb g s ∧ w.heap.size ≤ jb ∧ w.heap.size ≤ rb ∧ w.heap.size ≤ g ∧ Below w.heap.size w w'
set_option maxHeartbeats 2000000 in
theorem pn_ok {w : World} {v : Value} {l : List Ak} (t : Nat → Int) (now : Int) (hv : AS w v l) (h : tok t = true) (hn : 0 ≤ now) (hm : now ≤ 1099511627776) (hg : Gd l) : Calls Try.prog 6 #[tv t, v, .int .i64 now] w (PNew (fresh t (now + t 1) l) w) := by
  have hb0 := ((below_al w (.cells (tcs t) 23)).alloc (by simp) (.cells (tcs t) 23)).alloc (by simp; omega) (.cells #[.int .i64 0] 3)
  have HB := Lib.hid hb0
  have HV := Lib.hid (hv.below hb0)
  have hT : TB1 (((w.alloc (.cells (tcs t) 23)).alloc (.cells (tcs t) 23)).alloc (.cells #[.int .i64 0] 3)) (w.heap.size + 1) t := by
    have q : TB1 ((w.alloc (.cells (tcs t) 23)).alloc (.cells (tcs t) 23)) (w.alloc (.cells (tcs t) 23)).heap.size t := heap_alloc_new _ _
    rw [World.size_alloc] at q
    exact q.below (below_al _ _)
  have hM : (((w.alloc (.cells (tcs t) 23)).alloc (.cells (tcs t) 23)).alloc (.cells #[.int .i64 0] 3)).heap[w.heap.size + 1 + 1]? = some (.cells #[.int .i64 0] 3 (0, 0)) := by
    have q := heap_alloc_new ((w.alloc (.cells (tcs t) 23)).alloc (.cells (tcs t) 23)) (.cells #[.int .i64 0] 3)
    simp only [World.size_alloc] at q
    exact q
  have HC := ck_one hT hM
  rw [h] at HC
  have HC := Lib.hid HC
  have hd : decide (now < 0) = false := by simp; omega
  have hd2 : decide (1099511627776 < now) = false := by simp; omega
  have HG := Lib.hid hg
  have hbd := tok_bd h
  have ht0 : 1 ≤ t 1 := hbd.2.2.1
  have ht1 : t 1 ≤ 64 := by omega
  have HF : Hid (∀ (w2 w3 : World) (rb g : Nat), Below w.heap.size w w2 → PR w3 rb g l → w2.heap.size ≤ rb → w2.heap.size ≤ g → g < w3.heap.size → Below w2.heap.size w2 w3 →
      PNew (fresh t (now + t 1) l) w (.returned (.tuple #[.pointer (some ⟨w3.heap.size, 0, none⟩), .int .i64 0])) (w3.alloc (.cells #[.pointer (some ⟨rb, 0, none⟩), .int .i64 (t 0), .int .i64 (t 1), .int .i64 (t 2), .int .i64 (t 3), .int .i64 (t 4), .int .i64 (t 5), .int .i64 (t 6), .int .i64 (t 7), .int .i64 (now + t 1), .bool false, .int .i64 0, .int .i64 0, .int .i64 0, .int .i64 0] 59))) :=
    fun w2 w3 rb g hb hdr h1 h2 h3 hb3 => by
      have hs := hb.size
      have hs3 := hb3.size
      have hlt := hdr.lt
      exact ⟨w3.heap.size, rb, g, rfl, ⟨heap_alloc_new w3 _, hdr.below (below_al w3 _), by simp; omega, by omega, by omega⟩, by omega, by omega, by omega, ((hb.trans (hb3.mono hs)).trans ((below_al w3 _).mono (by omega)))⟩
  have HT : Hid (TB1 (((w.alloc (.cells (tcs t) 23)).alloc (.cells (tcs t) 23)).alloc (.cells #[.int .i64 0] 3)) w.heap.size t) := (show TB1 (w.alloc (.cells (tcs t) 23)) w.heap.size t from heap_alloc_new w _).below ((below_al _ _).alloc (by simp) _)
  have HCells : Hid (∀ W, Below (((w.alloc (.cells (tcs t) 23)).alloc (.cells (tcs t) 23)).alloc (.cells #[.int .i64 0] 3)).heap.size (((w.alloc (.cells (tcs t) 23)).alloc (.cells (tcs t) 23)).alloc (.cells #[.int .i64 0] 3)) W →
      W.cell? ⟨w.heap.size, 0, none⟩ = some (.int .i64 (t 0)) ∧ W.cell? ⟨w.heap.size, 0 + 1, none⟩ = some (.int .i64 (t 1)) ∧ W.cell? ⟨w.heap.size, 0 + 2, none⟩ = some (.int .i64 (t 2)) ∧ W.cell? ⟨w.heap.size, 0 + 3, none⟩ = some (.int .i64 (t 3)) ∧ W.cell? ⟨w.heap.size, 0 + 4, none⟩ = some (.int .i64 (t 4)) ∧ W.cell? ⟨w.heap.size, 0 + 5, none⟩ = some (.int .i64 (t 5)) ∧ W.cell? ⟨w.heap.size, 0 + 6, none⟩ = some (.int .i64 (t 6)) ∧ W.cell? ⟨w.heap.size, 0 + 7, none⟩ = some (.int .i64 (t 7))) := fun W hW => by
    have q := HT.out.below hW
    exact ⟨cell_of_row _ _ 0 _ _ _ q, cell_of_row _ _ 1 _ _ _ q, cell_of_row _ _ 2 _ _ _ q, cell_of_row _ _ 3 _ _ _ q, cell_of_row _ _ 4 _ _ _ q, cell_of_row _ _ 5 _ _ _ q, cell_of_row _ _ 6 _ _ _ q, cell_of_row _ _ 7 _ _ _ q⟩
  clear HT hbd hg
  clear h hb0 hT hM hv
  unfold tcs at HB HC HV HCells
  unfold tv
  generalize t 0 = t0 at *
  generalize t 1 = t1 at *
  generalize t 2 = t2 at *
  generalize t 3 = t3 at *
  generalize t 4 = t4 at *
  generalize t 5 = t5 at *
  generalize t 6 = t6 at *
  generalize t 7 = t7 at *
  go_enter Try.func6, Try.ntmps6
  go_wp2_with fail
  refine HC.out.mono ?_
  rintro e w1 ⟨rfl, hb⟩
  have HB1 := Lib.hid (HB.out.trans (hb.mono HB.out.size))
  have HV1 := Lib.hid (HV.out.below hb)
  have HB0 := Lib.hid hb
  clear hb HC HB HV
  go_wp2_with fail
  refine (new_yes HV1.out HG.out).mono ?_
  rintro e w2 ⟨rb, g, rfl, hdr, h1, h2, h3, hb⟩
  obtain ⟨c0, c1, c2, c3, c4, c5, c6, c7⟩ := HCells.out w2 (chn HB0.out hb)
  have HE := Lib.hid (HF.out w1 w2 rb g HB1.out hdr h1 h2 h3 hb)
  clear hdr h1 h2 h3 hb HF HB0 HB1 HCells HV1
  go_wp2_with fail
  go_ret2
  exact HE.out
/-- the program's job, as it is asked -/
def prgJ (w : World) (jb : Nat) (S : Nat → Prop) (s : Jb) : Prop := ∃ rb g, S = Tri jb rb g ∧ PJ w jb rb g s
theorem prg_of {w : World} {jb rb g : Nat} {s : Jb} {v : Value} {e : Ending} {w' : World} (h : PP v jb rb g s w e w') : QP prgJ v jb (Tri jb rb g) s w e w' := ⟨h.1, ⟨rb, g, rfl, h.2.1⟩, h.2.2⟩
def Q0 : Prg where
  J := prgJ
  lt := by
    rintro w jb S s ⟨rb, g, rfl, h⟩ k (rfl | rfl | rfl)
    · exact h.lt
    · exact h.rw.lt
    · exact h.gl
  keep := by
    rintro w w' jb S s ⟨rb, g, rfl, h⟩ q
    exact ⟨rb, g, rfl, ⟨(q jb (Or.inl rfl)).trans h.ob, h.rw.keep (q rb (Or.inr (Or.inl rfl))) (fun _ => q g (Or.inr (Or.inr rfl))), by
      have := h.gl
      have hq := q g (Or.inr (Or.inr rfl))
      rw [Array.getElem?_eq_getElem this] at hq
      exact lt_of_block hq, h.n1, h.n2⟩⟩
  next := by rintro w jb S s ⟨rb, g, rfl, h⟩ hi; exact pj_next h
  did := by rintro w jb S s ⟨rb, g, rfl, h⟩ hi; exact (pj_did h hi).mono fun _ _ q => prg_of q
  run := by rintro w jb S s ⟨rb, g, rfl, h⟩ hi; exact (pj_run h hi).mono fun _ _ q => prg_of q
  enter := by rintro w jb S s ⟨rb, g, rfl, h⟩ hi a; exact (pj_enter h hi a).mono fun _ _ q => prg_of q
  leave := by rintro w jb S s ⟨rb, g, rfl, h⟩ hi; exact (pj_leave h).mono fun _ _ q => prg_of q
  fault := by rintro w jb S s ⟨rb, g, rfl, h⟩ hi now; exact pj_fault h hi now
  deadline := by rintro w jb S s ⟨rb, g, rfl, h⟩ hi; exact pj_dead h
  ran := by rintro w jb S s ⟨rb, g, rfl, h⟩ hi; exact pj_ran h
  into := by rintro w jb S s ⟨rb, g, rfl, h⟩ hi; exact pj_into h
  takes := by rintro w jb S s ⟨rb, g, rfl, h⟩ hi; exact pj_takes h
  begun := by rintro w jb S s ⟨rb, g, rfl, h⟩ hi; exact pj_begun h
  done := by rintro w jb S s ⟨rb, g, rfl, h⟩ hi; exact pj_done h
  newArg := fun t now hv h => by
    rcases h with h | ⟨h, hn⟩
    · exact pn_task t now hv h
    · exact pn_neg t now hv h hn
  newOver := fun t now hv h hn hm => pn_over t now hv h hn hm
  newErr := fun {w v l} t now hv h hn hm hg => by
    rcases newE_or l with ⟨hl, he⟩ | ⟨h2, _⟩ | ⟨hl, h2, he⟩
    · rw [he]; exact pn_err t now hv h hn hm (by decide) (fun W v q => new_lim q hl)
    · exact absurd h2 hg
    · rw [he]; exact pn_err t now hv h hn hm (by decide) (fun W v q => new_no q hl h2)
  newOk := fun t now hv h hn hm hg => (pn_ok t now hv h hn hm hg).mono fun e w' ⟨jb, rb, g, e1, e2, h1, h2, h3, h4⟩ => ⟨jb, Tri jb rb g, e1, ⟨rb, g, rfl, e2⟩, by rintro k (rfl | rfl | rfl); exact h1; exact h2; exact h3, h4⟩
end Go.Proofs.Ytoggnofdgmhbmaa
