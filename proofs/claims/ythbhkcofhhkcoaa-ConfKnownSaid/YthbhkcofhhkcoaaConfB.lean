/- Which numbers may be: a task, a server, a port. -/
import Derived.Test.YthbhkcofhhkcoaaConfA
namespace Go.Proofs.Ythbhkcofhhkcoaa
open Go.RowKit Pk Cn
set_option linter.unusedVariables false

theorem within_any (n l h : Int) (w : World) : Calls Try.prog 23 #[.int .i64 n, .int .i64 l, .int .i64 h] w (IsB (wi n l h) w) := by
  unfold wi
  cases h0 : decide (l ≤ n) with
  | false =>
    go_enter Try.func23, Try.ntmps23
    go_wp2
    go_ret
    exact ⟨by simp, rfl⟩
  | true =>
    go_enter Try.func23, Try.ntmps23
    go_wp2
    go_ret
    exact ⟨by simp, rfl⟩

theorem within_fit {n l h : Int} {r : Bool} (hr : wi n l h = r) (w : World) : Calls Try.prog 23 #[.int .i64 n, .int .i64 l, .int .i64 h] w (fun e w' => e = .returned (.bool r) ∧ w' = w) := by subst hr; exact (within_any n l h w).mono fun _ _ h => ⟨h.1, h.2.symm⟩

set_option maxHeartbeats 1000000 in
theorem times_any (t : Tk) (w : World) : Calls Try.prog 40 #[tkv t] w (YB (mayTimes t) w) := by
  obtain ⟨p, d, b, l, o, g, n, k⟩ := t
  unfold mayTimes tkv
  dsimp only
  have H1 := Lib.hid (within_any p 1 64); have H2 := Lib.hid (within_any d 1 p); have H3 := Lib.hid (within_any b 1 d)
  generalize wi p 1 64 = x1 at *
  generalize wi d 1 p = x2 at *
  generalize wi b 1 d = x3 at *
  cases x1 with
  | false =>
    go_enter Try.func40, Try.ntmps40
    go_wp2_with fail
    refine (H1.out _).mono ?_
    rintro e w1 ⟨rfl, rfl⟩
    go_wp2_with fail
    go_ret
    exact ⟨by simp, (Below.refl _ w).alloc (Nat.le_refl _) _⟩
  | true =>
    cases x2 with
    | false =>
      go_enter Try.func40, Try.ntmps40
      go_wp2_with fail
      refine (H1.out _).mono ?_
      rintro e w1 ⟨rfl, rfl⟩
      go_wp2_with fail
      refine (H2.out _).mono ?_
      rintro e w1 ⟨rfl, rfl⟩
      go_wp2_with fail
      go_ret
      exact ⟨by simp, (Below.refl _ w).alloc (Nat.le_refl _) _⟩
    | true =>
      go_enter Try.func40, Try.ntmps40
      go_wp2_with fail
      refine (H1.out _).mono ?_
      rintro e w1 ⟨rfl, rfl⟩
      go_wp2_with fail
      refine (H2.out _).mono ?_
      rintro e w1 ⟨rfl, rfl⟩
      go_wp2_with fail
      refine (H3.out _).mono ?_
      rintro e w1 ⟨rfl, rfl⟩
      go_wp2_with fail
      go_ret
      exact ⟨by simp, (Below.refl _ w).alloc (Nat.le_refl _) _⟩

set_option maxHeartbeats 1000000 in
theorem locals_any (t : Tk) (w : World) : Calls Try.prog 41 #[tkv t] w (YB (mayLocals t) w) := by
  obtain ⟨p, d, b, l, o, g, n, k⟩ := t
  unfold mayLocals tkv
  dsimp only
  cases h0 : l == 0 with
  | true =>
    rw [if_pos (by simpa using h0)]
    go_enter Try.func41, Try.ntmps41
    go_wp2_with fail
    go_ret
    exact ⟨by simp, (Below.refl _ w).alloc (Nat.le_refl _) _⟩
  | false =>
    rw [if_neg (by simpa using h0)]
    have H1 := Lib.hid (within_any l 1 255); have H2 := Lib.hid (within_any o 1 b)
    generalize wi l 1 255 = x1 at *
    generalize wi o 1 b = x2 at *
    cases x1 with
    | false =>
      go_enter Try.func41, Try.ntmps41
      go_wp2_with fail
      refine (H1.out _).mono ?_
      rintro e w1 ⟨rfl, rfl⟩
      go_wp2_with fail
      go_ret
      exact ⟨by simp, (Below.refl _ w).alloc (Nat.le_refl _) _⟩
    | true =>
      go_enter Try.func41, Try.ntmps41
      go_wp2_with fail
      refine (H1.out _).mono ?_
      rintro e w1 ⟨rfl, rfl⟩
      go_wp2_with fail
      refine (H2.out _).mono ?_
      rintro e w1 ⟨rfl, rfl⟩
      go_wp2_with fail
      go_ret
      exact ⟨by simp, (Below.refl _ w).alloc (Nat.le_refl _) _⟩

/-- the cells of a task that a call has boxed -/
structure TZ (w : World) (b : Nat) (t : Tk) : Prop where
  z0 : w.cell? ⟨b, 0, none⟩ = some (.int .i64 t.p)
  z1 : w.cell? ⟨b, 1, none⟩ = some (.int .i64 t.d)
  z2 : w.cell? ⟨b, 2, none⟩ = some (.int .i64 t.b)
  z3 : w.cell? ⟨b, 3, none⟩ = some (.int .i64 t.l)
  z4 : w.cell? ⟨b, 4, none⟩ = some (.int .i64 t.o)
  z5 : w.cell? ⟨b, 5, none⟩ = some (.int .i64 t.g)
  z6 : w.cell? ⟨b, 6, none⟩ = some (.int .i64 t.n)
  z7 : w.cell? ⟨b, 7, none⟩ = some (.int .i64 t.k)
def tkc (t : Tk) : Array Value := #[.int .i64 t.p, .int .i64 t.d, .int .i64 t.b, .int .i64 t.l, .int .i64 t.o, .int .i64 t.g, .int .i64 t.n, .int .i64 t.k]
theorem tz_of {w : World} {b : Nat} {t : Tk} (h : w.heap[b]? = some (.cells (tkc t) 30 (0, 0))) : TZ w b t :=
  ⟨cell_of_row w b 0 _ _ _ h, cell_of_row w b 1 _ _ _ h, cell_of_row w b 2 _ _ _ h, cell_of_row w b 3 _ _ _ h, cell_of_row w b 4 _ _ _ h, cell_of_row w b 5 _ _ _ h, cell_of_row w b 6 _ _ _ h, cell_of_row w b 7 _ _ _ h⟩
theorem tz_box {w w' : World} {t : Tk} (b : Below (w.alloc (.cells (tkc t) 30)).heap.size (w.alloc (.cells (tkc t) 30)) w') : TZ w' w.heap.size t :=
  tz_of ((b.block _ (by simp)).trans (heap_alloc_new w _))
theorem TZ.below {w w' : World} {b : Nat} {t : Tk} (h : TZ w b t) (q : Below w.heap.size w w') : TZ w' b t := by
  have k : ∀ {p x}, w.cell? p = some x → w'.cell? p = some x := fun hp => (q.cell (lt_of_cell hp)).trans hp
  exact ⟨k h.z0, k h.z1, k h.z2, k h.z3, k h.z4, k h.z5, k h.z6, k h.z7⟩

theorem below_drewN {B : Nat} {a b : World} (h : Below B a b) (n : Nat) : Below B a (b.drewN n) := ⟨h.os, h.tape, h.output, h.size, h.block⟩
set_option maxHeartbeats 1000000 in
theorem global_any (t : Tk) (bud : Int) (w : World) (h : mayTimes t = true) : Calls Try.prog 42 #[tkv t, .int .i64 bud] w (YB (mayGlobal t bud) w) := by
  have ht := mayTimes_yes h
  clear h
  have BX := tz_of (heap_alloc_new w (.cells (tkc t) 30))
  obtain ⟨p, d, b, l, o, g, n, k⟩ := t
  unfold mayGlobal tkv
  dsimp only [tkc] at ht BX ⊢
  obtain ⟨z0, z1, z2, z3, z4, z5, z6, z7⟩ := BX
  dsimp only at z0 z1 z2 z3 z4 z5 z6 z7
  cases h0 : g == 0 with
  | true =>
    rw [if_pos (by simpa using h0)]
    cases h1 : n == 0 with
    | false =>
      go_enter Try.func42, Try.ntmps42
      go_wp2_with fail
      go_ret
      exact ⟨by simp, (Below.refl _ w).alloc (Nat.le_refl _) _⟩
    | true =>
      go_enter Try.func42, Try.ntmps42
      go_wp2_with fail
      go_ret
      exact ⟨by simp, (Below.refl _ w).alloc (Nat.le_refl _) _⟩
  | false =>
    rw [if_neg (by simpa using h0)]
    cases x1 : wi g 1 4 with
    | false =>
      go_enter Try.func42, Try.ntmps42
      go_wp2_with fail
      go_quiet ((go_at_call 23; exact Calls.quiet_of_same (within_fit (by assumption) _)))
      go_wp2_with fail
      go_ret
      exact ⟨by simp, below_drewN ((Below.refl _ w).alloc (Nat.le_refl _) _) _⟩
    | true =>
      cases x2 : wi n 1 bud with
      | false =>
        go_enter Try.func42, Try.ntmps42
        go_wp2_with fail
        go_quiet ((go_at_call 23; exact Calls.quiet_of_same (within_fit (by assumption) _)))
        go_wp2_with fail
        go_ret
        exact ⟨by simp, below_drewN ((Below.refl _ w).alloc (Nat.le_refl _) _) _⟩
      | true =>
        have hn := (wi_yes x2).1
        have hz : (n == 0) = false := by simp; omega
        have hq1 : b.tdiv n ≤ b := Int.tdiv_le_self _ (by omega)
        have hq2 : 0 ≤ b.tdiv n := Int.tdiv_nonneg (by omega) (by omega)
        have hw : wrap64 (b.tdiv n) = b.tdiv n := by unfold wrap64; omega
        have hw2 : IntKind.i64.wrap (b.tdiv n) = b.tdiv n := by simp [IntKind.wrap, IntKind.bits, IntKind.signed]; omega
        obtain ⟨x3v, x3⟩ : ∃ v, wi k 1 (b.tdiv n) = v := ⟨_, rfl⟩
        rw [x3]
        clear hq1 hq2
        go_enter Try.func42, Try.ntmps42
        go_wp2_with fail
        go_quiet ((go_at_call 23; exact Calls.quiet_of_same (within_fit (by assumption) _)))
        go_wp2_with fail
        go_ret
        exact ⟨by simp, below_drewN ((Below.refl _ w).alloc (Nat.le_refl _) _) _⟩

set_option maxHeartbeats 1000000 in
theorem task_any (t : Tk) (bud : Int) (w : World) : Calls Try.prog 25 #[tkv t, .int .i64 bud] w (YB (mayTask t bud) w) := by
  unfold mayTask
  have H1 := Lib.hid (times_any t); have H2 := Lib.hid (locals_any t); have H3 := Lib.hid (global_any t bud)
  generalize mayTimes t = x1 at *
  generalize mayLocals t = x2 at *
  generalize mayGlobal t bud = x3 at *
  have BX := Lib.hid (fun w' => tz_box (w := w) (w' := w') (t := t))
  obtain ⟨p, d, b, l, o, g, n, k⟩ := t
  unfold tkv at *
  dsimp only [tkc] at *
  cases x1 with
  | false =>
    go_enter Try.func25, Try.ntmps25
    go_wp2_with fail
    refine (H1.out _).mono ?_
    rintro e w1 ⟨rfl, hb1⟩
    have HB1 := Lib.hid (((Below.refl _ w).alloc (Nat.le_refl _) _).trans (hb1.mono (by simp)))
    clear hb1
    go_wp2_with fail
    go_ret
    exact ⟨rfl, HB1.out⟩
  | true =>
    cases x2 with
    | false =>
      go_enter Try.func25, Try.ntmps25
      go_wp2_with fail
      refine (H1.out _).mono ?_
      rintro e w1 ⟨rfl, hb1⟩
      obtain ⟨z0, z1, z2, z3, z4, z5, z6, z7⟩ := BX.out _ hb1
      have HB1 := Lib.hid (((Below.refl _ w).alloc (Nat.le_refl _) _).trans (hb1.mono (by simp)))
      clear hb1
      go_wp2_with fail
      refine (H2.out _).mono ?_
      rintro e w2 ⟨rfl, hb2⟩
      have HB2 := Lib.hid (chn HB1.out hb2)
      clear hb2
      go_wp2_with fail
      go_ret
      exact ⟨rfl, HB2.out⟩
    | true =>
      go_enter Try.func25, Try.ntmps25
      go_wp2_with fail
      refine (H1.out _).mono ?_
      rintro e w1 ⟨rfl, hb1⟩
      have TT := BX.out _ hb1
      have HT := Lib.hid TT
      obtain ⟨z0, z1, z2, z3, z4, z5, z6, z7⟩ := TT
      have HB1 := Lib.hid (((Below.refl _ w).alloc (Nat.le_refl _) _).trans (hb1.mono (by simp)))
      clear hb1
      go_wp2_with fail
      refine (H2.out _).mono ?_
      rintro e w2 ⟨rfl, hb2⟩
      clear z0 z1 z2 z3 z4 z5 z6 z7
      obtain ⟨z0, z1, z2, z3, z4, z5, z6, z7⟩ := HT.out.below hb2
      have HB2 := Lib.hid (chn HB1.out hb2)
      clear hb2
      go_wp2_with fail
      refine (H3.out _ trivial).mono ?_
      rintro e w3 ⟨rfl, hb3⟩
      have HB3 := Lib.hid (chn HB2.out hb3)
      clear hb3
      go_wp2_with fail
      go_ret
      exact ⟨by simp, HB3.out⟩

set_option maxHeartbeats 1000000 in
theorem server_any (per bud : Int) (a : Option Addr) (m cap : Nat) (w : World) (hm : m ≤ maxLen) : Calls Try.prog 24 #[.agg #[.int .i64 per, .int .i64 bud, .slice a m cap]] w (YB (wi per 1 64 && wi bud 1 per && decide (m ≤ 4)) w) := by
  have H1 := Lib.hid (within_any per 1 64); have H2 := Lib.hid (within_any bud 1 per)
  generalize wi per 1 64 = x1 at *
  generalize wi bud 1 per = x2 at *
  have hd : decide (m ≤ 4) = decide ((m : Int) ≤ 4) := by
    by_cases h : m ≤ 4
    · rw [decide_eq_true h, decide_eq_true (by omega)]
    · rw [decide_eq_false h, decide_eq_false (by omega)]
  have HD := Lib.hid hd
  clear hd
  cases x1 with
  | false =>
    go_enter Try.func24, Try.ntmps24
    go_wp2_with fail
    refine (H1.out _).mono ?_
    rintro e w1 ⟨rfl, rfl⟩
    go_wp2_with fail
    go_ret
    exact ⟨by simp, (Below.refl _ w).alloc (Nat.le_refl _) _⟩
  | true =>
    cases x2 with
    | false =>
      go_enter Try.func24, Try.ntmps24
      go_wp2_with fail
      refine (H1.out _).mono ?_
      rintro e w1 ⟨rfl, rfl⟩
      go_wp2_with fail
      refine (H2.out _).mono ?_
      rintro e w1 ⟨rfl, rfl⟩
      go_wp2_with fail
      go_ret
      exact ⟨by simp, (Below.refl _ w).alloc (Nat.le_refl _) _⟩
    | true =>
      go_enter Try.func24, Try.ntmps24
      go_wp2_with fail
      refine (H1.out _).mono ?_
      rintro e w1 ⟨rfl, rfl⟩
      go_wp2_with fail
      refine (H2.out _).mono ?_
      rintro e w1 ⟨rfl, rfl⟩
      go_wp2_with fail
      go_ret
      exact ⟨by rw [HD.out]; simp, (Below.refl _ w).alloc (Nat.le_refl _) _⟩

set_option maxHeartbeats 1000000 in
theorem ends_any (o : Po) (n : Int) (w : World) (h0 : 0 ≤ n) (h1 : n ≤ 9223372036854775807) : Calls Try.prog 26 #[pov o, .int .i64 n] w (YB (mayEnds o n) w) := by
  obtain ⟨k, f, t, s, d, a⟩ := o
  unfold mayEnds pov
  dsimp only
  have H1 := Lib.hid (within_any f 0 (n - 1)); have H2 := Lib.hid (within_any t 0 (n - 1))
  have hw : wrap64 (n - 1) = n - 1 := by unfold wrap64; omega
  generalize wi f 0 (n - 1) = x1 at *
  generalize wi t 0 (n - 1) = x2 at *
  clear h0 h1
  cases x1 with
  | false =>
    go_enter Try.func26, Try.ntmps26
    go_wp2_with fail
    refine (H1.out _).mono ?_
    rintro e w1 ⟨rfl, rfl⟩
    go_wp2_with fail
    go_ret
    exact ⟨by simp, (Below.refl _ w).alloc (Nat.le_refl _) _⟩
  | true =>
    cases x2 with
    | false =>
      go_enter Try.func26, Try.ntmps26
      go_wp2_with fail
      refine (H1.out _).mono ?_
      rintro e w1 ⟨rfl, rfl⟩
      go_wp2_with fail
      refine (H2.out _).mono ?_
      rintro e w1 ⟨rfl, rfl⟩
      go_wp2_with fail
      go_ret
      exact ⟨by simp, (Below.refl _ w).alloc (Nat.le_refl _) _⟩
    | true =>
      go_enter Try.func26, Try.ntmps26
      go_wp2_with fail
      refine (H1.out _).mono ?_
      rintro e w1 ⟨rfl, rfl⟩
      go_wp2_with fail
      refine (H2.out _).mono ?_
      rintro e w1 ⟨rfl, rfl⟩
      go_wp2_with fail
      go_ret
      exact ⟨by simp [bne], (Below.refl _ w).alloc (Nat.le_refl _) _⟩

set_option maxHeartbeats 1000000 in
theorem kept_any (o : Po) (w : World) : Calls Try.prog 27 #[pov o] w (YB (mayKept o) w) := by
  obtain ⟨k, f, t, s, d, a⟩ := o
  unfold mayKept pov
  dsimp only
  have H1 := Lib.hid (within_any a 1 64); have H2 := Lib.hid (within_any d 1 4)
  generalize wi a 1 64 = x1 at *
  generalize wi d 1 4 = x2 at *
  cases h1 : k == 1 with
  | true =>
    rw [if_pos (by simpa using h1)]
    cases h2 : d == 0 with
    | false =>
      go_enter Try.func27, Try.ntmps27
      go_wp2_with fail
      go_ret
      exact ⟨by simp, (Below.refl _ w).alloc (Nat.le_refl _) _⟩
    | true =>
      go_enter Try.func27, Try.ntmps27
      go_wp2_with fail
      refine (H1.out _).mono ?_
      rintro e w1 ⟨rfl, rfl⟩
      go_wp2_with fail
      go_ret
      exact ⟨by simp, (Below.refl _ w).alloc (Nat.le_refl _) _⟩
  | false =>
    rw [if_neg (by simpa using h1)]
    cases h2 : k == 2 with
    | true =>
      rw [if_pos (by simpa using h2)]
      cases x2 with
      | false =>
        go_enter Try.func27, Try.ntmps27
        go_wp2_with fail
        refine (H2.out _).mono ?_
        rintro e w1 ⟨rfl, rfl⟩
        go_wp2_with fail
        go_ret
        exact ⟨by simp, (Below.refl _ w).alloc (Nat.le_refl _) _⟩
      | true =>
        go_enter Try.func27, Try.ntmps27
        go_wp2_with fail
        refine (H2.out _).mono ?_
        rintro e w1 ⟨rfl, rfl⟩
        go_wp2_with fail
        go_ret
        exact ⟨by simp, (Below.refl _ w).alloc (Nat.le_refl _) _⟩
    | false =>
      rw [if_neg (by simpa using h2)]
      go_enter Try.func27, Try.ntmps27
      go_wp2_with fail
      go_ret
      exact ⟨by simp, (Below.refl _ w).alloc (Nat.le_refl _) _⟩
end Go.Proofs.Ythbhkcofhhkcoaa
