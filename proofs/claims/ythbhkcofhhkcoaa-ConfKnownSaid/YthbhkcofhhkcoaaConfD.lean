/- The document's Check. -/
import Derived.Test.YthbhkcofhhkcoaaConfC
import Derived.Shelf.SlSortCmp.QuietGrown
namespace Go.Proofs.Ythbhkcofhhkcoaa
open Go.RowKit Pk Cn
set_option linter.unusedVariables false

theorem rwithin_any (n l h : Int) (w : World) : Calls Try.prog 32 #[.int .i64 n, .int .i64 l, .int .i64 h] w (IsB (wi n l h) w) := by
  unfold wi
  cases h0 : decide (l ≤ n) with
  | false =>
    go_enter Try.func32, Try.ntmps32
    go_wp2
    go_ret
    exact ⟨by simp, rfl⟩
  | true =>
    go_enter Try.func32, Try.ntmps32
    go_wp2
    go_ret
    exact ⟨by simp, rfl⟩

/-- draws and new blocks alone -/
def Grw (W w' : World) : Prop := ∃ q os, w' = Sort.grow (W.drewN q) os
theorem Grw.refl (W : World) : Grw W W := ⟨0, #[], by rw [Sort.grow_empty]; rfl⟩
theorem Grw.alloc {W w : World} (h : Grw W w) (o : Obj) : Grw W (w.alloc o) := by
  obtain ⟨q, os, rfl⟩ := h; exact ⟨q, os ++ #[o], by rw [Sort.alloc_eq_grow, Sort.grow_grow]⟩
theorem Grw.below {W w : World} (h : Grw W w) : Below W.heap.size W w := by
  obtain ⟨q, os, rfl⟩ := h
  refine ⟨rfl, rfl, rfl, ?_, fun k hk => ?_⟩
  · rw [Sort.size_grow]; exact Nat.le_add_right _ _
  · exact Sort.heap_grow_old (W.drewN q) os hk
def GB (b : Bool) (w : World) (e : Ending) (w' : World) : Prop := e = .returned (.bool b) ∧ Grw w w'

/-- the document's form of what a task may be -/
def rTask (t : Tk) (bud : Int) : Bool :=
  if wi t.p 1 64 && wi t.d 1 t.p && wi t.b 1 t.d && wi t.l 0 255 && wi t.g 0 4 then
    (if t.l = 0 then (if t.o = 0 then rGlob t bud else false) else if wi t.o 1 t.b then rGlob t bud else false) else false
where rGlob (t : Tk) (bud : Int) : Bool := if t.g = 0 then t.n == 0 && t.k == 0 else wi t.n 1 bud && wi t.k 1 t.b && decide (t.n * t.k ≤ t.b)
theorem wi_iff (n l h : Int) : wi n l h = true ↔ l ≤ n ∧ n ≤ h := by simp [wi]
theorem glob_eq {t : Tk} {bud : Int} (hb : 1 ≤ t.b) (hg : wi t.g 0 4 = true) : rTask.rGlob t bud = mayGlobal t bud := by
  unfold rTask.rGlob mayGlobal
  by_cases h0 : t.g = 0
  · rw [if_pos h0, if_pos h0]
  · rw [if_neg h0, if_neg h0]
    have hg' := wi_yes hg
    have e : wi t.g 1 4 = true := (wi_iff _ _ _).2 (by omega)
    rw [e, Bool.true_and]
    cases hn : wi t.n 1 bud with
    | false => rfl
    | true =>
      have h1 := wi_yes hn
      rw [Bool.true_and, Bool.true_and]
      rw [Bool.eq_iff_iff, Bool.and_eq_true, wi_iff, wi_iff, decide_eq_true_eq, Int.tdiv_eq_ediv_of_nonneg (by omega), Int.le_ediv_iff_mul_le (by omega)]
      constructor
      · rintro ⟨⟨a, b⟩, c⟩; exact ⟨a, by rw [Int.mul_comm]; exact c⟩
      · rintro ⟨a, c⟩
        refine ⟨⟨a, ?_⟩, by rw [Int.mul_comm]; exact c⟩
        have : t.k * 1 ≤ t.k * t.n := Int.mul_le_mul_of_nonneg_left (by omega) (by omega)
        omega
theorem rTask_eq (t : Tk) (bud : Int) : rTask t bud = mayTask t bud := by
  unfold rTask
  split
  · rename_i h
    simp only [Bool.and_eq_true] at h
    obtain ⟨⟨⟨⟨h1, h2⟩, h3⟩, h4⟩, h5⟩ := h
    have ht : mayTimes t = true := by unfold mayTimes; rw [h1, h2, h3]; rfl
    have hb := mayTimes_yes ht
    rw [glob_eq (by omega) h5]
    unfold mayTask mayLocals
    rw [ht, Bool.true_and]
    have h4' := wi_yes h4
    by_cases h0 : t.l = 0
    · rw [if_pos h0, if_pos h0]
      by_cases h6 : t.o = 0
      · rw [if_pos h6]; simp [h6]
      · rw [if_neg h6]; simp [h6]
    · rw [if_neg h0, if_neg h0]
      have e : wi t.l 1 255 = true := (wi_iff _ _ _).2 (by omega)
      rw [e, Bool.true_and]
      cases wi t.o 1 t.b <;> simp
  · rename_i h
    cases hm : mayTask t bud with
    | false => rfl
    | true =>
      exfalso
      apply h
      unfold mayTask at hm
      simp only [Bool.and_eq_true] at hm
      obtain ⟨⟨h1, h2⟩, h3⟩ := hm
      have h1' := h1
      unfold mayTimes at h1'
      simp only [Bool.and_eq_true] at h1'
      have hl : wi t.l 0 255 = true := by
        unfold mayLocals at h2
        split at h2
        · rw [wi_iff]; omega
        · simp only [Bool.and_eq_true] at h2
          have := wi_yes h2.1
          rw [wi_iff]; omega
      have hg : wi t.g 0 4 = true := by
        unfold mayGlobal at h3
        split at h3
        · rw [wi_iff]; omega
        · simp only [Bool.and_eq_true] at h3
          have := wi_yes h3.1.1
          rw [wi_iff]; omega
      rw [h1'.1.1, h1'.1.2, h1'.2, hl, hg]; rfl

set_option maxHeartbeats 4000000 in
theorem rtask_eq (t : Tk) (bud : Int) (w : World) (hbud : bud ≤ 64) : Calls Try.prog 51 #[tkv t, .int .i64 bud] w (fun e w' => e = .returned (.bool (rTask t bud)) ∧ w.alloc (.cells (tkc t) 30) = w') := by
  obtain ⟨p, d, b, l, o, g, n, k⟩ := t
  obtain ⟨r, hr⟩ : ∃ r, r = rTask ⟨p, d, b, l, o, g, n, k⟩ bud := ⟨_, rfl⟩
  rw [← hr]
  unfold rTask rTask.rGlob at hr
  unfold tkv tkc
  dsimp only at hr ⊢
  have H1 := Lib.hid (rwithin_any p 1 64); have H2 := Lib.hid (rwithin_any d 1 p); have H3 := Lib.hid (rwithin_any b 1 d); have H4 := Lib.hid (rwithin_any l 0 255); have H5 := Lib.hid (rwithin_any g 0 4)
  have H6 := Lib.hid (rwithin_any o 1 b); have H7 := Lib.hid (rwithin_any n 1 bud); have H8 := Lib.hid (rwithin_any k 1 b)
  have HX1 := Lib.hid (wi_iff p 1 64).1; have HX2 := Lib.hid (wi_iff d 1 p).1; have HX3 := Lib.hid (wi_iff b 1 d).1
  have HX7 := Lib.hid (wi_iff n 1 bud).1; have HX8 := Lib.hid (wi_iff k 1 b).1
  generalize wi p 1 64 = x1 at *
  generalize wi d 1 p = x2 at *
  generalize wi b 1 d = x3 at *
  generalize wi l 0 255 = x4 at *
  generalize wi g 0 4 = x5 at *
  generalize wi o 1 b = x6 at *
  generalize wi n 1 bud = x7 at *
  generalize wi k 1 b = x8 at *
  go_enter Try.func51, Try.ntmps51
  go_wp2_with fail
  refine (H1.out _).mono ?_
  rintro e w1 ⟨rfl, rfl⟩
  cases x1 with
  | false =>
    have HR : Hid (r = false) := by unfold Hid; rw [hr]; simp
    clear hr
    go_wp2_with fail
    go_ret
    exact ⟨by rw [HR.out]; rfl, rfl⟩
  | true =>
    go_wp2_with fail
    refine (H2.out _).mono ?_
    rintro e w1 ⟨rfl, rfl⟩
    cases x2 with
    | false =>
      have HR : Hid (r = false) := by unfold Hid; rw [hr]; simp
      clear hr
      go_wp2_with fail
      go_ret
      exact ⟨by rw [HR.out]; rfl, rfl⟩
    | true =>
      go_wp2_with fail
      refine (H3.out _).mono ?_
      rintro e w1 ⟨rfl, rfl⟩
      cases x3 with
      | false =>
        have HR : Hid (r = false) := by unfold Hid; rw [hr]; simp
        clear hr
        go_wp2_with fail
        go_ret
        exact ⟨by rw [HR.out]; rfl, rfl⟩
      | true =>
        go_wp2_with fail
        refine (H4.out _).mono ?_
        rintro e w1 ⟨rfl, rfl⟩
        cases x4 with
        | false =>
          have HR : Hid (r = false) := by unfold Hid; rw [hr]; simp
          clear hr
          go_wp2_with fail
          go_ret
          exact ⟨by rw [HR.out]; rfl, rfl⟩
        | true =>
          go_wp2_with fail
          refine (H5.out _).mono ?_
          rintro e w1 ⟨rfl, rfl⟩
          cases x5 with
          | false =>
            have HR : Hid (r = false) := by unfold Hid; rw [hr]; simp
            clear hr
            go_wp2_with fail
            go_ret
            exact ⟨by rw [HR.out]; rfl, rfl⟩
          | true =>
            cases hl : l == 0 with
            | true =>
              have hlz : Hid (l = 0) := by unfold Hid; simpa using hl
              have hlb : (l != 0) = false := by simp [bne, hl]
              cases ho : o == 0 with
              | false =>
                have hoz : Hid (¬ o = 0) := by unfold Hid; simpa using ho
                have hob : (o != 0) = true := by simp [bne, ho]
                have HR : Hid (r = false) := by unfold Hid; rw [hr]; simp [hlz.out, hoz.out]
                clear hr
                go_wp2_with fail
                go_ret
                exact ⟨by rw [HR.out]; rfl, rfl⟩
              | true =>
                have hoz : Hid (o = 0) := by unfold Hid; simpa using ho
                have hob : (o != 0) = false := by simp [bne, ho]
                cases hg : g == 0 with
                | true =>
                  have hgz : Hid (g = 0) := by unfold Hid; simpa using hg
                  cases hn : n == 0 with
                  | false =>
                    have HR : Hid (r = false) := by unfold Hid; rw [hr]; simp [hlz.out, hoz.out, hgz.out, hn]
                    clear hr
                    go_wp2_with fail
                    go_ret
                    exact ⟨by rw [HR.out]; rfl, rfl⟩
                  | true =>
                    cases hk : k == 0 with
                    | false =>
                      have HR : Hid (r = false) := by unfold Hid; rw [hr]; simp [hlz.out, hoz.out, hgz.out, hn, hk]
                      clear hr
                      go_wp2_with fail
                      go_ret
                      exact ⟨by rw [HR.out]; rfl, rfl⟩
                    | true =>
                      have HR : Hid (r = true) := by unfold Hid; rw [hr]; simp [hlz.out, hoz.out, hgz.out, hn, hk]
                      clear hr
                      go_wp2_with fail
                      go_ret
                      exact ⟨by rw [HR.out]; rfl, rfl⟩
                | false =>
                  have hgz : Hid (¬ g = 0) := by unfold Hid; simpa using hg
                  go_wp2_with fail
                  refine (H7.out _).mono ?_
                  rintro e w1 ⟨rfl, rfl⟩
                  cases x7 with
                  | false =>
                    have HR : Hid (r = false) := by unfold Hid; rw [hr]; simp [hlz.out, hoz.out, hgz.out]
                    clear hr
                    go_wp2_with fail
                    go_ret
                    exact ⟨by rw [HR.out]; rfl, rfl⟩
                  | true =>
                    go_wp2_with fail
                    refine (H8.out _).mono ?_
                    rintro e w1 ⟨rfl, rfl⟩
                    cases x8 with
                    | false =>
                      have HR : Hid (r = false) := by unfold Hid; rw [hr]; simp [hlz.out, hoz.out, hgz.out]
                      clear hr
                      go_wp2_with fail
                      go_ret
                      exact ⟨by rw [HR.out]; rfl, rfl⟩
                    | true =>
                      have hw : wrap64 (n * k) = n * k := by
                        have a1 := HX7.out (by trivial); have a2 := HX8.out (by trivial); have a3 := HX1.out (by trivial); have a4 := HX2.out (by trivial); have a5 := HX3.out (by trivial)
                        have m1 : n * k ≤ 64 * 64 := Int.mul_le_mul (by omega) (by omega) (by omega) (by omega)
                        have m2 : 0 ≤ n * k := Int.mul_nonneg (by omega) (by omega)
                        unfold wrap64; omega
                      cases hm : decide (n * k ≤ b) with
                      | false =>
                        have HR : Hid (r = false) := by unfold Hid; rw [hr]; simp [hlz.out, hoz.out, hgz.out]; first | exact of_decide_eq_false hm | (have := of_decide_eq_false hm; omega)
                        clear hr
                        go_wp2_with fail
                        go_ret
                        exact ⟨by rw [HR.out]; rfl, rfl⟩
                      | true =>
                        have HR : Hid (r = true) := by unfold Hid; rw [hr]; simp [hlz.out, hoz.out, hgz.out]; exact of_decide_eq_true hm
                        clear hr
                        go_wp2_with fail
                        go_ret
                        exact ⟨by rw [HR.out]; rfl, rfl⟩
            | false =>
              have hlz : Hid (¬ l = 0) := by unfold Hid; simpa using hl
              have hlb : (l != 0) = true := by simp [bne, hl]
              go_wp2_with fail
              refine (H6.out _).mono ?_
              rintro e w1 ⟨rfl, rfl⟩
              cases x6 with
              | false =>
                have HR : Hid (r = false) := by unfold Hid; rw [hr]; simp [hlz.out]
                clear hr
                go_wp2_with fail
                go_ret
                exact ⟨by rw [HR.out]; rfl, rfl⟩
              | true =>
                cases hg : g == 0 with
                | true =>
                  have hgz : Hid (g = 0) := by unfold Hid; simpa using hg
                  cases hn : n == 0 with
                  | false =>
                    have HR : Hid (r = false) := by unfold Hid; rw [hr]; simp [hlz.out, hgz.out, hn]
                    clear hr
                    go_wp2_with fail
                    go_ret
                    exact ⟨by rw [HR.out]; rfl, rfl⟩
                  | true =>
                    cases hk : k == 0 with
                    | false =>
                      have HR : Hid (r = false) := by unfold Hid; rw [hr]; simp [hlz.out, hgz.out, hn, hk]
                      clear hr
                      go_wp2_with fail
                      go_ret
                      exact ⟨by rw [HR.out]; rfl, rfl⟩
                    | true =>
                      have HR : Hid (r = true) := by unfold Hid; rw [hr]; simp [hlz.out, hgz.out, hn, hk]
                      clear hr
                      go_wp2_with fail
                      go_ret
                      exact ⟨by rw [HR.out]; rfl, rfl⟩
                | false =>
                  have hgz : Hid (¬ g = 0) := by unfold Hid; simpa using hg
                  go_wp2_with fail
                  refine (H7.out _).mono ?_
                  rintro e w1 ⟨rfl, rfl⟩
                  cases x7 with
                  | false =>
                    have HR : Hid (r = false) := by unfold Hid; rw [hr]; simp [hlz.out, hgz.out]
                    clear hr
                    go_wp2_with fail
                    go_ret
                    exact ⟨by rw [HR.out]; rfl, rfl⟩
                  | true =>
                    go_wp2_with fail
                    refine (H8.out _).mono ?_
                    rintro e w1 ⟨rfl, rfl⟩
                    cases x8 with
                    | false =>
                      have HR : Hid (r = false) := by unfold Hid; rw [hr]; simp [hlz.out, hgz.out]
                      clear hr
                      go_wp2_with fail
                      go_ret
                      exact ⟨by rw [HR.out]; rfl, rfl⟩
                    | true =>
                      have hw : wrap64 (n * k) = n * k := by
                        have a1 := HX7.out (by trivial); have a2 := HX8.out (by trivial); have a3 := HX1.out (by trivial); have a4 := HX2.out (by trivial); have a5 := HX3.out (by trivial)
                        have m1 : n * k ≤ 64 * 64 := Int.mul_le_mul (by omega) (by omega) (by omega) (by omega)
                        have m2 : 0 ≤ n * k := Int.mul_nonneg (by omega) (by omega)
                        unfold wrap64; omega
                      cases hm : decide (n * k ≤ b) with
                      | false =>
                        have HR : Hid (r = false) := by unfold Hid; rw [hr]; simp [hlz.out, hgz.out]; first | exact of_decide_eq_false hm | (have := of_decide_eq_false hm; omega)
                        clear hr
                        go_wp2_with fail
                        go_ret
                        exact ⟨by rw [HR.out]; rfl, rfl⟩
                      | true =>
                        have HR : Hid (r = true) := by unfold Hid; rw [hr]; simp [hlz.out, hgz.out]; exact of_decide_eq_true hm
                        clear hr
                        go_wp2_with fail
                        go_ret
                        exact ⟨by rw [HR.out]; rfl, rfl⟩

theorem rtask_any (t : Tk) (bud : Int) (w : World) (hbud : bud ≤ 64) : Calls Try.prog 51 #[tkv t, .int .i64 bud] w (GB (mayTask t bud) w) :=
  (rtask_eq t bud w hbud).mono fun e w' h => ⟨by rw [← rTask_eq]; exact h.1, by rw [← h.2]; exact (Grw.refl w).alloc _⟩

set_option maxHeartbeats 4000000 in
theorem rport_eq (o : Po) (N : Int) (w : World) (h0 : 0 ≤ N) (h1 : N ≤ 9223372036854775807) : Calls Try.prog 34 #[pov o, .int .i64 N] w (fun e w' => e = .returned (.bool (mayPort o N)) ∧ w.alloc (.cells #[.int .i64 o.k, .int .i64 o.f, .int .i64 o.t, .int .i64 o.s, .int .i64 o.d, .int .i64 o.a] 32) = w') := by
  obtain ⟨k, f, t, s, d, a⟩ := o
  obtain ⟨r, hr⟩ : ∃ r, r = mayPort ⟨k, f, t, s, d, a⟩ N := ⟨_, rfl⟩
  rw [← hr]
  unfold mayPort mayEnds mayKept at hr
  unfold pov
  dsimp only at hr ⊢
  have hw : wrap64 (N - 1) = N - 1 := by unfold wrap64; omega
  have H1 := Lib.hid (rwithin_any a 1 64); have H2 := Lib.hid (rwithin_any d 1 4); have H3 := Lib.hid (rwithin_any f 0 (N - 1)); have H4 := Lib.hid (rwithin_any t 0 (N - 1)); have H5 := Lib.hid (rwithin_any s 1 16)
  generalize wi a 1 64 = x1 at *
  generalize wi d 1 4 = x2 at *
  generalize wi f 0 (N - 1) = x3 at *
  generalize wi t 0 (N - 1) = x4 at *
  generalize wi s 1 16 = x5 at *
  clear h0 h1
  go_enter Try.func34, Try.ntmps34
  cases h1 : k == 1 with
  | true =>
    obtain rfl : k = 1 := by simpa using h1
    have h2 : ((1 : Int) == 2) = false := by decide
    cases hd : d == 0 with
    | false =>
      have HR : Hid (r = false) := by unfold Hid; rw [hr]; simp [hd]
      clear hr
      go_wp2_with fail
      go_ret
      exact ⟨by rw [HR.out]; rfl, rfl⟩
    | true =>
      go_wp2_with fail
      refine (H1.out _).mono ?_
      rintro e w1 ⟨rfl, rfl⟩
      cases x1 with
      | false =>
        have HR : Hid (r = false) := by unfold Hid; rw [hr]; simp [hd]
        clear hr
        go_wp2_with fail
        go_ret
        exact ⟨by rw [HR.out]; rfl, rfl⟩
      | true =>
        go_wp2_with fail
        refine (H3.out _).mono ?_
        rintro e w1 ⟨rfl, rfl⟩
        cases x3 with
        | false =>
          have HR : Hid (r = false) := by unfold Hid; rw [hr]; simp [hd]
          clear hr
          go_wp2_with fail
          go_ret
          exact ⟨by rw [HR.out]; rfl, rfl⟩
        | true =>
          go_wp2_with fail
          refine (H4.out _).mono ?_
          rintro e w1 ⟨rfl, rfl⟩
          cases x4 with
          | false =>
            have HR : Hid (r = false) := by unfold Hid; rw [hr]; simp [hd]
            clear hr
            go_wp2_with fail
            go_ret
            exact ⟨by rw [HR.out]; rfl, rfl⟩
          | true =>
            cases hq : f == t with
            | true =>
              have hqb : (f != t) = false := by simp [bne, hq]
              have HR : Hid (r = false) := by unfold Hid; rw [hr]; simp [hd, hq]
              clear hr
              go_wp2_with fail
              go_ret
              exact ⟨by rw [HR.out]; rfl, rfl⟩
            | false =>
              have hqb : (f != t) = true := by simp [bne, hq]
              go_wp2_with fail
              refine (H5.out _).mono ?_
              rintro e w1 ⟨rfl, rfl⟩
              cases x5 with
              | false =>
                have HR : Hid (r = false) := by unfold Hid; rw [hr]; simp [hd]
                clear hr
                go_wp2_with fail
                go_ret
                exact ⟨by rw [HR.out]; rfl, rfl⟩
              | true =>
                have HR : Hid (r = true) := by unfold Hid; rw [hr]; simp [hd, hq]; try simpa using hq
                clear hr
                go_wp2_with fail
                go_ret
                exact ⟨by rw [HR.out]; rfl, rfl⟩
  | false =>
    have h1z : Hid (¬ k = 1) := by unfold Hid; simpa using h1
    cases h2 : k == 2 with
    | false =>
      have h2z : Hid (¬ k = 2) := by unfold Hid; simpa using h2
      have HR : Hid (r = false) := by unfold Hid; rw [hr]; simp [h1z.out, h2z.out]
      clear hr
      go_wp2_with fail
      go_ret
      exact ⟨by rw [HR.out]; rfl, rfl⟩
    | true =>
      have h2z : Hid (k = 2) := by unfold Hid; simpa using h2
      cases ha : a == 0 with
      | false =>
        have HR : Hid (r = false) := by unfold Hid; rw [hr]; simp [h2z.out, ha]
        clear hr
        go_wp2_with fail
        go_ret
        exact ⟨by rw [HR.out]; rfl, rfl⟩
      | true =>
        go_wp2_with fail
        refine (H2.out _).mono ?_
        rintro e w1 ⟨rfl, rfl⟩
        cases x2 with
        | false =>
          have HR : Hid (r = false) := by unfold Hid; rw [hr]; simp [h2z.out, ha]
          clear hr
          go_wp2_with fail
          go_ret
          exact ⟨by rw [HR.out]; rfl, rfl⟩
        | true =>
          go_wp2_with fail
          refine (H3.out _).mono ?_
          rintro e w1 ⟨rfl, rfl⟩
          cases x3 with
          | false =>
            have HR : Hid (r = false) := by unfold Hid; rw [hr]; simp [h2z.out, ha]
            clear hr
            go_wp2_with fail
            go_ret
            exact ⟨by rw [HR.out]; rfl, rfl⟩
          | true =>
            go_wp2_with fail
            refine (H4.out _).mono ?_
            rintro e w1 ⟨rfl, rfl⟩
            cases x4 with
            | false =>
              have HR : Hid (r = false) := by unfold Hid; rw [hr]; simp [h2z.out, ha]
              clear hr
              go_wp2_with fail
              go_ret
              exact ⟨by rw [HR.out]; rfl, rfl⟩
            | true =>
              cases hq : f == t with
              | true =>
                have hqb : (f != t) = false := by simp [bne, hq]
                have HR : Hid (r = false) := by unfold Hid; rw [hr]; simp [h2z.out, ha, hq]
                clear hr
                go_wp2_with fail
                go_ret
                exact ⟨by rw [HR.out]; rfl, rfl⟩
              | false =>
                have hqb : (f != t) = true := by simp [bne, hq]
                go_wp2_with fail
                refine (H5.out _).mono ?_
                rintro e w1 ⟨rfl, rfl⟩
                cases x5 with
                | false =>
                  have HR : Hid (r = false) := by unfold Hid; rw [hr]; simp [h2z.out, ha]
                  clear hr
                  go_wp2_with fail
                  go_ret
                  exact ⟨by rw [HR.out]; rfl, rfl⟩
                | true =>
                  have HR : Hid (r = true) := by unfold Hid; rw [hr]; simp [h2z.out, ha, hq]; try simpa using hq
                  clear hr
                  go_wp2_with fail
                  go_ret
                  exact ⟨by rw [HR.out]; rfl, rfl⟩

theorem rport_any (o : Po) (N : Int) (w : World) (h0 : 0 ≤ N) (h1 : N ≤ 9223372036854775807) : Calls Try.prog 34 #[pov o, .int .i64 N] w (GB (mayPort o N) w) :=
  (rport_eq o N w h0 h1).mono fun e w' h => ⟨h.1, by rw [← h.2]; exact (Grw.refl w).alloc _⟩
end Go.Proofs.Ythbhkcofhhkcoaa
