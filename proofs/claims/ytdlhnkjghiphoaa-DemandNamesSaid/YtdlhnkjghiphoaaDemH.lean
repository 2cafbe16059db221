/- The document's Of and Use. -/
import Derived.Test.YtdlhnkjghiphoaaDemG
namespace Go.Proofs.Ytdlhnkjghiphoaa
open Go.RowKit Tk De
set_option linter.unusedVariables false

theorem chkE_no {n : Nat} {z : Nat → Nat → Int} {xs : List Int} (h : chk n z xs = false) : chkE n z xs = 2 := by unfold chkE; rw [h]; rfl
theorem chkE_yes {n : Nat} {z : Nat → Nat → Int} {xs : List Int} (h : chk n z xs = true) : chkE n z xs = 0 := by unfold chkE; rw [h]; rfl
theorem inn_no {a b x : Int} (h : inn a b x = false) : (decide (x < a) = true) ∨ (decide (x < a) = false ∧ decide (b < x) = true) := by
  by_cases h1 : x < a
  · exact Or.inl (decide_eq_true h1)
  · refine Or.inr ⟨decide_eq_false h1, decide_eq_true ?_⟩
    by_cases h2 : x ≤ b
    · rw [inn_iff.2 ⟨by omega, h2⟩] at h; cases h
    · omega
set_option maxHeartbeats 2000000 in
theorem rof_any {w : World} {v u : Value} {n : Nat} {z : Nat → Nat → Int} {xs : List Int} (h : TK w v n z) (hx : IS w u xs) (t : Int) :
    Calls Try.prog 10 #[v, u, .int .i64 t] w (TwoB (ofR n z xs t).1 (ofR n z xs t).2 w) := by
  have HCk := Lib.hid (rcheck_any h hx)
  have HT := Lib.hid h; have HX := Lib.hid hx
  obtain ⟨a, cap, rfl, hn1, hn2⟩ := h.slice
  obtain ⟨b, cap2, rfl, hm1, hm2⟩ := hx.slice
  clear h hx
  cases hc : chk n z xs with
  | false =>
    rw [chkE_no hc] at HCk
    have HO := Lib.hid (ofR_no1 (t := t) hc)
    clear hc
    go_enter Try.func10, Try.ntmps10
    go_wp2_with fail
    refine HCk.out.mono ?_
    rintro e w1 ⟨rfl, hb⟩
    have HB := Lib.hid hb
    clear hb
    go_wp2_with fail
    go_ret2
    exact ⟨by rw [HO.out]; rfl, HB.out⟩
  | true =>
    rw [chkE_yes hc] at HCk
    cases ht : inn 0 1048576 t with
    | false =>
      have HO := Lib.hid (ofR_no2 (n := n) (z := z) (xs := xs) ht)
      rcases inn_no ht with h1 | ⟨h1, h2⟩
      · clear hc ht
        go_enter Try.func10, Try.ntmps10
        go_wp2_with fail
        refine HCk.out.mono ?_
        rintro e w1 ⟨rfl, hb⟩
        have HB := Lib.hid hb
        clear hb
        go_wp2_with fail
        go_ret2
        exact ⟨by rw [HO.out]; rfl, HB.out⟩
      · clear hc ht
        go_enter Try.func10, Try.ntmps10
        go_wp2_with fail
        refine HCk.out.mono ?_
        rintro e w1 ⟨rfl, hb⟩
        have HB := Lib.hid hb
        clear hb
        go_wp2_with fail
        go_ret2
        exact ⟨by rw [HO.out]; rfl, HB.out⟩
    | true =>
      obtain ⟨T, rfl⟩ := inn_nat ht (by omega)
      have hT : T ≤ 1048576 := by have := inn_iff.1 ht; omega
      have HO := Lib.hid (ofR_ok hc hT)
      have hgd := goods_of hc
      have HGd := Lib.hid hgd
      have hn4 := hgd.t.n4
      have hl := hgd.l
      rw [hl] at HX hm1 HCk ⊢
      have HL := Lib.hid hl
      have hd0 : decide ((T : Int) < 0) = false := by simp
      have hd1 : decide ((1048576 : Int) < (T : Int)) = false := by simp; omega
      clear hc ht hgd hl
      go_enter Try.func10, Try.ntmps10
      go_wp2_with fail
      refine HCk.out.mono ?_
      rintro e w1 ⟨rfl, hb⟩
      have HB0 := Lib.hid hb
      clear hb HCk
      go_wp2_with fail
      clear hd0 hd1
      go_loopw [8, 9] (fun s i wr => ∃ k : Nat, k ≤ n ∧ i = .int .i64 k ∧ s = .int .i64 (dem (per z) (dea z) (asks z xs) T k : Nat) ∧ Hid (Below w.heap.size w wr)) (fun _ i _ => n - (intOf i).toNat)
      case atStart => exact ⟨0, by omega, rfl, rfl, HB0.out⟩
      case round =>
        clear HB0
        obtain ⟨k, hk, rfl, rfl, HB⟩ := hrel
        by_cases hlt : k < n
        · obtain ⟨b1, off, rfl, c⟩ := (HT.out.below HB.out).at hlt
          obtain ⟨c0, c1, c2, _, _, _, _, _⟩ := c
          have hxs := HX.out.below HB.out
          rw [← HL.out] at hxs
          obtain ⟨b2, off2, rfl, cx⟩ := hxs.at (i := k) (by rw [HL.out]; exact hlt)
          obtain ⟨e0, e1, p0, p1, p2, p3, p4, p5⟩ := HGd.out.t.at' k hlt
          obtain ⟨m0, m1, m2, m3⟩ := HGd.out.m k hlt
          have hle := HGd.out.dem_le hT hk
          have hnx : dem (per z) (dea z) (asks z xs) T (k + 1) = dem (per z) (dea z) (asks z xs) T k + jobs (per z k) (dea z k) T * asks z xs k := rfl
          have hpl := prod_le (t := T) p0 p2 m3 hT
          have hjq : dea z k ≤ T → jobs (per z k) (dea z k) T = 1 + (T - dea z k) / per z k := fun h => if_neg (by omega)
          have hj0 : T < dea z k → jobs (per z k) (dea z k) T = 0 := fun h => if_pos h
          have hj1 := jobs_le (t := T) p0 p2
          obtain ⟨s2, hs2⟩ : ∃ s2, dem (per z) (dea z) (asks z xs) T (k + 1) = s2 := ⟨_, rfl⟩
          rw [hs2] at hnx
          have HS2 := Lib.hid hs2
          clear hs2
          generalize dem (per z) (dea z) (asks z xs) T k = s at *
          generalize per z k = P at *
          generalize dea z k = D at *
          generalize asks z xs k = J at *
          generalize jobs P D T = y at *
          generalize xs.getD k 0 = x at *
          generalize z k 0 = z0 at *
          generalize z k 1 = z1 at *
          generalize z k 2 = z2 at *
          subst e0; subst e1
          clear hxs
          have hk4 : k * 4362076160 ≤ 4 * 4362076160 := Nat.mul_le_mul_right _ (by omega)
          cases hd : decide (D ≤ T) with
          | false =>
            have hy := hj0 (by have := of_decide_eq_false hd; omega)
            rw [hy, Nat.zero_mul, Nat.add_zero] at hnx
            have HN := Lib.hid hnx
            clear hnx hjq hj0 hy hpl
            go_wp2_with fail
            go_roundw
            case rel => exact ⟨k + 1, by omega, by go_num, by rw [HS2.out, HN.out], HB.out⟩
            case measure => simp [intOf]; omega
          | true =>
            have hDT := of_decide_eq_true hd
            have hy := hjq hDT
            obtain ⟨U, hU⟩ : ∃ U, T - D = U := ⟨_, rfl⟩
            rw [hU] at hy
            have hsub : (T : Int) - D = U := by omega
            have hdq : (U : Int) / P = ((U / P : Nat) : Int) := rfl
            have hdt : (U : Int).tdiv P = ((U / P : Nat) : Int) := rfl
            generalize U / P = q at *
            have hs1 : IntKind.i64.wrap ((T : Int) - D) = U := by rw [hsub]; exact IntWalk.i64_in _ (by omega)
            have hs2 : IntKind.i64.wrap (1 + (q : Int)) = y := by rw [show (1 : Int) + q = y by omega]; exact IntWalk.i64_in _ (by omega)
            have hs3 : IntKind.i64.wrap (z2 + x) = J := by rw [m2]; exact IntWalk.i64_in _ (by omega)
            have hpn : (y : Int) * J = ((y * J : Nat) : Int) := by push_cast; rfl
            have hs4 : IntKind.i64.wrap ((y : Int) * J) = ((y * J : Nat) : Int) := by rw [hpn]; exact IntWalk.i64_in _ (by omega)
            generalize y * J = pr at *
            have hs5 : IntKind.i64.wrap ((s : Int) + pr) = s2 := by rw [show (s : Int) + pr = s2 by omega]; exact IntWalk.i64_in _ (by omega)
            have hsq : IntKind.i64.wrap (q : Int) = q := IntWalk.i64_in _ (by omega)
            have hP0 : ((P : Int) == 0) = false := by simp; omega
            clear hjq hj0 hy hsub hpn hnx hU hpl m2 hk4 hj1
            go_wp2_with fail
            go_quiet (fail)
            go_wp2_with fail
            go_quiet (fail)
            go_wp2_with fail
            go_roundw
            case rel => exact ⟨k + 1, by omega, by go_num, by rw [HS2.out], below_drewN HB.out _⟩
            case measure => simp [intOf]; omega
        · obtain rfl : k = n := by omega
          go_wp2_with fail
          go_ret2
          exact ⟨by rw [HO.out]; rfl, HB.out⟩
end Go.Proofs.Ytdlhnkjghiphoaa
