/- The program's sum and test: fractions in boxes. -/
import Derived.Test.YtfjeoefnpcgnnaaZt
import Derived.Handy
import Derived.Deep.RegionHeld3
namespace Go.Proofs.Ytfjeoefnpcgnnaa.Sh
open Go.RowKit Tk De Dl Go.Proofs.Ytfjeoefnpcgnnaa.Lo
set_option linter.unusedVariables false

/-- a fraction by value -/
def FR (x y : Nat) (w : World) (e : Ending) (w' : World) : Prop := e = .returned (.agg #[.int .i64 x, .int .i64 y]) ∧ Below w.heap.size w w'
theorem isS_any (p b : Int) (ta : Option Addr) (tn tc : Nat) (w : World) : Calls Try.prog 52 #[.agg #[.int .i64 p, .int .i64 b, .slice ta tn tc]] w (YB (okT p b) w) := by
  unfold okT
  cases h1 : decide (1 ≤ b) with
  | false =>
    go_enter Try.func52, Try.ntmps52
    go_wp2
    go_ret
    exact ⟨by rw [show decide (1 ≤ p ∧ p ≤ 64 ∧ 1 ≤ b ∧ b ≤ p) = false from decide_eq_false fun h => by have := of_decide_eq_false h1; omega]; rfl, below_alloc _ _⟩
  | true =>
    cases h2 : decide (b ≤ p) with
    | false =>
      go_enter Try.func52, Try.ntmps52
      go_wp2
      go_ret
      exact ⟨by rw [show decide (1 ≤ p ∧ p ≤ 64 ∧ 1 ≤ b ∧ b ≤ p) = false from decide_eq_false fun h => by have := of_decide_eq_false h2; omega]; rfl, below_alloc _ _⟩
    | true =>
      have h3 : decide (1 ≤ p ∧ p ≤ 64 ∧ 1 ≤ b ∧ b ≤ p) = decide (p ≤ 64) := by
        have := of_decide_eq_true h1
        have := of_decide_eq_true h2
        exact decide_eq_decide.2 (by omega)
      rw [h3]
      clear h3
      go_enter Try.func52, Try.ntmps52
      go_wp2
      go_ret
      exact ⟨by simp, below_alloc _ _⟩
theorem isS_fit {p b : Int} {r : Bool} (h : okT p b = r) (ta : Option Addr) (tn tc : Nat) (w : World) : Calls Try.prog 52 #[.agg #[.int .i64 p, .int .i64 b, .slice ta tn tc]] w (YB r w) := by subst h; exact isS_any p b ta tn tc w
set_option maxHeartbeats 2000000 in
theorem areS_any {w : World} {v : Value} {n : Nat} {p b : Nat → Int} (h : SV w v n p b) : Calls Try.prog 38 #[v] w (YB (mayS n p b) w) := by
  obtain ⟨a, cap, rfl, hn1, hn2⟩ := h.slice
  have HP := Lib.hid h
  have hmx : n ≤ 9223372036854775807 := by unfold maxLen at hn2; omega
  clear h hn1 hn2
  by_cases hn4 : n ≤ 4
  · have hd4 : decide ((4 : Int) < (n : Int)) = false := by simp; omega
    have HMAY : Hid (mayS n p b = okS p b n) := by unfold Hid mayS; rw [decide_eq_true hn4]; rfl
    obtain ⟨R, hR⟩ : ∃ R, R = mayS n p b := ⟨_, rfl⟩
    rw [← hR]
    have HR : Hid (R = okS p b n) := hR.trans HMAY.out
    clear hR HMAY
    go_enter Try.func38, Try.ntmps38
    go_wp2_with fail
    go_loopw [10] (fun iv W => ∃ k : Nat, k ≤ n ∧ iv = .int .i64 k ∧ Hid (okS p b k = true) ∧ Hid (Below w.heap.size w W)) (fun iv _ => n - (intOf iv).toNat)
    case atStart => exact ⟨0, Nat.zero_le _, rfl, rfl, Below.refl _ _⟩
    case round =>
      obtain ⟨k, hk, rfl, HOK, HB⟩ := hrel
      by_cases hlt : k < n
      · have hkI : (k : Int) < n := by omega
        have hk0 : (0 : Int) ≤ k := by omega
        obtain ⟨g, off, ta, tn, tc, rfl, c0, c1, c2⟩ := (HP.out.below HB.out).at hlt
        have HB2 := Lib.hid (HB.out.alloc HB.out.size (.cells #[.int .i64 (p k), .int .i64 (b k), .slice ta tn tc] 53))
        cases hr : okT (p k) (b k) with
        | false =>
          have HI := Lib.hid (isS_fit hr ta tn tc)
          obtain rfl : R = false := HR.out.trans (okS_no hlt hr)
          clear hr
          go_wp2_with fail
          refine (HI.out _).mono ?_
          rintro e w1 ⟨rfl, hb⟩
          have HB3 := Lib.hid (chn HB2.out hb)
          clear hb
          go_wp2_with fail
          go_ret
          exact ⟨rfl, HB3.out⟩
        | true =>
          have HI := Lib.hid (isS_fit hr ta tn tc)
          have HO2 : Hid (okS p b (k + 1) = true) := by unfold Hid okS; rw [HOK.out, hr]; rfl
          clear hr
          go_wp2_with fail
          refine (HI.out _).mono ?_
          rintro e w1 ⟨rfl, hb⟩
          have HB3 := Lib.hid (chn HB2.out hb)
          clear hb
          go_wp2_with fail
          go_roundw
          case rel => exact ⟨k + 1, by omega, by go_num, HO2.out, HB3.out⟩
          case measure => simp [intOf]; omega
      · obtain rfl : k = n := by omega
        obtain rfl : R = true := HR.out.trans HOK.out
        go_wp2_with fail
        go_ret
        exact ⟨rfl, HB.out⟩
  · have hd4 : decide ((4 : Int) < (n : Int)) = true := by simp; omega
    have hm : mayS n p b = false := by unfold mayS; rw [decide_eq_false hn4]; rfl
    rw [hm]
    go_enter Try.func38, Try.ntmps38
    go_wp2_with fail
    go_ret
    exact ⟨rfl, Below.refl _ _⟩
set_option maxHeartbeats 2000000 in
theorem low_any (T D : Nat) (w : World) (hT : T ≤ 1099511627776) (hD : D ≤ 1099511627776) (h : 0 < D) : Calls Try.prog 39 #[.int .i64 T, .int .i64 D] w (FR (low T D).1 (low T D).2 w) := by
  have HG : Hid (Calls Try.prog 53 #[.int .i64 T, .int .i64 D] (w.alloc (.cells #[.int .i64 0, .int .i64 0] 82)) (TwoB (Nat.gcd T D : Nat) 0 (w.alloc (.cells #[.int .i64 0, .int .i64 0] 82)))) := by
    have e1 : gcdN T D = (Nat.gcd T D : Nat) := gcdN_ok (tk_yes (by omega) (by omega)) (tk_yes (by omega) (by omega))
    have e2 : gcdE T D = 0 := gcdE_ok (tk_yes (by omega) (by omega)) (tk_yes (by omega) (by omega))
    rw [← e1, ← e2]
    exact gcd_any _ _ _
  have hgp := Nat.gcd_pos_of_pos_right T h
  have HB0 := Lib.hid (below_alloc w (.cells #[.int .i64 0, .int .i64 0] 82))
  have c0 : (w.alloc (.cells #[.int .i64 0, .int .i64 0] 82)).heap[w.heap.size]? = some (.cells #[.int .i64 0, .int .i64 0] 82 (0, 0)) := heap_alloc_new w _
  have HC := Lib.hid c0
  have l1 := Nat.div_le_self T (Nat.gcd T D)
  have l2 := Nat.div_le_self D (Nat.gcd T D)
  unfold low
  have hz : ((Nat.gcd T D : Nat) : Int) ≠ 0 := by omega
  have hz1 : (((Nat.gcd T D : Nat) : Int) == 0) = false := by simp; omega
  have e1 : (T : Int).tdiv ((Nat.gcd T D : Nat) : Int) = ((T / Nat.gcd T D : Nat) : Int) := rfl
  have e2 : (D : Int).tdiv ((Nat.gcd T D : Nat) : Int) = ((D / Nat.gcd T D : Nat) : Int) := rfl
  generalize T / Nat.gcd T D = u at *
  generalize D / Nat.gcd T D = q at *
  generalize Nat.gcd T D = g at *
  have hw1 := (wr3 (x := (u : Int)) rfl (by omega)).1
  have hw2 := (wr3 (x := (q : Int)) rfl (by omega)).1
  have hx1 := (wr3 (x := (u : Int)) rfl (by omega)).2
  have hx2 := (wr3 (x := (q : Int)) rfl (by omega)).2
  have hg0 : ¬ g = 0 := by omega
  clear c0
  go_enter Try.func39, Try.ntmps39
  go_wp2_with fail
  refine HG.out.mono ?_
  rintro e w1 ⟨rfl, hb⟩
  have HB := Lib.hid hb
  have cc := (hb.block _ (lt_of_block HC.out)).trans HC.out
  clear hb HG
  have hs0 := heap_setCell_same w1 w.heap.size 0 _ _ (.int .i64 u) cc
  have hs1 := heap_setCell_same _ w.heap.size 1 _ _ (.int .i64 q) hs0
  have k0 : w1.cell? ⟨w.heap.size, 0, none⟩ = some (.int .i64 0) := cell_of_row _ _ 0 _ _ _ cc
  have k1 : w1.cell? ⟨w.heap.size, 1, none⟩ = some (.int .i64 0) := cell_of_row _ _ 1 _ _ _ cc
  have f0 := frozen_of_row _ _ 0 _ _ cc
  have f1 := frozen_of_row _ _ 1 _ _ cc
  have j0 : (w1.setCell ⟨w.heap.size, 0, none⟩ (.int .i64 u)).cell? ⟨w.heap.size, 0, none⟩ = some (.int .i64 u) := cell_of_row _ _ 0 _ _ _ hs0
  have j1 : ((w1.setCell ⟨w.heap.size, 0, none⟩ (.int .i64 u)).setCell ⟨w.heap.size, 1, none⟩ (.int .i64 q)).cell? ⟨w.heap.size, 1, none⟩ = some (.int .i64 q) := cell_of_row _ _ 1 _ _ _ hs1
  clear cc hs0 hs1
  go_wp2_with fail
  go_region
  all_goals
    go_wp2_with fail
    refine bodyPost_ret (v := .agg #[.int .i64 u, .int .i64 q]) (by simp [results, Try.results39, go_sem, j0, j1]) rfl ⟨rfl, (((bel_of_alloc HB.out).setCell (p := ⟨w.heap.size, 0, none⟩) (Nat.le_refl _) _).setCell (p := ⟨w.heap.size, 1, none⟩) (Nat.le_refl _) _).drew⟩
theorem gr_any (x y : Nat) (w : World) (hx : x ≤ 1099511627776) (hy : y ≤ 1099511627776) : Calls Try.prog 40 #[.agg #[.int .i64 x, .int .i64 y], .agg #[.int .i64 1, .int .i64 1]] w (FR (if y < x then x else 1) (if y < x then y else 1) w) := by
  have hx1 := (wr3 (x := (x : Int)) rfl (by omega)).2
  have hy1 := (wr3 (x := (y : Int)) rfl (by omega)).2
  have HB := Lib.hid (((below_alloc w (.cells #[.int .i64 x, .int .i64 y] 82)).alloc (below_alloc w _).size (.cells #[.int .i64 1, .int .i64 1] 82)))
  by_cases hxy : y < x
  · have hd : decide (((y : Nat) : Int) < (x : Nat)) = true := by simp; omega
    rw [if_pos hxy, if_pos hxy]
    go_enter Try.func40, Try.ntmps40
    go_wp2
    go_returns
    exact ⟨rfl, HB.out.alloc (by simp; omega) _⟩
  · have hd : decide (((y : Nat) : Int) < (x : Nat)) = false := by simp; omega
    rw [if_neg hxy, if_neg hxy]
    go_enter Try.func40, Try.ntmps40
    go_wp2
    go_returns
    exact ⟨rfl, HB.out.alloc (by simp; omega) _⟩
theorem step_low {T D g q : Nat} (ht1 : T ≤ 67108864) (ht2 : D ≤ 16777216) (hP : q ≤ 64) (hG : g ≤ 64) : ∃ M1 M2 M3 M4 : Nat, T * q + g * D = M4 ∧ D * q = M3 ∧ (T : Int) * q = (M1 : Nat) ∧ (g : Int) * D = (M2 : Nat) ∧ (D : Int) * q = (M3 : Nat) ∧ ((M1 : Nat) : Int) + (M2 : Nat) = (M4 : Nat) ∧
    M1 ≤ 1099511627776 ∧ M2 ≤ 1099511627776 ∧ M3 ≤ 1099511627776 ∧ M4 ≤ 1099511627776 := by
  have b1 : T * q ≤ 67108864 * 64 := Nat.mul_le_mul ht1 hP
  have b2 : g * D ≤ 64 * 16777216 := Nat.mul_le_mul hG ht2
  have b3 : D * q ≤ 16777216 * 64 := Nat.mul_le_mul ht2 hP
  exact ⟨T * q, g * D, D * q, T * q + g * D, rfl, rfl, (Int.natCast_mul T q).symm, (Int.natCast_mul g D).symm, (Int.natCast_mul D q).symm, (Int.natCast_add _ _).symm, by omega, by omega, by omega, by omega⟩
set_option maxHeartbeats 1000000 in
theorem sum_any (T D g q : Nat) (w : World) (ht1 : T ≤ 67108864) (ht2 : D ≤ 16777216) (hP : q ≤ 64) (hG : g ≤ 64) (hD : 0 < D) (hq : 0 < q) : Calls Try.prog 54 #[.agg #[.int .i64 T, .int .i64 D], .agg #[.int .i64 g, .int .i64 q]] w (FR (low (T * q + g * D) (D * q)).1 (low (T * q + g * D) (D * q)).2 w) := by
  have hp := Nat.mul_pos hD hq
  obtain ⟨M1, M2, M3, M4, e0, e00, e1, e2, e3, e4, l1, l2, l3, l4⟩ := step_low ht1 ht2 hP hG
  rw [e0, e00]
  rw [e00] at hp
  have HL := Lib.hid (fun W => low_any M4 M3 W l4 l3 hp)
  generalize (low M4 M3).1 = x at *
  generalize (low M4 M3).2 = y at *
  obtain ⟨x1, y1⟩ := wr3 e1 l1
  obtain ⟨x2, y2⟩ := wr3 e2 l2
  obtain ⟨x3, y3⟩ := wr3 e3 l3
  obtain ⟨x4, y4⟩ := wr3 e4 l4
  have z1 := (wr3 (x := (M1 : Int)) rfl l1).1
  have z2 := (wr3 (x := (M2 : Int)) rfl l2).1
  have z3 := (wr3 (x := (M3 : Int)) rfl l3).1
  have z4 := (wr3 (x := (M4 : Int)) rfl l4).1
  clear e0 e00 l1 l2 l3 l4 hp hD hq hP hG ht1 ht2
  have HB := Lib.hid (((below_alloc w (.cells #[.int .i64 T, .int .i64 D] 82)).alloc (below_alloc w _).size (.cells #[.int .i64 g, .int .i64 q] 82)).alloc (by simp; omega) (.cells #[.int .i64 0, .int .i64 0] 82))
  have HC := Lib.hid (heap_alloc_new ((w.alloc (.cells #[.int .i64 T, .int .i64 D] 82)).alloc (.cells #[.int .i64 g, .int .i64 q] 82)) (.cells #[.int .i64 0, .int .i64 0] 82))
  go_enter Try.func54, Try.ntmps54
  go_wp2_with fail
  refine (HL.out _).mono ?_
  rintro e w1 ⟨rfl, hb⟩
  have cc := (hb.block _ (lt_of_block HC.out)).trans HC.out
  rw [show ((w.alloc (.cells #[.int .i64 T, .int .i64 D] 82)).alloc (.cells #[.int .i64 g, .int .i64 q] 82)).heap.size = w.heap.size + 1 + 1 from by simp] at cc
  have hs0 := heap_setCell_same w1 (w.heap.size + 1 + 1) 0 _ _ (.int .i64 x) cc
  have hs1 := heap_setCell_same _ (w.heap.size + 1 + 1) 1 _ _ (.int .i64 y) hs0
  have k0 : w1.cell? ⟨w.heap.size + 1 + 1, 0, none⟩ = some (.int .i64 0) := cell_of_row _ _ 0 _ _ _ cc
  have k1 : w1.cell? ⟨w.heap.size + 1 + 1, 1, none⟩ = some (.int .i64 0) := cell_of_row _ _ 1 _ _ _ cc
  have f0 := frozen_of_row _ _ 0 _ _ cc
  have f1 := frozen_of_row _ _ 1 _ _ cc
  have j0 : (w1.setCell ⟨w.heap.size + 1 + 1, 0, none⟩ (.int .i64 x)).cell? ⟨w.heap.size + 1 + 1, 0, none⟩ = some (.int .i64 x) := cell_of_row _ _ 0 _ _ _ hs0
  have j1 : ((w1.setCell ⟨w.heap.size + 1 + 1, 0, none⟩ (.int .i64 x)).setCell ⟨w.heap.size + 1 + 1, 1, none⟩ (.int .i64 y)).cell? ⟨w.heap.size + 1 + 1, 1, none⟩ = some (.int .i64 y) := cell_of_row _ _ 1 _ _ _ hs1
  have HQ := Lib.hid (((HB.out.trans (hb.mono HB.out.size)).setCell (p := ⟨w.heap.size + 1 + 1, 0, none⟩) (show w.heap.size ≤ w.heap.size + 1 + 1 by omega) (.int .i64 x)).setCell (p := ⟨w.heap.size + 1 + 1, 1, none⟩) (show w.heap.size ≤ w.heap.size + 1 + 1 by omega) (.int .i64 y))
  clear cc hs0 hs1 hb HB HC
  go_wp2_with fail
  refine bodyPost_ret (v := .agg #[.int .i64 x, .int .i64 y]) (by simp [results, Try.results54, go_sem, j0, j1]) rfl ⟨rfl, HQ.out⟩

/-- a fraction in a block -/
def BX (w : World) (b x y : Nat) : Prop := w.heap[b]? = some (.cells #[.int .i64 x, .int .i64 y] 82 (0, 0))
theorem BX.lt {w : World} {b x y : Nat} (h : BX w b x y) : b < w.heap.size := lt_of_block h
theorem BX.below {w w' : World} {b x y : Nat} (h : BX w b x y) (q : Below w.heap.size w w') : BX w' b x y := (q.block _ h.lt).trans h
theorem BX.c0 {w : World} {b x y : Nat} (h : BX w b x y) : w.cell? ⟨b, 0, none⟩ = some (.int .i64 x) := cell_of_row _ _ 0 _ _ _ h
theorem BX.c1 {w : World} {b x y : Nat} (h : BX w b x y) : w.cell? ⟨b, 1, none⟩ = some (.int .i64 y) := cell_of_row _ _ 1 _ _ _ h
theorem BX.f0 {w : World} {b x y : Nat} (h : BX w b x y) : w.frozen? ⟨b, 0, none⟩ = false := frozen_of_row _ _ 0 _ _ h
theorem BX.f1 {w : World} {b x y : Nat} (h : BX w b x y) : w.frozen? ⟨b, 1, none⟩ = false := frozen_of_row _ _ 1 _ _ h
theorem BX.one {w : World} {b x y : Nat} (h : BX w b x y) (u : Nat) : BX (w.setCell ⟨b, 0, none⟩ (.int .i64 u)) b u y := heap_setCell_same w b 0 _ _ (.int .i64 u) h
theorem BX.two {w : World} {b x y : Nat} (h : BX w b x y) (u : Nat) : BX (w.setCell ⟨b, 1, none⟩ (.int .i64 u)) b x u := heap_setCell_same w b 1 _ _ (.int .i64 u) h
theorem BX.far {w : World} {b c x y : Nat} (h : BX w b x y) (hbc : c ≠ b) (j : Nat) (v : Value) : BX (w.setCell ⟨c, j, none⟩ v) b x y := by
  unfold BX
  rw [Below.heap_setCell _ _ _ _ (fun e => hbc e.symm)]
  exact h
/-- a fraction's box, a server's, and all that was there -/
def S5 (W w : World) (tb pb T D P G : Nat) : Prop :=
  w.cell? ⟨tb, 0, none⟩ = some (.int .i64 T) ∧ w.cell? ⟨tb, 1, none⟩ = some (.int .i64 D) ∧ w.cell? ⟨pb, 0, none⟩ = some (.int .i64 P) ∧ w.cell? ⟨pb, 1, none⟩ = some (.int .i64 G) ∧ Below W.heap.size W w
theorem S5.drew {W w : World} {tb pb T D P G : Nat} (h : S5 W w tb pb T D P G) : S5 W w.drew tb pb T D P G := ⟨h.1, h.2.1, h.2.2.1, h.2.2.2.1, h.2.2.2.2.drew⟩
theorem S5.below {W w w' : World} {tb pb T D P G : Nat} (h : S5 W w tb pb T D P G) (q : Below w.heap.size w w') : S5 W w' tb pb T D P G :=
  ⟨(q.cell (World.block_lt_of_cell? _ _ h.1)).trans h.1, (q.cell (World.block_lt_of_cell? _ _ h.2.1)).trans h.2.1, (q.cell (World.block_lt_of_cell? _ _ h.2.2.1)).trans h.2.2.1, (q.cell (World.block_lt_of_cell? _ _ h.2.2.2.1)).trans h.2.2.2.1, chn h.2.2.2.2 q⟩
theorem keep_S5 {f : Nat} {xs : Array Value} {x y : Nat} {w W : World} {tb pb T D P G : Nat} (h : S5 W w tb pb T D P G) (hc : Calls Try.prog f xs w (FR x y w)) :
    Calls Try.prog f xs w (fun e w' => e = .returned (.agg #[.int .i64 x, .int .i64 y]) ∧ S5 W w' tb pb T D P G) := hc.mono fun _ _ ⟨he, hb⟩ => ⟨he, h.below hb⟩
theorem S5.made {w : World} {tb T D P G : Nat} {ta : Option Addr} {tn tc : Nat} (h : BX w tb T D) :
    S5 (w.alloc (.cells #[.int .i64 P, .int .i64 G, .slice ta tn tc] 53)) (w.alloc (.cells #[.int .i64 P, .int .i64 G, .slice ta tn tc] 53)) tb w.heap.size T D P G :=
  ⟨(h.below (below_alloc _ _)).c0, (h.below (below_alloc _ _)).c1, cell_of_row _ _ 0 _ _ _ (heap_alloc_new w _), cell_of_row _ _ 1 _ _ _ (heap_alloc_new w _), Below.refl _ _⟩
theorem low_mix {T D G P : Nat} (hP : 0 < P) : low (T * (low G P).2 + (low G P).1 * D) (D * (low G P).2) = low (T * P + G * D) (D * P) := by
  have hg := Nat.gcd_pos_of_pos_right G hP
  have e1 : Nat.gcd G P * (low G P).1 = G := Nat.mul_div_cancel' (Nat.gcd_dvd_left _ _)
  have e2 : Nat.gcd G P * (low G P).2 = P := Nat.mul_div_cancel' (Nat.gcd_dvd_right _ _)
  generalize (low G P).1 = x at *
  generalize (low G P).2 = y at *
  generalize Nat.gcd G P = g at *
  rw [← e1, ← e2, ← low_scale hg]
  congr 1
  · rw [Nat.mul_add, Nat.mul_assoc, Nat.mul_left_comm T]
  · rw [Nat.mul_left_comm D]
theorem low_le {G P : Nat} : (low G P).1 ≤ G ∧ (low G P).2 ≤ P := ⟨Nat.div_le_self _ _, Nat.div_le_self _ _⟩
theorem sumF_small {B P : Nat → Nat} {n : Nat} (hn : n ≤ 4) (h : ∀ i, i < n → 0 < P i ∧ P i ≤ 64 ∧ B i ≤ 64) : (sumF B P n).1 ≤ 67108864 ∧ (sumF B P n).2 ≤ 16777216 ∧ 0 < (sumF B P n).2 := by
  have h1 := un_small (B := B) (P := P) hn fun i hi => ⟨(h i hi).2.1, (h i hi).2.2⟩
  have h2 := sumF_pos (B := B) (P := P) (n := n) fun i hi => (h i hi).1
  refine ⟨?_, ?_, h2⟩
  · rw [sumF_un fun i hi => (h i hi).1]; exact Nat.le_trans low_le.1 h1.1
  · rw [sumF_un fun i hi => (h i hi).1]; exact Nat.le_trans low_le.2 h1.2
theorem low_fit {T D x y : Nat} (hT : T ≤ 1099511627776) (hD : D ≤ 1099511627776) (h : 0 < D) (e : low T D = (x, y)) (w : World) : Calls Try.prog 39 #[.int .i64 T, .int .i64 D] w (FR x y w) := by
  have := low_any T D w hT hD h
  rw [e] at this
  exact this
theorem sum_fit {T D g q x y : Nat} (ht1 : T ≤ 67108864) (ht2 : D ≤ 16777216) (hP : q ≤ 64) (hG : g ≤ 64) (hD : 0 < D) (hq : 0 < q) (e : low (T * q + g * D) (D * q) = (x, y)) (w : World) : Calls Try.prog 54 #[.agg #[.int .i64 T, .int .i64 D], .agg #[.int .i64 g, .int .i64 q]] w (FR x y w) := by
  have := sum_any T D g q w ht1 ht2 hP hG hD hq
  rw [e] at this
  exact this
set_option maxHeartbeats 2000000 in
theorem shared_any {w : World} {v : Value} {n : Nat} {p b : Nat → Int} (h : SV w v n p b) (hn4 : n ≤ 4) (hok : okS p b n = true) : Calls Try.prog 41 #[v] w (FR (suF n p b).1 (suF n p b).2 w) := by
  obtain ⟨a, cap, rfl, hn1, hn2⟩ := h.slice
  have HP := Lib.hid h
  have HOK := Lib.hid (okS_iff.1 hok)
  have HNB := Lib.hid (nn_bd hok)
  have hmx : n ≤ 9223372036854775807 := by unfold maxLen at hn2; omega
  have mixed : Try.prog.follows .mixedOrders = true := by kernel_rfl
  have HL0 := Lib.hid (fun W => low_fit (T := 0) (D := 1) (x := 0) (y := 1) (by decide) (by decide) (by decide) (by decide) W)
  have HB0 := Lib.hid (below_alloc w (.cells #[.int .i64 0, .int .i64 0] 82))
  have HC0 : Hid (BX (w.alloc (.cells #[.int .i64 0, .int .i64 0] 82)) w.heap.size 0 0) := heap_alloc_new w _
  obtain ⟨X, hX⟩ : ∃ X, X = suF n p b := ⟨_, rfl⟩
  rw [← hX]
  have HX := Lib.hid hX
  clear h hn1 hn2 hok hX
  go_enter Try.func41, Try.ntmps41
  go_wp2_with fail
  refine (HL0.out _).mono ?_
  rintro e w1 ⟨rfl, hb⟩
  have HBa := Lib.hid ((HB0.out.trans (hb.mono HB0.out.size)).alloc (HB0.out.trans (hb.mono HB0.out.size)).size (.cells #[.int .i64 (0 : Nat), .int .i64 (1 : Nat)] 82))
  have HCa : Hid (BX (w1.alloc (.cells #[.int .i64 (0 : Nat), .int .i64 (1 : Nat)] 82)) w.heap.size 0 0) := (HC0.out.below hb).below (below_alloc _ _)
  have HTa : Hid (BX (w1.alloc (.cells #[.int .i64 (0 : Nat), .int .i64 (1 : Nat)] 82)) w1.heap.size 0 1) := heap_alloc_new w1 _
  have HLT : Hid (w.heap.size < w1.heap.size) := (HC0.out.below hb).lt
  clear hb HB0 HC0
  obtain ⟨tb, htb⟩ : ∃ tb, tb = w1.heap.size := ⟨_, rfl⟩
  rw [← htb] at HTa HLT
  go_wp2_with fail
  rw [← htb]
  clear htb
  go_loopw [9] (fun iv W => ∃ k : Nat, k ≤ n ∧ iv = .int .i64 k ∧ Hid (BX W tb (sumF (nn b) (nn p) k).1 (sumF (nn b) (nn p) k).2) ∧ Hid (BX W w.heap.size 0 0) ∧ Hid (Below w.heap.size w W)) (fun iv _ => n - (intOf iv).toNat)
  case atStart => exact ⟨0, Nat.zero_le _, rfl, HTa.out, HCa.out, HBa.out⟩
  case round =>
    obtain ⟨k, hk, rfl, HT, HC, HB⟩ := hrel
    clear HTa HCa HBa
    by_cases hlt : k < n
    · have hkI : (k : Int) < n := by omega
      have hk0 : (0 : Int) ≤ k := by omega
      obtain ⟨g, off, ta, tn, tc, rfl, c0, c1, c2⟩ := (HP.out.below HB.out).at hlt
      obtain ⟨P, hPe⟩ : ∃ P : Nat, p k = P := ⟨(p k).toNat, by have := HOK.out k hlt; omega⟩
      obtain ⟨G, hGe⟩ : ∃ G : Nat, b k = G := ⟨(b k).toNat, by have := HOK.out k hlt; omega⟩
      have hnP : nn p k = P := by unfold nn; omega
      have hnG : nn b k = G := by unfold nn; omega
      obtain ⟨hp1, hp2, hg2⟩ := HNB.out k hlt
      rw [hnP] at hp1 hp2
      rw [hnG] at hg2
      rw [hPe] at c0
      rw [hGe] at c1
      obtain ⟨s1, s2, s3⟩ := sumF_small (B := nn b) (P := nn p) (n := k) (by omega) (fun i hi => HNB.out i (by omega))
      have HN : Hid (sumF (nn b) (nn p) (k + 1) = low ((sumF (nn b) (nn p) k).1 * P + G * (sumF (nn b) (nn p) k).2) ((sumF (nn b) (nn p) k).2 * P)) := by unfold Hid; rw [← hnP, ← hnG]; rfl
      generalize (sumF (nn b) (nn p) k).1 = T at *
      generalize (sumF (nn b) (nn p) k).2 = D at *
      obtain ⟨x, y, hxy⟩ : ∃ x y, low G P = (x, y) := ⟨_, _, rfl⟩
      obtain ⟨x2, y2, hxy2⟩ : ∃ x2 y2, low (T * P + G * D) (D * P) = (x2, y2) := ⟨_, _, rfl⟩
      have hx1 : x = (low G P).1 := by rw [hxy]
      have hy1 : y = (low G P).2 := by rw [hxy]
      have hyp : 0 < y := by rw [hy1]; exact low_pos hp1
      have hxl := low_le (G := G) (P := P)
      rw [← hx1, ← hy1] at hxl
      have HLo := Lib.hid (fun W => low_fit (T := G) (D := P) (x := x) (y := y) (by omega) (by omega) hp1 hxy W)
      have HSu := Lib.hid (fun W => sum_fit (T := T) (D := D) (g := x) (q := y) (x := x2) (y := y2) s1 s2 (by omega) (by omega) s3 hyp (by rw [hx1, hy1]; exact (low_mix hp1).trans hxy2) W)
      rw [hxy2] at HN
      have HS := Lib.hid (S5.made (P := P) (G := G) (ta := ta) (tn := tn) (tc := tc) HT.out)
      have HTb := Lib.hid (HT.out.below (below_alloc wr (.cells #[.int .i64 P, .int .i64 G, .slice ta tn tc] 53)))
      have HCb := Lib.hid (HC.out.below (below_alloc wr (.cells #[.int .i64 P, .int .i64 G, .slice ta tn tc] 53)))
      have HBb := Lib.hid (HB.out.alloc HB.out.size (.cells #[.int .i64 P, .int .i64 G, .slice ta tn tc] 53))
      have HNE : Hid (tb ≠ wr.heap.size) := Nat.ne_of_lt HT.out.lt
      clear hPe hGe hnP hnG hp1 hp2 hg2 s1 s2 s3 hxy hxy2 hx1 hy1 hyp hxl HT HC HB
      go_wp2_with fail
      generalize wr.alloc (.cells #[.int .i64 P, .int .i64 G, .slice ta tn tc] 53) = W1 at *
      generalize wr.heap.size = pb at *
      have HNW : Hid (tb ≠ w.heap.size) := by have := HLT.out; unfold Hid; omega
      have HT0 : Hid (BX W1.drew tb T D) := HTb.out
      have HC0 : Hid (BX W1.drew w.heap.size 0 0) := HCb.out
      have HB0 : Hid (Below w.heap.size w W1.drew) := HBb.out.drew
      have HP0 : Hid (W1.cell? ⟨pb, 0, none⟩ = some (.int .i64 P) ∧ W1.cell? ⟨pb, 1, none⟩ = some (.int .i64 G)) := ⟨HS.out.2.2.1, HS.out.2.2.2.1⟩
      refine wp_region_held_drew (S := fun w' => w'.cell? ⟨pb, 0, none⟩ = some (.int .i64 P) ∧ w'.cell? ⟨pb, 1, none⟩ = some (.int .i64 G)) (by kernel_rfl) (by exact ⟨HP0.out.1, HP0.out.2⟩) (fun hHeld => ?_)
      refine wpAnyH_take (i := 1) (oi := _) (v := ?_) rfl (by kernel_rfl) (by kernel_rfl) (by kernel_rfl) (fun _ _ _ h => h) (Or.inl ⟨by rfl, ?_⟩) (by assumption) ?_; rotate_left
      · (intro w hSw; (try dsimp only at hSw); go_simp; try with_reducible rfl)
      try simp only [Act.put, List.setIfInBounds_toArray]
      refine wpAnyH_take (i := 2) (oi := _) (v := ?_) rfl (by kernel_rfl) (by kernel_rfl) (by kernel_rfl) (fun _ _ _ h => h) (Or.inl ⟨by rfl, ?_⟩) (by assumption) ?_; rotate_left
      · (intro w hSw; (try dsimp only at hSw); go_simp; try with_reducible rfl)
      try simp only [Act.put]
      refine wpAnyH_take (i := 3) (oi := _) (v := ?_) rfl (by kernel_rfl) (by kernel_rfl) (by kernel_rfl) (fun _ _ _ h => h) (Or.inl ⟨by rfl, ?_⟩) (by assumption) ?_; rotate_left
      · (intro w hSw; (try dsimp only at hSw); go_simp; try with_reducible rfl)
      try simp only [Act.put]
      refine wpAnyH_take (i := 4) (oi := _) (v := ?_) rfl (by kernel_rfl) (by kernel_rfl) (by kernel_rfl) (fun _ _ _ h => h) (Or.inl ⟨by rfl, ?_⟩) (by assumption) ?_; rotate_left
      · (intro w hSw; (try dsimp only at hSw); go_simp; try with_reducible rfl)
      try simp only [Act.put]
      refine wpAnyH_ready (rs := [0, 5]) (by kernel_rfl) (by simp) (AllReadyH.cons (o := _) rfl (fun K hK => ?_) (AllReadyH.cons (o := _) rfl (fun K hK => ?_) AllReadyH.nil))
      · have k0 := HT0.out.c0
        have k1 := HT0.out.c1
        go_simp
        refine hK.out _ _ (by exact hHeld) (fun hHeld => ?_)
        clear hK K
        try simp only [Act.put, List.setIfInBounds_toArray, List.set_cons_zero, List.set_cons_succ]
        refine wpAnyH_ready (rs := [5]) (by kernel_rfl) (by simp) (AllReadyH.cons (o := _) rfl (fun K hK => ?_) AllReadyH.nil)
        go_simp
        go_at_call 39
        (try dsimp only at hHeld)
        refine (HLo.out _).mono ?_
        rintro e w2 ⟨rfl, hb⟩
        have hp := And.intro ((hb.cell (World.block_lt_of_cell? _ _ hHeld.1)).trans hHeld.1) ((hb.cell (World.block_lt_of_cell? _ _ hHeld.2)).trans hHeld.2)
        have HT2 := Lib.hid (HT0.out.below hb)
        have HC2 := Lib.hid (HC0.out.below hb)
        have HB2 := Lib.hid (chn HB0.out hb)
        clear hb k0 k1
        refine hK.out _ _ (by exact hp) (fun hHeld => ?_)
        clear hK K
        try simp only [Act.put, List.setIfInBounds_toArray, List.set_cons_zero, List.set_cons_succ]
        refine wpAnyH_ready (rs := [6]) (by kernel_rfl) (by simp) (AllReadyH.cons (o := _) rfl (fun K hK => ?_) AllReadyH.nil)
        go_simp
        go_at_call 54
        refine (HSu.out _).mono ?_
        rintro e w3 ⟨rfl, hb⟩
        have hp3 := And.intro ((hb.cell (World.block_lt_of_cell? _ _ hp.1)).trans hp.1) ((hb.cell (World.block_lt_of_cell? _ _ hp.2)).trans hp.2)
        have HT3 := Lib.hid (HT2.out.below hb)
        have HC3 := Lib.hid (HC2.out.below hb)
        have HB3 := Lib.hid (chn HB2.out hb)
        clear hb
        refine hK.out _ _ (by exact hp3) (fun hHeld => ?_)
        clear hK K
        try simp only [Act.put, List.setIfInBounds_toArray, List.set_cons_zero, List.set_cons_succ]
        refine wpAnyH_ready (rs := [7]) (by kernel_rfl) (by simp) (AllReadyH.cons (o := _) rfl (fun K hK => ?_) AllReadyH.nil)
        have k0 := HT3.out.c0
        have k1 := HT3.out.c1
        have f0 := HT3.out.f0
        have f1 := HT3.out.f1
        go_simp
        refine hK.out _ _ (by exact ⟨((World.cell?_setCell_far _ _ _ _ HNE.out).trans (World.cell?_setCell_far _ _ _ _ HNE.out)).trans hp3.1, ((World.cell?_setCell_far _ _ _ _ HNE.out).trans (World.cell?_setCell_far _ _ _ _ HNE.out)).trans hp3.2⟩) (fun hHeld => ?_)
        clear hK K
        clear k0 k1 f0 f1 hp hp3
        refine wpAnyH_done (by kernel_rfl) ?_ _
        have HT4 := Lib.hid ((HT3.out.one x2).two y2)
        have HC4 := Lib.hid ((HC3.out.far HNW.out 0 (.int .i64 x2)).far HNW.out 1 (.int .i64 y2))
        have HB4 := Lib.hid ((HB3.out.setCell (p := ⟨tb, 0, none⟩) (Nat.le_of_lt HLT.out) (.int .i64 x2)).setCell (p := ⟨tb, 1, none⟩) (Nat.le_of_lt HLT.out) (.int .i64 y2))
        go_wp2_with fail
        go_roundw
        case rel => exact ⟨k + 1, by omega, by go_num, by rw [HN.out]; exact HT4.out, HC4.out, HB4.out⟩
        case measure => simp [intOf]; omega
      · go_simp
        go_at_call 39
        (try dsimp only at hHeld)
        refine (HLo.out _).mono ?_
        rintro e w2 ⟨rfl, hb⟩
        have hp := And.intro ((hb.cell (World.block_lt_of_cell? _ _ hHeld.1)).trans hHeld.1) ((hb.cell (World.block_lt_of_cell? _ _ hHeld.2)).trans hHeld.2)
        have HT2 := Lib.hid (HT0.out.below hb)
        have HC2 := Lib.hid (HC0.out.below hb)
        have HB2 := Lib.hid (chn HB0.out hb)
        clear hb
        refine hK.out _ _ (by exact hp) (fun hHeld => ?_)
        clear hK K
        try simp only [Act.put, List.setIfInBounds_toArray, List.set_cons_zero, List.set_cons_succ]
        refine wpAnyH_ready (rs := [0]) (by kernel_rfl) (by simp) (AllReadyH.cons (o := _) rfl (fun K hK => ?_) AllReadyH.nil)
        have k0 := HT2.out.c0
        have k1 := HT2.out.c1
        go_simp
        refine hK.out _ _ (by exact hp) (fun hHeld => ?_)
        clear hK K
        try simp only [Act.put, List.setIfInBounds_toArray, List.set_cons_zero, List.set_cons_succ]
        clear k0 k1
        refine wpAnyH_ready (rs := [6]) (by kernel_rfl) (by simp) (AllReadyH.cons (o := _) rfl (fun K hK => ?_) AllReadyH.nil)
        go_simp
        go_at_call 54
        refine (HSu.out _).mono ?_
        rintro e w3 ⟨rfl, hb⟩
        have hp3 := And.intro ((hb.cell (World.block_lt_of_cell? _ _ hp.1)).trans hp.1) ((hb.cell (World.block_lt_of_cell? _ _ hp.2)).trans hp.2)
        have HT3 := Lib.hid (HT2.out.below hb)
        have HC3 := Lib.hid (HC2.out.below hb)
        have HB3 := Lib.hid (chn HB2.out hb)
        clear hb
        refine hK.out _ _ (by exact hp3) (fun hHeld => ?_)
        clear hK K
        try simp only [Act.put, List.setIfInBounds_toArray, List.set_cons_zero, List.set_cons_succ]
        refine wpAnyH_ready (rs := [7]) (by kernel_rfl) (by simp) (AllReadyH.cons (o := _) rfl (fun K hK => ?_) AllReadyH.nil)
        have k0 := HT3.out.c0
        have k1 := HT3.out.c1
        have f0 := HT3.out.f0
        have f1 := HT3.out.f1
        go_simp
        refine hK.out _ _ (by exact ⟨((World.cell?_setCell_far _ _ _ _ HNE.out).trans (World.cell?_setCell_far _ _ _ _ HNE.out)).trans hp3.1, ((World.cell?_setCell_far _ _ _ _ HNE.out).trans (World.cell?_setCell_far _ _ _ _ HNE.out)).trans hp3.2⟩) (fun hHeld => ?_)
        clear hK K
        clear k0 k1 f0 f1 hp hp3
        refine wpAnyH_done (by kernel_rfl) ?_ _
        have HT4 := Lib.hid ((HT3.out.one x2).two y2)
        have HC4 := Lib.hid ((HC3.out.far HNW.out 0 (.int .i64 x2)).far HNW.out 1 (.int .i64 y2))
        have HB4 := Lib.hid ((HB3.out.setCell (p := ⟨tb, 0, none⟩) (Nat.le_of_lt HLT.out) (.int .i64 x2)).setCell (p := ⟨tb, 1, none⟩) (Nat.le_of_lt HLT.out) (.int .i64 y2))
        go_wp2_with fail
        go_roundw
        case rel => exact ⟨k + 1, by omega, by go_num, by rw [HN.out]; exact HT4.out, HC4.out, HB4.out⟩
        case measure => simp [intOf]; omega
    · obtain rfl : k = n := by omega
      have e1 : X.1 = (sumF (nn b) (nn p) k).1 := by rw [HX.out]; rfl
      have e2 : X.2 = (sumF (nn b) (nn p) k).2 := by rw [HX.out]; rfl
      rw [← e1, ← e2] at HT
      generalize X.1 = x at *
      generalize X.2 = y at *
      have k0 := HT.out.c0
      have k1 := HT.out.c1
      have r0 := HC.out.c0
      have r1 := HC.out.c1
      have f0 := HC.out.f0
      have f1 := HC.out.f1
      have j0 := (HC.out.one x).c0
      have j1 := ((HC.out.one x).two y).c1
      have HBE := Lib.hid ((HB.out.setCell (p := ⟨w.heap.size, 0, none⟩) (Nat.le_refl _) (.int .i64 x)).setCell (p := ⟨w.heap.size, 1, none⟩) (Nat.le_refl _) (.int .i64 y))
      clear e1 e2 HX HP HOK HNB HL0
      go_wp2_with fail
      refine bodyPost_ret (v := .agg #[.int .i64 x, .int .i64 y]) (by simp [results, Try.results41, go_sem, j0, j1]) rfl ⟨rfl, HBE.out⟩
theorem mayS_iff {n : Nat} {p b : Nat → Int} : mayS n p b = true ↔ n ≤ 4 ∧ okS p b n = true := by unfold mayS; simp
/-- a fraction's box, and all that was there -/
def S2 (W w : World) (ab : Nat) : Prop := w.cell? ⟨ab, 0, none⟩ = some (.int .i64 1) ∧ w.cell? ⟨ab, 1, none⟩ = some (.int .i64 1) ∧ Below W.heap.size W w
theorem S2.drew {W w : World} {ab : Nat} (h : S2 W w ab) : S2 W w.drew ab := ⟨h.1, h.2.1, h.2.2.drew⟩
theorem S2.below {W w w' : World} {ab : Nat} (h : S2 W w ab) (q : Below w.heap.size w w') : S2 W w' ab :=
  ⟨(q.cell (World.block_lt_of_cell? _ _ h.1)).trans h.1, (q.cell (World.block_lt_of_cell? _ _ h.2.1)).trans h.2.1, chn h.2.2 q⟩
theorem keep_S2 {f : Nat} {xs : Array Value} {x y : Nat} {w W : World} {ab : Nat} (h : S2 W w ab) (hc : Calls Try.prog f xs w (FR x y w)) :
    Calls Try.prog f xs w (fun e w' => e = .returned (.agg #[.int .i64 x, .int .i64 y]) ∧ S2 W w' ab) := hc.mono fun _ _ ⟨he, hb⟩ => ⟨he, h.below hb⟩
theorem S2.made (w : World) : S2 (w.alloc (.cells #[.int .i64 1, .int .i64 1] 82)) (w.alloc (.cells #[.int .i64 1, .int .i64 1] 82)) w.heap.size :=
  ⟨cell_of_row _ _ 0 _ _ _ (heap_alloc_new w _), cell_of_row _ _ 1 _ _ _ (heap_alloc_new w _), Below.refl _ _⟩
theorem gr_yes {x y : Nat} (w : World) (hx : x ≤ 1099511627776) (hy : y ≤ 1099511627776) (h : y < x) : Calls Try.prog 40 #[.agg #[.int .i64 x, .int .i64 y], .agg #[.int .i64 1, .int .i64 1]] w (FR x y w) := by
  have := gr_any x y w hx hy
  rw [if_pos h, if_pos h] at this
  exact this
theorem gr_no {x y : Nat} (w : World) (hx : x ≤ 1099511627776) (hy : y ≤ 1099511627776) (h : ¬ y < x) : Calls Try.prog 40 #[.agg #[.int .i64 x, .int .i64 y], .agg #[.int .i64 1, .int .i64 1]] w (FR 1 1 w) := by
  have := gr_any x y w hx hy
  rw [if_neg h, if_neg h] at this
  exact this
set_option maxHeartbeats 1000000 in
theorem Test_any {w : World} {v : Value} {n : Nat} {p b : Nat → Int} (h : SV w v n p b) : Calls Try.prog 21 #[v] w (YI (teE n p b) w) := by
  have HA := Lib.hid (areS_any h)
  have HP := Lib.hid h
  have mixed : Try.prog.follows .mixedOrders = true := by kernel_rfl
  obtain ⟨a, cap, rfl, hn1, hn2⟩ := h.slice
  clear h hn1 hn2
  cases hm : mayS n p b with
  | false =>
    obtain ⟨_, _, _, h4⟩ := su_no hm
    rw [hm] at HA
    rw [h4]
    clear hm h4
    go_enter Try.func21, Try.ntmps21
    go_wp2_with fail
    refine HA.out.mono ?_
    rintro e w1 ⟨rfl, hb⟩
    have HB := Lib.hid hb
    clear hb
    go_wp2_with fail
    go_ret
    exact ⟨rfl, HB.out⟩
  | true =>
    obtain ⟨_, _, _, h4⟩ := su_yes hm
    obtain ⟨hn4, hok⟩ := mayS_iff.1 hm
    rw [hm] at HA
    rw [h4]
    have HS := Lib.hid (fun (W : World) (q : Below w.heap.size w W) => shared_any (HP.out.below q) hn4 hok)
    obtain ⟨s1, s2, s3⟩ := sumF_small (B := nn b) (P := nn p) (n := n) hn4 (nn_bd hok)
    change (suF n p b).1 ≤ _ at s1
    change (suF n p b).2 ≤ _ at s2
    change 0 < (suF n p b).2 at s3
    generalize (suF n p b).1 = x at *
    generalize (suF n p b).2 = y at *
    have HL := Lib.hid (fun W => low_fit (T := 1) (D := 1) (x := 1) (y := 1) (by decide) (by decide) (by decide) (by decide) W)
    clear hm h4 hn4 hok
    obtain ⟨x2, y2, HG, hneq⟩ : ∃ x2 y2 : Nat, (∀ W, Hid (Calls Try.prog 40 #[.agg #[.int .i64 x, .int .i64 y], .agg #[.int .i64 1, .int .i64 1]] W (FR x2 y2 W))) ∧ ((((x2 : Int) == 1) = false ∧ (if y < x then 120 else 0) = (120 : Int)) ∨ (x2 = 1 ∧ y2 = 1 ∧ (if y < x then 120 else 0) = (0 : Int))) := by
      by_cases hxy : y < x
      · exact ⟨x, y, fun W => gr_yes W (by omega) (by omega) hxy, Or.inl ⟨by simp; omega, if_pos hxy⟩⟩
      · exact ⟨1, 1, fun W => gr_no W (by omega) (by omega) hxy, Or.inr ⟨rfl, rfl, if_neg hxy⟩⟩
    have HGG := Lib.hid HG
    clear HG s1 s2 s3
    rcases hneq with ⟨hq1, hq2⟩ | ⟨rfl, rfl, hq2⟩
    · rw [hq2]
      clear hq2
      go_enter Try.func21, Try.ntmps21
      go_wp2_with fail
      refine HA.out.mono ?_
      rintro e w1 ⟨rfl, hb⟩
      have HB := Lib.hid hb
      clear hb HA
      go_wp2_with fail
      refine (HL.out _).mono ?_
      rintro e w2 ⟨rfl, hb⟩
      have HB2 := Lib.hid (chn HB.out hb)
      have HX := Lib.hid (S2.made w2)
      have HB3 := Lib.hid (HB2.out.alloc HB2.out.size (.cells #[.int .i64 1, .int .i64 1] 82))
      clear hb HB HB2 HL
      go_wp2_with fail
      generalize w2.alloc (.cells #[.int .i64 1, .int .i64 1] 82) = W1 at *
      generalize w2.heap.size = ab at *
      go_region_held3 (fun w' => w'.cell? ⟨ab, 0, none⟩ = some (.int .i64 1) ∧ w'.cell? ⟨ab, 1, none⟩ = some (.int .i64 1) ∧ Below W1.heap.size W1 w')
        (first | assumption | exact S2.drew HX.out | exact HX.out | go_keep)
        (first | (go_at_call 41; refine (keep_S2 (by assumption) (HS.out _ (chn HB3.out (by assumption |> fun (h : S2 _ _ _) => h.2.2)))).mono ?_; rintro e w' ⟨rfl, hq⟩)
               | (go_at_call 40; refine (keep_S2 (by assumption) (HGG.out _).out).mono ?_; rintro e w' ⟨rfl, hq2⟩))
      all_goals
        have HQ := Lib.hid (chn HB3.out hq2.2.2)
        rename_i hHeld
        clear hq hq2 hHeld
        go_wp2_with fail
        go_ret
        exact ⟨rfl, HQ.out⟩
    · rw [hq2]
      clear hq2
      go_enter Try.func21, Try.ntmps21
      go_wp2_with fail
      refine HA.out.mono ?_
      rintro e w1 ⟨rfl, hb⟩
      have HB := Lib.hid hb
      clear hb HA
      go_wp2_with fail
      refine (HL.out _).mono ?_
      rintro e w2 ⟨rfl, hb⟩
      have HB2 := Lib.hid (chn HB.out hb)
      have HX := Lib.hid (S2.made w2)
      have HB3 := Lib.hid (HB2.out.alloc HB2.out.size (.cells #[.int .i64 1, .int .i64 1] 82))
      clear hb HB HB2 HL
      go_wp2_with fail
      generalize w2.alloc (.cells #[.int .i64 1, .int .i64 1] 82) = W1 at *
      generalize w2.heap.size = ab at *
      go_region_held3 (fun w' => w'.cell? ⟨ab, 0, none⟩ = some (.int .i64 1) ∧ w'.cell? ⟨ab, 1, none⟩ = some (.int .i64 1) ∧ Below W1.heap.size W1 w')
        (first | assumption | exact S2.drew HX.out | exact HX.out | go_keep)
        (first | (go_at_call 41; refine (keep_S2 (by assumption) (HS.out _ (chn HB3.out (by assumption |> fun (h : S2 _ _ _) => h.2.2)))).mono ?_; rintro e w' ⟨rfl, hq⟩)
               | (go_at_call 40; refine (keep_S2 (by assumption) (HGG.out _).out).mono ?_; rintro e w' ⟨rfl, hq2⟩))
      all_goals
        have HQ := Lib.hid (chn HB3.out hq2.2.2)
        rename_i hHeld
        clear hq hq2 hHeld
        go_wp2_with fail
        go_ret
        exact ⟨rfl, HQ.out⟩
end Go.Proofs.Ytfjeoefnpcgnnaa.Sh
