/- Partitions in memory; whether they may be asked: the program's answer. -/
import Derived.Test.YthhdfmpoebedcaaDelP
import Derived.Test.YthhdfmpoebedcaaDemB
import Derived.OwnWalk
namespace Go.Proofs.Ythhdfmpoebedcaa
open Go.RowKit Tk De Dl
set_option linter.unusedVariables false

/-- partitions that can be read -/
def PS (w : World) (v : Value) (ps : List Pn) : Prop :=
  ∃ a cap, v = .slice a ps.length cap ∧ ps.length ≤ cap ∧ cap ≤ maxLen ∧ (a = none → cap = 0) ∧
    (0 < ps.length → ∃ b off, a = some ⟨b, off, none⟩ ∧ ∀ i, i < ps.length → w.cell? ⟨b, off + i * 3, none⟩ = some (.int .i64 (ps.getD i p0).per) ∧
      w.cell? ⟨b, off + i * 3 + 1, none⟩ = some (.int .i64 (ps.getD i p0).bud) ∧ ∃ tv, w.cell? ⟨b, off + i * 3 + 2, none⟩ = some tv ∧ TK w tv (ps.getD i p0).n (ps.getD i p0).z ∧ (ps.getD i p0).n ≤ 2199023255552)
theorem PS.slice {w : World} {v : Value} {ps : List Pn} (h : PS w v ps) : ∃ a cap, v = .slice a ps.length cap ∧ ps.length ≤ cap ∧ cap ≤ maxLen := by obtain ⟨a, cap, h1, h2, h3, _⟩ := h; exact ⟨a, cap, h1, h2, h3⟩
theorem PS.below {w w' : World} {v : Value} {ps : List Pn} (h : PS w v ps) (q : Below w.heap.size w w') : PS w' v ps := by
  obtain ⟨a, cap, h1, h2, h3, h4, h5⟩ := h
  refine ⟨a, cap, h1, h2, h3, h4, fun hn => ?_⟩
  obtain ⟨b, off, e, hc⟩ := h5 hn
  refine ⟨b, off, e, fun i hi => ?_⟩
  obtain ⟨c1, c2, tv, c3, c4, c5⟩ := hc i hi
  exact ⟨(q.cell (World.block_lt_of_cell? _ _ c1)).trans c1, (q.cell (World.block_lt_of_cell? _ _ c2)).trans c2, tv, (q.cell (World.block_lt_of_cell? _ _ c3)).trans c3, c4.below q, c5⟩
theorem PS.nil (w : World) : PS w (.slice none 0 0) [] := ⟨none, 0, rfl, Nat.le_refl _, Nat.zero_le _, fun _ => rfl, fun h => by cases h⟩
/-- the cells of one of them -/
structure PC (w : World) (b o : Nat) (p : Pn) (a : Option Addr) (cap : Nat) : Prop where
  c0 : w.cell? ⟨b, o, none⟩ = some (.int .i64 p.per)
  c1 : w.cell? ⟨b, o + 1, none⟩ = some (.int .i64 p.bud)
  c2 : w.cell? ⟨b, o + 2, none⟩ = some (.slice a p.n cap)
  t : TK w (.slice a p.n cap) p.n p.z
  l1 : p.n ≤ cap
  l2 : cap ≤ maxLen
  l3 : p.n ≤ 2199023255552
theorem PS.at {w : World} {n cap : Nat} {a : Option Addr} {ps : List Pn} (h : PS w (.slice a n cap) ps) {i : Nat} (hi : i < n) : ∃ b off ta tcap, a = some ⟨b, off, none⟩ ∧ PC w b (off + i * 3) (ps.getD i p0) ta tcap := by
  obtain ⟨a', cap', e, h1, h2, h3, h4⟩ := h
  obtain ⟨rfl, rfl, rfl⟩ : a = a' ∧ n = ps.length ∧ cap = cap' := by simpa using e
  obtain ⟨b, off, rfl, hc⟩ := h4 (by omega)
  obtain ⟨c1, c2, tv, c3, c4, c5⟩ := hc i hi
  obtain ⟨ta, tcap, rfl, l1, l2⟩ := c4.slice
  exact ⟨b, off, ta, tcap, rfl, c1, c2, c3, c4, l1, l2, c5⟩
/-- which they are: the other one of two lists that one value is -/
theorem PS.len {w : World} {n cap : Nat} {a : Option Addr} {ps : List Pn} (h : PS w (.slice a n cap) ps) : n = ps.length := by
  obtain ⟨a', cap', e, _⟩ := h
  simpa using (by simpa using e : a = a' ∧ n = ps.length ∧ cap = cap').2.1
theorem lt_of_block {w : World} {g : Nat} {o : Obj} (h : w.heap[g]? = some o) : g < w.heap.size := (Array.getElem?_eq_some_iff.1 h).1

theorem dwithin_any (n a b : Int) (w : World) : Calls Try.prog 64 #[.int .i64 n, .int .i64 a, .int .i64 b] w (IsB (inn a b n) w) := by
  unfold inn
  cases h0 : decide (a ≤ n) with
  | false =>
    go_enter Try.func64, Try.ntmps64
    go_wp2
    go_ret
    exact ⟨by simp, rfl⟩
  | true =>
    go_enter Try.func64, Try.ntmps64
    go_wp2
    go_ret
    exact ⟨by simp, rfl⟩
theorem dwithin_fit {n a b : Int} {t : Bool} (h : inn a b n = t) (w : World) : Calls Try.prog 64 #[.int .i64 n, .int .i64 a, .int .i64 b] w (IsB t w) := by subst h; exact dwithin_any n a b w
theorem dwithin_q {n a b : Int} {t : Bool} (h : inn a b n = t) (w : World) : Calls Try.prog 64 #[.int .i64 n, .int .i64 a, .int .i64 b] w (fun e w' => e = .returned (.bool t) ∧ w' = w) := (dwithin_fit h w).mono fun _ _ h => ⟨h.1, h.2.symm⟩
/-- is it one of so many -/
def one (n : Nat) (i : Int) : Bool := inn 0 ((n : Int) - 1) i
theorem one_iff {n : Nat} {i : Int} : one n i = true ↔ 0 ≤ i ∧ i < n := by
  unfold one
  rw [inn_iff]
  omega
theorem one_any (n : Nat) (i : Int) (w : World) (hn : n ≤ maxLen) : Calls Try.prog 52 #[.int .i64 n, .int .i64 i] w (IsB (one n i) w) := by
  have H1 := Lib.hid (dwithin_any i 0 ((n : Int) - 1) w)
  have hw : wrap64 ((n : Int) - 1) = (n : Int) - 1 := by unfold maxLen at hn; unfold wrap64; omega
  unfold one
  clear hn
  go_enter Try.func52, Try.ntmps52
  go_wp2_with fail
  refine H1.out.mono ?_
  rintro e w1 ⟨rfl, rfl⟩
  go_wp2_with fail
  go_ret
  exact ⟨rfl, rfl⟩
theorem one_fit {n : Nat} {i : Int} {R : Bool} (h : one n i = R) (w : World) (hn : n ≤ maxLen) : Calls Try.prog 52 #[.int .i64 n, .int .i64 i] w (IsB R w) := by subst h; exact one_any n i w hn

theorem uses_hit {z : Nat → Nat → Int} {g : Int} {n k : Nat} (hk : k < n) (h : z k 5 = g) : usesN z g n = true := usesN_iff.2 ⟨k, hk, h⟩
set_option maxHeartbeats 1000000 in
theorem has_any {w : World} {v : Value} {n : Nat} {z : Nat → Nat → Int} (h : TK w v n z) (g : Int) : Calls Try.prog 74 #[v, .int .i64 g] w (YB (usesN z g n) w) := by
  obtain ⟨a, cap, rfl, hn1, hn2⟩ := h.slice
  have HP := Lib.hid h
  clear h
  have hmx : n ≤ 9223372036854775807 := by unfold maxLen at hn2; omega
  obtain ⟨R, hR⟩ : ∃ R, R = usesN z g n := ⟨_, rfl⟩
  have HR := Lib.hid hR
  rw [← hR]
  clear hR
  go_enter Try.func74, Try.ntmps74
  go_wp2_with fail
  go_loopw [9] (fun i wr => ∃ k : Nat, k ≤ n ∧ i = .int .i64 k ∧ Hid (usesN z g k = false) ∧ Hid (Below w.heap.size w wr)) (fun i _ => n - (intOf i).toNat)
  case atStart => exact ⟨0, by omega, rfl, rfl, Below.refl _ _⟩
  case round =>
    obtain ⟨k, hk, rfl, HA, HB⟩ := hrel
    by_cases hlt : k < n
    · obtain ⟨b, off, rfl, c⟩ := (HP.out.below HB.out).at hlt
      obtain ⟨c0, c1, c2, c3, c4, c5, c6, c7⟩ := c
      have HB2 := Lib.hid (HB.out.alloc HB.out.size (tko (z k)))
      unfold tko at HB2
      cases hg : decide (z k 5 = g) with
      | true =>
        have HE : Hid (R = true) := HR.out.trans (uses_hit hlt (of_decide_eq_true hg))
        have hb : (z k 5 == g) = true := by simpa using hg
        clear hg
        go_wp2_with fail
        go_ret
        exact ⟨by rw [HE.out]; rfl, HB2.out⟩
      | false =>
        have HE : Hid (usesN z g (k + 1) = false) := by unfold Hid usesN; rw [HA.out, hg]; rfl
        have hb : (z k 5 == g) = false := by simpa using hg
        clear hg HA
        go_wp2_with fail
        go_roundw
        case rel => exact ⟨k + 1, by omega, by go_num, HE, HB2.out⟩
        case measure => simp [intOf]; omega
    · obtain rfl : k = n := by omega
      have HE : Hid (R = false) := HR.out.trans HA.out
      go_wp2_with fail
      go_ret
      exact ⟨by rw [HE.out]; rfl, HB.out⟩

theorem tko_at (w : World) (t : Nat → Int) {j : Nat} (hj : j < 8) : (w.alloc (tko t)).cell? ⟨w.heap.size, j, none⟩ = some (.int .i64 (t j)) := by
  have h := heap_alloc_new w (tko t)
  match j, hj with
  | 0, _ => exact cell_of_row _ _ 0 _ _ _ h
  | 1, _ => exact cell_of_row _ _ 1 _ _ _ h
  | 2, _ => exact cell_of_row _ _ 2 _ _ _ h
  | 3, _ => exact cell_of_row _ _ 3 _ _ _ h
  | 4, _ => exact cell_of_row _ _ 4 _ _ _ h
  | 5, _ => exact cell_of_row _ _ 5 _ _ _ h
  | 6, _ => exact cell_of_row _ _ 6 _ _ _ h
  | 7, _ => exact cell_of_row _ _ 7 _ _ _ h
/-- the program's test on what a task shares -/
def shP (bud : Int) (t : Nat → Int) : Bool := if t 5 = 0 then decide (t 6 = 0) && decide (t 7 = 0) else inn 1 4 (t 5) && (inn 1 bud (t 6) && inn 1 ((t 2).tdiv (t 6)) (t 7))
theorem okT_sh {bud : Int} {t : Nat → Int} (h : tOK t = true) : okT bud t = (inn 0 (t 2) (t 4) && shP bud t) := by
  have h2 := (tOK_iff.1 h).2.2.2.2.1
  rw [Bool.eq_iff_iff, okT_iff]
  unfold shP
  simp only [Bool.and_eq_true, inn_iff]
  by_cases h5 : t 5 = 0
  · rw [if_pos h5, if_pos h5]
    simp only [Bool.and_eq_true, decide_eq_true_eq]
    omega
  · rw [if_neg h5, if_neg h5]
    simp only [Bool.and_eq_true, inn_iff]
    constructor
    · rintro ⟨a1, a2, a3, a4, a5, a6, a7, a8, a9⟩
      refine ⟨⟨a1, a2⟩, ⟨by omega, a4⟩, ⟨a5, a6⟩, a7, ?_⟩
      rw [Int.tdiv_eq_ediv_of_nonneg (by omega), Int.le_ediv_iff_mul_le (by omega), Int.mul_comm]
      exact a9
    · rintro ⟨⟨a1, a2⟩, ⟨a3, a4⟩, ⟨a5, a6⟩, a7, a8⟩
      rw [Int.tdiv_eq_ediv_of_nonneg (by omega), Int.le_ediv_iff_mul_le (by omega), Int.mul_comm] at a8
      refine ⟨a1, a2, by omega, a4, a5, a6, a7, ?_, a8⟩
      have : 1 * t 7 ≤ t 6 * t 7 := Int.mul_le_mul_of_nonneg_right a5 (by omega)
      omega
set_option maxHeartbeats 1000000 in
theorem shared_any (t : Nat → Int) (bud : Int) (w : World) (h : tOK t = true) : Calls Try.prog 75 #[tv t, .int .i64 bud] w (YB (shP bud t) w) := by
  have ht := tOK_iff.1 h
  clear h
  have HB := Lib.hid ((Below.refl _ w).alloc (Nat.le_refl _) (tko t))
  have z2 := tko_at w t (j := 2) (by decide)
  have z5 := tko_at w t (j := 5) (by decide)
  have z6 := tko_at w t (j := 6) (by decide)
  have z7 := tko_at w t (j := 7) (by decide)
  unfold tko at HB z2 z5 z6 z7
  unfold shP tv
  generalize t 0 = t0 at *
  generalize t 1 = t1 at *
  generalize t 2 = t2 at *
  generalize t 3 = t3 at *
  generalize t 4 = t4 at *
  generalize t 5 = t5 at *
  generalize t 6 = t6 at *
  generalize t 7 = t7 at *
  cases h0 : t5 == 0 with
  | true =>
    rw [if_pos (by simpa using h0)]
    cases h1 : t6 == 0 with
    | false =>
      go_enter Try.func75, Try.ntmps75
      go_wp2_with fail
      go_ret
      exact ⟨by rw [show decide (t6 = 0) = false by simpa using h1]; rfl, HB.out⟩
    | true =>
      go_enter Try.func75, Try.ntmps75
      go_wp2_with fail
      go_ret
      exact ⟨by rw [show decide (t6 = 0) = true by simpa using h1, Bool.true_and]; rfl, HB.out⟩
  | false =>
    rw [if_neg (by simpa using h0)]
    cases x1 : inn 1 4 t5 with
    | false =>
      go_enter Try.func75, Try.ntmps75
      go_wp2_with fail
      go_quiet ((go_at_call 64; exact Calls.quiet_of_same (dwithin_q (by assumption) _)))
      go_wp2_with fail
      go_ret
      exact ⟨by simp, below_drewN HB.out _⟩
    | true =>
      cases x2 : inn 1 bud t6 with
      | false =>
        go_enter Try.func75, Try.ntmps75
        go_wp2_with fail
        go_quiet ((go_at_call 64; exact Calls.quiet_of_same (dwithin_q (by assumption) _)))
        go_wp2_with fail
        go_ret
        exact ⟨by simp, below_drewN HB.out _⟩
      | true =>
        have hn := (inn_iff.1 x2).1
        have hz : (t6 == 0) = false := by simp; omega
        have hq1 : t2.tdiv t6 ≤ t2 := Int.tdiv_le_self _ (by omega)
        have hq2 : 0 ≤ t2.tdiv t6 := Int.tdiv_nonneg (by omega) (by omega)
        have hw : wrap64 (t2.tdiv t6) = t2.tdiv t6 := by unfold wrap64; omega
        have hw2 : IntKind.i64.wrap (t2.tdiv t6) = t2.tdiv t6 := by simp [IntKind.wrap, IntKind.bits, IntKind.signed]; omega
        obtain ⟨x3v, x3⟩ : ∃ v, inn 1 (t2.tdiv t6) t7 = v := ⟨_, rfl⟩
        rw [x3]
        clear hq1 hq2 ht
        go_enter Try.func75, Try.ntmps75
        go_wp2_with fail
        go_quiet ((go_at_call 64; exact Calls.quiet_of_same (dwithin_q (by assumption) _)))
        go_wp2_with fail
        go_ret
        exact ⟨by simp, below_drewN HB.out _⟩
theorem shared_fit {t : Nat → Int} {bud : Int} {R : Bool} (h : tOK t = true) (hr : shP bud t = R) (w : World) : Calls Try.prog 75 #[tv t, .int .i64 bud] w (YB R w) := by subst hr; exact shared_any t bud w h
end Go.Proofs.Ythhdfmpoebedcaa
