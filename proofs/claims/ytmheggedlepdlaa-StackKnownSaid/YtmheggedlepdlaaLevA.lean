/- Tasks in memory; Level and Uses, the program's and the document's. -/
import Derived.Test.YtmheggedlepdlaaLevP
import Derived.WalkLawsBesides
import Derived.Lib.Hide
import Derived.Deep.QuietTactic
import Derived.BigQuiet
import Derived.Below
import Derived.OneCell
import Derived.RegionTactic
import Derived.StillTailTactics
import Derived.WalkMore
namespace Go.Proofs.Ytmheggedlepdlaa
open Go.RowKit Lv
set_option linter.unusedVariables false

theorem lt_of_cell {w : World} {p : Addr} {v : Value} (h : w.cell? p = some v) : p.block < w.heap.size := World.block_lt_of_cell? w p h
/-- tasks that can be read -/
def TK (w : World) (v : Value) (n : Nat) (z : Nat → Nat → Int) : Prop :=
  ∃ a cap, v = .slice a n cap ∧ n ≤ cap ∧ cap ≤ maxLen ∧ (a = none → cap = 0) ∧
    (0 < n → ∃ b off, a = some ⟨b, off, none⟩ ∧ ∀ i, i < n → ∀ j, j < 8 → w.cell? ⟨b, off + i * 8 + j, none⟩ = some (.int .i64 (z i j)))
/-- their Deadlines, what they use -/
def dl (z : Nat → Nat → Int) : Nat → Int := fun i => z i 1
def lo (z : Nat → Nat → Int) : Nat → Int := fun i => z i 3
/-- the eight cells of a task -/
structure TC (w : World) (b o : Nat) (t : Nat → Int) : Prop where
  c0 : w.cell? ⟨b, o, none⟩ = some (.int .i64 (t 0))
  c1 : w.cell? ⟨b, o + 1, none⟩ = some (.int .i64 (t 1))
  c2 : w.cell? ⟨b, o + 2, none⟩ = some (.int .i64 (t 2))
  c3 : w.cell? ⟨b, o + 3, none⟩ = some (.int .i64 (t 3))
  c4 : w.cell? ⟨b, o + 4, none⟩ = some (.int .i64 (t 4))
  c5 : w.cell? ⟨b, o + 5, none⟩ = some (.int .i64 (t 5))
  c6 : w.cell? ⟨b, o + 6, none⟩ = some (.int .i64 (t 6))
  c7 : w.cell? ⟨b, o + 7, none⟩ = some (.int .i64 (t 7))
theorem TK.at {w : World} {n cap : Nat} {a : Option Addr} {m : Nat} {z : Nat → Nat → Int} (h : TK w (.slice a n cap) m z) {i : Nat} (hi : i < n) : ∃ b off, a = some ⟨b, off, none⟩ ∧ TC w b (off + i * 8) (z i) := by
  obtain ⟨a', cap', e, h1, h2, h3, h4⟩ := h
  obtain ⟨rfl, rfl, rfl⟩ : a = a' ∧ n = m ∧ cap = cap' := by simpa using e
  obtain ⟨b, off, rfl, hc⟩ := h4 (by omega)
  exact ⟨b, off, rfl, hc i hi 0 (by decide), hc i hi 1 (by decide), hc i hi 2 (by decide), hc i hi 3 (by decide), hc i hi 4 (by decide), hc i hi 5 (by decide), hc i hi 6 (by decide), hc i hi 7 (by decide)⟩
/-- two of them lie in one block -/
theorem TK.at2 {w : World} {n cap : Nat} {a : Option Addr} {m : Nat} {z : Nat → Nat → Int} (h : TK w (.slice a n cap) m z) {i j : Nat} (hi : i < n) (hj : j < n) : ∃ b off, a = some ⟨b, off, none⟩ ∧ TC w b (off + i * 8) (z i) ∧ TC w b (off + j * 8) (z j) := by
  obtain ⟨b, off, rfl, h1⟩ := h.at hi
  obtain ⟨b', off', e, h2⟩ := h.at hj
  injection e with e
  injection e with e1 e2 _
  subst e1; subst e2
  exact ⟨b, off, rfl, h1, h2⟩
theorem TK.slice {w : World} {v : Value} {n : Nat} {z : Nat → Nat → Int} (h : TK w v n z) : ∃ a cap, v = .slice a n cap ∧ n ≤ cap ∧ cap ≤ maxLen := by obtain ⟨a, cap, h1, h2, h3, _⟩ := h; exact ⟨a, cap, h1, h2, h3⟩
theorem TK.below {w w' : World} {v : Value} {n : Nat} {z : Nat → Nat → Int} (h : TK w v n z) (q : Below w.heap.size w w') : TK w' v n z := by
  obtain ⟨a, cap, h1, h2, h3, h4, h5⟩ := h
  exact ⟨a, cap, h1, h2, h3, h4, fun hn => by obtain ⟨b, off, e, hc⟩ := h5 hn; exact ⟨b, off, e, fun i hi j hj => (q.cell (lt_of_cell (hc i hi j hj))).trans (hc i hi j hj)⟩⟩
theorem TK.nil (w : World) (z : Nat → Nat → Int) : TK w (.slice none 0 0) 0 z := ⟨none, 0, rfl, Nat.le_refl _, Nat.zero_le _, fun _ => rfl, fun h => by cases h⟩
theorem TK.take {w : World} {a : Option Addr} {n cap m : Nat} {z : Nat → Nat → Int} (h : TK w (.slice a n cap) m z) {j : Nat} (hj : j ≤ n) : TK w (.slice a j cap) j z := by
  obtain ⟨a', cap', e, h1, h2, h3, h4⟩ := h
  obtain ⟨rfl, rfl, rfl⟩ : a = a' ∧ n = m ∧ cap = cap' := by simpa using e
  refine ⟨_, _, rfl, by omega, h2, h3, fun hp => ?_⟩
  obtain ⟨b, off, rfl, hc⟩ := h4 (by omega)
  exact ⟨b, off, rfl, fun i hi k hk => hc i (by omega) k hk⟩
/-- a task that the call has copied -/
def tko (t : Nat → Int) : Obj := .cells #[.int .i64 (t 0), .int .i64 (t 1), .int .i64 (t 2), .int .i64 (t 3), .int .i64 (t 4), .int .i64 (t 5), .int .i64 (t 6), .int .i64 (t 7)] 32
theorem tko_new (w : World) (t : Nat → Int) : (w.alloc (tko t)).cell? ⟨w.heap.size, 1, none⟩ = some (.int .i64 (t 1)) := cell_of_row _ _ 1 _ _ _ (heap_alloc_new w (tko t))
theorem tko_old {w : World} {p : Addr} {x : Value} (t : Nat → Int) (h : w.cell? p = some x) : (w.alloc (tko t)).cell? p = some x := (((Below.refl _ w).alloc (Nat.le_refl _) _).cell (lt_of_cell h)).trans h
theorem below_drewN {B : Nat} {a b : World} (h : Below B a b) (n : Nat) : Below B a (b.drewN n) := ⟨h.os, h.tape, h.output, h.size, h.block⟩
/-- a bool is answered -/
def IsB (b : Bool) (w : World) (e : Ending) (w' : World) : Prop := e = .returned (.bool b) ∧ w = w'
/-- a bool, a number is answered; what was there is as it was -/
def YB (b : Bool) (w : World) (e : Ending) (w' : World) : Prop := e = .returned (.bool b) ∧ Below w.heap.size w w'
def YI (n : Int) (w : World) (e : Ending) (w' : World) : Prop := e = .returned (.int .i64 n) ∧ Below w.heap.size w w'
theorem chn {w w1 w2 : World} (h : Below w.heap.size w w1) (k : Below w1.heap.size w1 w2) : Below w.heap.size w w2 := h.trans (k.mono h.size)

theorem one_any (m i : Int) (w : World) : Calls Try.prog 33 #[.int .i64 m, .int .i64 i] w (IsB (decide (0 ≤ i) && decide (i < m)) w) := by
  cases h0 : decide (0 ≤ i) with
  | false =>
    go_enter Try.func33, Try.ntmps33
    go_wp2
    go_ret
    exact ⟨by simp, rfl⟩
  | true =>
    go_enter Try.func33, Try.ntmps33
    go_wp2
    go_ret
    exact ⟨by simp, rfl⟩

set_option maxHeartbeats 1000000 in
theorem level_any {w : World} {v : Value} {n : Nat} {z : Nat → Nat → Int} (h : TK w v n z) (hnm : n ≤ 1000000) (i : Int) : Calls Try.prog 21 #[v, .int .i64 i] w (YI (lev n (dl z) i) w) := by
  obtain ⟨a, cap, rfl, hn1, hn2⟩ := h.slice
  have HP := Lib.hid h
  clear h
  have H1 := Lib.hid (one_any n i)
  cases hx : (decide (0 ≤ i) && decide (i < (n : Int))) with
  | false =>
    rw [hx] at H1
    have HF := Lib.hid (lev_none (D := dl z) (n := n) (i := i) (by simpa using hx))
    clear hx
    go_enter Try.func21, Try.ntmps21
    go_wp2_with fail
    refine (H1.out _).mono ?_
    rintro e w1 ⟨rfl, rfl⟩
    go_wp2_with fail
    go_ret
    exact ⟨by rw [HF.out]; rfl, Below.refl _ _⟩
  | true =>
    rw [hx] at H1
    obtain ⟨j, rfl⟩ : ∃ j : Nat, i = j := ⟨i.toNat, by simp at hx; omega⟩
    have hj : j < n := by simp at hx; omega
    have HL := Lib.hid (lev_at (D := dl z) hj)
    have hmx : n ≤ 1000000 := hnm
    obtain ⟨x, hxx⟩ : ∃ x, x = dl z j := ⟨_, rfl⟩
    rw [← hxx] at HL
    have HX := Lib.hid hxx
    clear hx hxx
    go_enter Try.func21, Try.ntmps21
    go_wp2_with fail
    refine (H1.out _).mono ?_
    rintro e w1 ⟨rfl, rfl⟩
    go_wp2_with fail
    clear H1
    go_loopw [5, 15] (fun s i wr => ∃ k : Nat, k ≤ n ∧ i = .int .i64 k ∧ s = .int .i64 (lc (dl z) x k) ∧ Hid (Below w.heap.size w wr)) (fun _ i _ => n - (intOf i).toNat)
    case atStart => exact ⟨0, by omega, rfl, rfl, Below.refl _ _⟩
    case round =>
      obtain ⟨k, hk, rfl, rfl, HB⟩ := hrel
      by_cases hlt : k < n
      · obtain ⟨b, off, rfl, c, d⟩ := (HP.out.below HB.out).at2 hlt hj
        obtain ⟨c0, c1, c2, c3, c4, c5, c6, c7⟩ := c
        obtain ⟨_, d1, _⟩ := d
        have hg := lc_ge (dl z) x k
        have hle := lc_le (dl z) x k
        have hs : lc (dl z) x (k + 1) = if x < z k 1 then lc (dl z) x k + 1 else lc (dl z) x k := rfl
        have hd : z j 1 = x := HX.out.symm
        rw [hd] at d1
        have HS := Lib.hid hs
        obtain ⟨q, hq⟩ : ∃ q, q = lc (dl z) x k := ⟨_, rfl⟩
        rw [← hq] at hg hle HS ⊢
        have hw : wrap64 (q + 1) = q + 1 := by unfold wrap64; omega
        have HQ := Lib.hid hq
        clear hq hs hd
        cases ht : decide (x < z k 1) with
        | true =>
          have HR := Lib.hid (HS.out.trans (if_pos (of_decide_eq_true ht)))
          clear HS
          go_wp2_with fail
          have hA := (Below.refl _ wr).alloc (Nat.le_refl _) (tko (z k))
          have e0 := tko_new wr (z k)
          have e1 := tko_old (z k) d1
          have HA := Lib.hid (HB.out.trans (hA.mono HB.out.size))
          unfold tko at hA e0 e1 HA
          generalize wr.alloc (.cells #[.int .i64 (z k 0), .int .i64 (z k 1), .int .i64 (z k 2), .int .i64 (z k 3), .int .i64 (z k 4), .int .i64 (z k 5), .int .i64 (z k 6), .int .i64 (z k 7)] 32) = w2 at *
          go_quiet (fail)
          go_wp2_with fail
          go_roundw
          case rel => exact ⟨k + 1, by omega, by go_num, by rw [HR.out], below_drewN HA.out _⟩
          case measure => simp [intOf]; omega
        | false =>
          have HR := Lib.hid (HS.out.trans (if_neg (of_decide_eq_false ht)))
          clear HS
          go_wp2_with fail
          have hA := (Below.refl _ wr).alloc (Nat.le_refl _) (tko (z k))
          have e0 := tko_new wr (z k)
          have e1 := tko_old (z k) d1
          have HA := Lib.hid (HB.out.trans (hA.mono HB.out.size))
          unfold tko at hA e0 e1 HA
          generalize wr.alloc (.cells #[.int .i64 (z k 0), .int .i64 (z k 1), .int .i64 (z k 2), .int .i64 (z k 3), .int .i64 (z k 4), .int .i64 (z k 5), .int .i64 (z k 6), .int .i64 (z k 7)] 32) = w2 at *
          go_quiet (fail)
          go_wp2_with fail
          go_roundw
          case rel => exact ⟨k + 1, by omega, by go_num, by rw [HR.out], below_drewN HA.out _⟩
          case measure => simp [intOf]; omega
      · obtain rfl : k = n := by omega
        go_wp2_with fail
        go_ret
        exact ⟨by rw [HL.out]; rfl, HB.out⟩
set_option maxHeartbeats 1000000 in
theorem rlevel_any {w : World} {v : Value} {n : Nat} {z : Nat → Nat → Int} (h : TK w v n z) (hnm : n ≤ 1000000) (i : Int) : Calls Try.prog 51 #[v, .int .i64 i] w (YI (lev n (dl z) i) w) := by
  obtain ⟨a, cap, rfl, hn1, hn2⟩ := h.slice
  have HP := Lib.hid h
  clear h
  cases hx : decide (i < 0) with
  | true =>
    have HF := Lib.hid (lev_none (D := dl z) (n := n) (i := i) (by have := of_decide_eq_true hx; omega))
    go_enter Try.func51, Try.ntmps51
    go_wp2_with fail
    go_ret
    exact ⟨by rw [HF.out]; rfl, Below.refl _ _⟩
  | false =>
    obtain ⟨j, rfl⟩ : ∃ j : Nat, i = j := ⟨i.toNat, by have := of_decide_eq_false hx; omega⟩
    cases hy : decide (n ≤ j) with
    | true =>
      have HF := Lib.hid (lev_none (D := dl z) (n := n) (i := (j : Int)) (by have := of_decide_eq_true hy; omega))
      go_enter Try.func51, Try.ntmps51
      go_wp2_with fail
      go_ret
      exact ⟨by rw [HF.out]; rfl, Below.refl _ _⟩
    | false =>
      have hj : j < n := by have := of_decide_eq_false hy; omega
      have HL := Lib.hid (lev_at (D := dl z) hj)
      have hmx : n ≤ 1000000 := hnm
      obtain ⟨x, hxx⟩ : ∃ x, x = dl z j := ⟨_, rfl⟩
      rw [← hxx] at HL
      have HX := Lib.hid hxx
      clear hxx
      go_enter Try.func51, Try.ntmps51
      go_wp2_with fail
      go_loopw [5, 6] (fun s i wr => ∃ k : Nat, k ≤ n ∧ i = .int .i64 k ∧ s = .int .i64 (lc (dl z) x k) ∧ Hid (Below w.heap.size w wr)) (fun _ i _ => n - (intOf i).toNat)
      case atStart => exact ⟨0, by omega, rfl, rfl, Below.refl _ _⟩
      case round =>
        obtain ⟨k, hk, rfl, rfl, HB⟩ := hrel
        by_cases hlt : k < n
        · obtain ⟨b, off, rfl, c, d⟩ := (HP.out.below HB.out).at2 hlt hj
          obtain ⟨_, c1, _⟩ := c
          obtain ⟨_, d1, _⟩ := d
          have hg := lc_ge (dl z) x k
          have hle := lc_le (dl z) x k
          have hs : lc (dl z) x (k + 1) = if x < z k 1 then lc (dl z) x k + 1 else lc (dl z) x k := rfl
          have hd : z j 1 = x := HX.out.symm
          rw [hd] at d1
          have HS := Lib.hid hs
          obtain ⟨q, hq⟩ : ∃ q, q = lc (dl z) x k := ⟨_, rfl⟩
          rw [← hq] at hg hle HS ⊢
          have hw : wrap64 (q + 1) = q + 1 := by unfold wrap64; omega
          have HQ := Lib.hid hq
          clear hq hs hd
          cases ht : decide (x < z k 1) with
          | true =>
            have HR := Lib.hid (HS.out.trans (if_pos (of_decide_eq_true ht)))
            clear HS
            go_wp2_with fail
            go_quiet (fail)
            go_wp2_with fail
            go_roundw
            case rel => exact ⟨k + 1, by omega, by go_num, by rw [HR.out], below_drewN HB.out _⟩
            case measure => simp [intOf]; omega
          | false =>
            have HR := Lib.hid (HS.out.trans (if_neg (of_decide_eq_false ht)))
            clear HS
            go_wp2_with fail
            go_quiet (fail)
            go_wp2_with fail
            go_roundw
            case rel => exact ⟨k + 1, by omega, by go_num, by rw [HR.out], below_drewN HB.out _⟩
            case measure => simp [intOf]; omega
        · obtain rfl : k = n := by omega
          go_wp2_with fail
          go_ret
          exact ⟨by rw [HL.out]; rfl, HB.out⟩
theorem uses_any {w : World} {v : Value} {n : Nat} {z : Nat → Nat → Int} (h : TK w v n z) (i r : Int) : Calls Try.prog 14 #[v, .int .i64 i, .int .i64 r] w (IsB (us n (lo z) r i) w) := by
  obtain ⟨a, cap, rfl, hn1, hn2⟩ := h.slice
  have H1 := Lib.hid (one_any n i); have H2 := Lib.hid (one_any 8 r)
  unfold us
  cases hx : (decide (0 ≤ i) && decide (i < (n : Int))) with
  | false =>
    rw [hx] at H1
    go_enter Try.func14, Try.ntmps14
    go_wp2_with fail
    refine (H1.out _).mono ?_
    rintro e w1 ⟨rfl, rfl⟩
    go_wp2_with fail
    go_ret
    exact ⟨by simp, rfl⟩
  | true =>
    rw [hx] at H1
    cases hy : (decide (0 ≤ r) && decide (r < (8 : Int))) with
    | false =>
      rw [hy] at H2
      go_enter Try.func14, Try.ntmps14
      go_wp2_with fail
      refine (H1.out _).mono ?_
      rintro e w1 ⟨rfl, rfl⟩
      go_wp2_with fail
      refine (H2.out _).mono ?_
      rintro e w1 ⟨rfl, rfl⟩
      go_wp2_with fail
      go_ret
      exact ⟨by simp, rfl⟩
    | true =>
      rw [hy] at H2
      obtain ⟨j, rfl⟩ : ∃ j : Nat, i = j := ⟨i.toNat, by simp at hx; omega⟩
      have hj : j < n := by simp at hx; omega
      obtain ⟨b, off, rfl, _, _, _, c3, _⟩ := h.at hj
      simp at hy
      go_enter Try.func14, Try.ntmps14
      go_wp2_with fail
      refine (H1.out _).mono ?_
      rintro e w1 ⟨rfl, rfl⟩
      go_wp2_with fail
      refine (H2.out _).mono ?_
      rintro e w1 ⟨rfl, rfl⟩
      go_wp2_with fail
      go_ret
      exact ⟨by simp [bit, lo], rfl⟩
theorem ruses_any {w : World} {v : Value} {n : Nat} {z : Nat → Nat → Int} (h : TK w v n z) (i r : Int) : Calls Try.prog 46 #[v, .int .i64 i, .int .i64 r] w (IsB (us n (lo z) r i) w) := by
  obtain ⟨a, cap, rfl, hn1, hn2⟩ := h.slice
  unfold us
  cases h0 : decide (i < 0) with
  | true =>
    have e : decide (0 ≤ i) = false := by have := of_decide_eq_true h0; simp; omega
    have E := Lib.hid e
    clear e
    go_enter Try.func46, Try.ntmps46
    go_wp2_with fail
    go_ret
    exact ⟨by rw [E.out]; simp, rfl⟩
  | false =>
    obtain ⟨j, rfl⟩ : ∃ j : Nat, i = j := ⟨i.toNat, by have := of_decide_eq_false h0; omega⟩
    cases hy : decide (n ≤ j) with
    | true =>
      have e : decide ((j : Int) < n) = false := by have := of_decide_eq_true hy; simp; omega
      have E := Lib.hid e
      clear e
      go_enter Try.func46, Try.ntmps46
      go_wp2_with fail
      go_ret
      exact ⟨by rw [E.out]; simp, rfl⟩
    | false =>
      have hj : j < n := by have := of_decide_eq_false hy; omega
      have e : (decide (0 ≤ (j : Int)) && decide ((j : Int) < n)) = true := by simp; omega
      have E := Lib.hid e
      clear e
      cases h2 : decide (r < 0) with
      | true =>
        have e : decide (0 ≤ r) = false := by have := of_decide_eq_true h2; simp; omega
        have E2 := Lib.hid e
        clear e
        go_enter Try.func46, Try.ntmps46
        go_wp2_with fail
        go_ret
        exact ⟨by rw [E2.out]; simp, rfl⟩
      | false =>
        cases h3 : decide (8 ≤ r) with
        | true =>
          have e : decide (r < 8) = false := by have := of_decide_eq_true h3; simp; omega
          have E2 := Lib.hid e
          clear e
          go_enter Try.func46, Try.ntmps46
          go_wp2_with fail
          go_ret
          exact ⟨by rw [E2.out]; simp, rfl⟩
        | false =>
          have e : (decide (0 ≤ r) && decide (r < (8 : Int))) = true := by have := of_decide_eq_false h2; have := of_decide_eq_false h3; simp; omega
          have E2 := Lib.hid e
          have hr : 0 ≤ r ∧ r < 8 := by simpa using e
          clear e
          obtain ⟨b, off, rfl, _, _, _, c3, _⟩ := h.at hj
          go_enter Try.func46, Try.ntmps46
          go_wp2_with fail
          go_ret
          exact ⟨by rw [E.out, E2.out]; simp [bit, lo], rfl⟩
theorem uses_fit {w : World} {v : Value} {n : Nat} {z : Nat → Nat → Int} (h : TK w v n z) {i r : Int} {x : Bool} (hx : us n (lo z) r i = x) : Calls Try.prog 14 #[v, .int .i64 i, .int .i64 r] w (fun e w' => e = .returned (.bool x) ∧ w' = w) := by
  subst hx; exact (uses_any h i r).mono fun _ _ h => ⟨h.1, h.2.symm⟩
theorem TK.drewN {w : World} {v : Value} {n : Nat} {z : Nat → Nat → Int} (h : TK w v n z) (m : Nat) : TK (w.drewN m) v n z := h
end Go.Proofs.Ytmheggedlepdlaa
