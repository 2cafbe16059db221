/- Tasks in memory; Level and Uses, the program's and the document's. -/
import Derived.Test.YtkkmfpllgjoceaaGreatLevP
import Derived.WalkLawsBesides
import Derived.Lib.Hide
import Derived.Deep.QuietTactic
import Derived.BigQuiet
import Derived.Below
import Derived.OneCell
import Derived.RegionTactic
import Derived.StillTailTactics
import Derived.WalkMore
import Derived.Test.YtkkmfpllgjoceaaGreatStaP
import Derived.OwnWalk
import Derived.ArgAppend
import Derived.Laws.OwnMore
import Derived.Deep.RegionLawGrows
import Derived.Lib.QuietBelow
import Derived.IntWalk
import Derived.Deep.RegionHeld3
import Derived.Lib.SliceRun
namespace Go.Proofs.YtkkmfpllgjoceaaGreat.St
open Go.RowKit Lv
set_option linter.unusedVariables false
set_option maxRecDepth 100000

theorem lt_of_cell {w : World} {p : Addr} {v : Value} (h : w.cell? p = some v) : p.block < w.heap.size := World.block_lt_of_cell? w p h
/-- tasks that can be read -/
def TK (w : World) (v : Value) (n : Nat) (z : Nat → Nat → Int) : Prop :=
  ∃ a cap, v = .slice a n cap ∧ n ≤ cap ∧ cap ≤ maxLen ∧ (a = none → cap = 0) ∧
    (0 < n → ∃ b off, a = some ⟨b, off, none⟩ ∧ ∀ i, i < n → ∀ j, j < 8 → w.cell? ⟨b, off + i * 8 + j, none⟩ = some (.int .i64 (z i j)))
/-- their Deadlines, what they use -/
def dl (z : Nat → Nat → Int) : Nat → Int := fun i => z i 1
def lo (z : Nat → Nat → Int) : Nat → Int := fun i => z i 3
/-- the eight cells of a task -/
structure TC (w : World) (b o : Nat) (t : Nat → Int) : Prop where
  c0 : w.cell? ⟨b, o, none⟩ = some (.int .i64 (t 0))
  c1 : w.cell? ⟨b, o + 1, none⟩ = some (.int .i64 (t 1))
  c2 : w.cell? ⟨b, o + 2, none⟩ = some (.int .i64 (t 2))
  c3 : w.cell? ⟨b, o + 3, none⟩ = some (.int .i64 (t 3))
  c4 : w.cell? ⟨b, o + 4, none⟩ = some (.int .i64 (t 4))
  c5 : w.cell? ⟨b, o + 5, none⟩ = some (.int .i64 (t 5))
  c6 : w.cell? ⟨b, o + 6, none⟩ = some (.int .i64 (t 6))
  c7 : w.cell? ⟨b, o + 7, none⟩ = some (.int .i64 (t 7))
theorem TK.at {w : World} {n cap : Nat} {a : Option Addr} {m : Nat} {z : Nat → Nat → Int} (h : TK w (.slice a n cap) m z) {i : Nat} (hi : i < n) : ∃ b off, a = some ⟨b, off, none⟩ ∧ TC w b (off + i * 8) (z i) := by
  obtain ⟨a', cap', e, h1, h2, h3, h4⟩ := h
  obtain ⟨rfl, rfl, rfl⟩ : a = a' ∧ n = m ∧ cap = cap' := by simpa using e
  obtain ⟨b, off, rfl, hc⟩ := h4 (by omega)
  exact ⟨b, off, rfl, hc i hi 0 (by decide), hc i hi 1 (by decide), hc i hi 2 (by decide), hc i hi 3 (by decide), hc i hi 4 (by decide), hc i hi 5 (by decide), hc i hi 6 (by decide), hc i hi 7 (by decide)⟩
/-- two of them lie in one block -/
theorem TK.at2 {w : World} {n cap : Nat} {a : Option Addr} {m : Nat} {z : Nat → Nat → Int} (h : TK w (.slice a n cap) m z) {i j : Nat} (hi : i < n) (hj : j < n) : ∃ b off, a = some ⟨b, off, none⟩ ∧ TC w b (off + i * 8) (z i) ∧ TC w b (off + j * 8) (z j) := by
  obtain ⟨b, off, rfl, h1⟩ := h.at hi
  obtain ⟨b', off', e, h2⟩ := h.at hj
  injection e with e
  injection e with e1 e2 _
  subst e1; subst e2
  exact ⟨b, off, rfl, h1, h2⟩
theorem TK.slice {w : World} {v : Value} {n : Nat} {z : Nat → Nat → Int} (h : TK w v n z) : ∃ a cap, v = .slice a n cap ∧ n ≤ cap ∧ cap ≤ maxLen := by obtain ⟨a, cap, h1, h2, h3, _⟩ := h; exact ⟨a, cap, h1, h2, h3⟩
theorem TK.below {w w' : World} {v : Value} {n : Nat} {z : Nat → Nat → Int} (h : TK w v n z) (q : Below w.heap.size w w') : TK w' v n z := by
  obtain ⟨a, cap, h1, h2, h3, h4, h5⟩ := h
  exact ⟨a, cap, h1, h2, h3, h4, fun hn => by obtain ⟨b, off, e, hc⟩ := h5 hn; exact ⟨b, off, e, fun i hi j hj => (q.cell (lt_of_cell (hc i hi j hj))).trans (hc i hi j hj)⟩⟩
theorem TK.nil (w : World) (z : Nat → Nat → Int) : TK w (.slice none 0 0) 0 z := ⟨none, 0, rfl, Nat.le_refl _, Nat.zero_le _, fun _ => rfl, fun h => by cases h⟩
theorem TK.take {w : World} {a : Option Addr} {n cap m : Nat} {z : Nat → Nat → Int} (h : TK w (.slice a n cap) m z) {j : Nat} (hj : j ≤ n) : TK w (.slice a j cap) j z := by
  obtain ⟨a', cap', e, h1, h2, h3, h4⟩ := h
  obtain ⟨rfl, rfl, rfl⟩ : a = a' ∧ n = m ∧ cap = cap' := by simpa using e
  refine ⟨_, _, rfl, by omega, h2, h3, fun hp => ?_⟩
  obtain ⟨b, off, rfl, hc⟩ := h4 (by omega)
  exact ⟨b, off, rfl, fun i hi k hk => hc i (by omega) k hk⟩
/-- a task that the call has copied -/
def tko (t : Nat → Int) : Obj := .cells #[.int .i64 (t 0), .int .i64 (t 1), .int .i64 (t 2), .int .i64 (t 3), .int .i64 (t 4), .int .i64 (t 5), .int .i64 (t 6), .int .i64 (t 7)] 55
theorem tko_new (w : World) (t : Nat → Int) : (w.alloc (tko t)).cell? ⟨w.heap.size, 1, none⟩ = some (.int .i64 (t 1)) := cell_of_row _ _ 1 _ _ _ (heap_alloc_new w (tko t))
theorem tko_old {w : World} {p : Addr} {x : Value} (t : Nat → Int) (h : w.cell? p = some x) : (w.alloc (tko t)).cell? p = some x := (((Below.refl _ w).alloc (Nat.le_refl _) _).cell (lt_of_cell h)).trans h
theorem below_drewN {B : Nat} {a b : World} (h : Below B a b) (n : Nat) : Below B a (b.drewN n) := ⟨h.os, h.tape, h.output, h.size, h.block⟩
/-- a bool is answered -/
def IsB (b : Bool) (w : World) (e : Ending) (w' : World) : Prop := e = .returned (.bool b) ∧ w = w'
/-- a bool, a number is answered; what was there is as it was -/
def YB (b : Bool) (w : World) (e : Ending) (w' : World) : Prop := e = .returned (.bool b) ∧ Below w.heap.size w w'
def YI (n : Int) (w : World) (e : Ending) (w' : World) : Prop := e = .returned (.int .i64 n) ∧ Below w.heap.size w w'
theorem chn {w w1 w2 : World} (h : Below w.heap.size w w1) (k : Below w1.heap.size w1 w2) : Below w.heap.size w w2 := h.trans (k.mono h.size)

theorem one_any (m i : Int) (w : World) : Calls Tryz.prog 174 #[.int .i64 m, .int .i64 i] w (IsB (decide (0 ≤ i) && decide (i < m)) w) := by
  cases h0 : decide (0 ≤ i) with
  | false =>
    go_enter Tryz.func174, Tryz.ntmps174
    go_wp2
    go_ret
    exact ⟨by simp, rfl⟩
  | true =>
    go_enter Tryz.func174, Tryz.ntmps174
    go_wp2
    go_ret
    exact ⟨by simp, rfl⟩

set_option maxHeartbeats 1000000 in
theorem level_any {w : World} {v : Value} {n : Nat} {z : Nat → Nat → Int} (h : TK w v n z) (hnm : n ≤ 1000000) (i : Int) : Calls Tryz.prog 130 #[v, .int .i64 i] w (YI (lev n (dl z) i) w) := by
  obtain ⟨a, cap, rfl, hn1, hn2⟩ := h.slice
  have HP := Lib.hid h
  clear h
  have H1 := Lib.hid (one_any n i)
  cases hx : (decide (0 ≤ i) && decide (i < (n : Int))) with
  | false =>
    rw [hx] at H1
    have HF := Lib.hid (lev_none (D := dl z) (n := n) (i := i) (by simpa using hx))
    clear hx
    go_enter Tryz.func130, Tryz.ntmps130
    go_wp2_with fail
    refine (H1.out _).mono ?_
    rintro e w1 ⟨rfl, rfl⟩
    go_wp2_with fail
    go_ret
    exact ⟨by rw [HF.out]; rfl, Below.refl _ _⟩
  | true =>
    rw [hx] at H1
    obtain ⟨j, rfl⟩ : ∃ j : Nat, i = j := ⟨i.toNat, by simp at hx; omega⟩
    have hj : j < n := by simp at hx; omega
    have HL := Lib.hid (lev_at (D := dl z) hj)
    have hmx : n ≤ 1000000 := hnm
    obtain ⟨x, hxx⟩ : ∃ x, x = dl z j := ⟨_, rfl⟩
    rw [← hxx] at HL
    have HX := Lib.hid hxx
    clear hx hxx
    go_enter Tryz.func130, Tryz.ntmps130
    go_wp2_with fail
    refine (H1.out _).mono ?_
    rintro e w1 ⟨rfl, rfl⟩
    go_wp2_with fail
    clear H1
    go_loopw [5, 15] (fun s i wr => ∃ k : Nat, k ≤ n ∧ i = .int .i64 k ∧ s = .int .i64 (lc (dl z) x k) ∧ Hid (Below w.heap.size w wr)) (fun _ i _ => n - (intOf i).toNat)
    case atStart => exact ⟨0, by omega, rfl, rfl, Below.refl _ _⟩
    case round =>
      obtain ⟨k, hk, rfl, rfl, HB⟩ := hrel
      by_cases hlt : k < n
      · obtain ⟨b, off, rfl, c, d⟩ := (HP.out.below HB.out).at2 hlt hj
        obtain ⟨c0, c1, c2, c3, c4, c5, c6, c7⟩ := c
        obtain ⟨_, d1, _⟩ := d
        have hg := lc_ge (dl z) x k
        have hle := lc_le (dl z) x k
        have hs : lc (dl z) x (k + 1) = if x < z k 1 then lc (dl z) x k + 1 else lc (dl z) x k := rfl
        have hd : z j 1 = x := HX.out.symm
        rw [hd] at d1
        have HS := Lib.hid hs
        obtain ⟨q, hq⟩ : ∃ q, q = lc (dl z) x k := ⟨_, rfl⟩
        rw [← hq] at hg hle HS ⊢
        have hw : wrap64 (q + 1) = q + 1 := by unfold wrap64; omega
        have HQ := Lib.hid hq
        clear hq hs hd
        cases ht : decide (x < z k 1) with
        | true =>
          have HR := Lib.hid (HS.out.trans (if_pos (of_decide_eq_true ht)))
          clear HS
          go_wp2_with fail
          have hA := (Below.refl _ wr).alloc (Nat.le_refl _) (tko (z k))
          have e0 := tko_new wr (z k)
          have e1 := tko_old (z k) d1
          have HA := Lib.hid (HB.out.trans (hA.mono HB.out.size))
          unfold tko at hA e0 e1 HA
          generalize wr.alloc (.cells #[.int .i64 (z k 0), .int .i64 (z k 1), .int .i64 (z k 2), .int .i64 (z k 3), .int .i64 (z k 4), .int .i64 (z k 5), .int .i64 (z k 6), .int .i64 (z k 7)] 55) = w2 at *
          go_quiet (fail)
          go_wp2_with fail
          go_roundw
          case rel => exact ⟨k + 1, by omega, by go_num, by rw [HR.out], below_drewN HA.out _⟩
          case measure => simp [intOf]; omega
        | false =>
          have HR := Lib.hid (HS.out.trans (if_neg (of_decide_eq_false ht)))
          clear HS
          go_wp2_with fail
          have hA := (Below.refl _ wr).alloc (Nat.le_refl _) (tko (z k))
          have e0 := tko_new wr (z k)
          have e1 := tko_old (z k) d1
          have HA := Lib.hid (HB.out.trans (hA.mono HB.out.size))
          unfold tko at hA e0 e1 HA
          generalize wr.alloc (.cells #[.int .i64 (z k 0), .int .i64 (z k 1), .int .i64 (z k 2), .int .i64 (z k 3), .int .i64 (z k 4), .int .i64 (z k 5), .int .i64 (z k 6), .int .i64 (z k 7)] 55) = w2 at *
          go_quiet (fail)
          go_wp2_with fail
          go_roundw
          case rel => exact ⟨k + 1, by omega, by go_num, by rw [HR.out], below_drewN HA.out _⟩
          case measure => simp [intOf]; omega
      · obtain rfl : k = n := by omega
        go_wp2_with fail
        go_ret
        exact ⟨by rw [HL.out]; rfl, HB.out⟩
set_option maxHeartbeats 1000000 in
theorem rlevel_any {w : World} {v : Value} {n : Nat} {z : Nat → Nat → Int} (h : TK w v n z) (hnm : n ≤ 1000000) (i : Int) : Calls Tryz.prog 46 #[v, .int .i64 i] w (YI (lev n (dl z) i) w) := by
  obtain ⟨a, cap, rfl, hn1, hn2⟩ := h.slice
  have HP := Lib.hid h
  clear h
  cases hx : decide (i < 0) with
  | true =>
    have HF := Lib.hid (lev_none (D := dl z) (n := n) (i := i) (by have := of_decide_eq_true hx; omega))
    go_enter Tryz.func46, Tryz.ntmps46
    go_wp2_with fail
    go_ret
    exact ⟨by rw [HF.out]; rfl, Below.refl _ _⟩
  | false =>
    obtain ⟨j, rfl⟩ : ∃ j : Nat, i = j := ⟨i.toNat, by have := of_decide_eq_false hx; omega⟩
    cases hy : decide (n ≤ j) with
    | true =>
      have HF := Lib.hid (lev_none (D := dl z) (n := n) (i := (j : Int)) (by have := of_decide_eq_true hy; omega))
      go_enter Tryz.func46, Tryz.ntmps46
      go_wp2_with fail
      go_ret
      exact ⟨by rw [HF.out]; rfl, Below.refl _ _⟩
    | false =>
      have hj : j < n := by have := of_decide_eq_false hy; omega
      have HL := Lib.hid (lev_at (D := dl z) hj)
      have hmx : n ≤ 1000000 := hnm
      obtain ⟨x, hxx⟩ : ∃ x, x = dl z j := ⟨_, rfl⟩
      rw [← hxx] at HL
      have HX := Lib.hid hxx
      clear hxx
      go_enter Tryz.func46, Tryz.ntmps46
      go_wp2_with fail
      go_loopw [5, 6] (fun s i wr => ∃ k : Nat, k ≤ n ∧ i = .int .i64 k ∧ s = .int .i64 (lc (dl z) x k) ∧ Hid (Below w.heap.size w wr)) (fun _ i _ => n - (intOf i).toNat)
      case atStart => exact ⟨0, by omega, rfl, rfl, Below.refl _ _⟩
      case round =>
        obtain ⟨k, hk, rfl, rfl, HB⟩ := hrel
        by_cases hlt : k < n
        · obtain ⟨b, off, rfl, c, d⟩ := (HP.out.below HB.out).at2 hlt hj
          obtain ⟨_, c1, _⟩ := c
          obtain ⟨_, d1, _⟩ := d
          have hg := lc_ge (dl z) x k
          have hle := lc_le (dl z) x k
          have hs : lc (dl z) x (k + 1) = if x < z k 1 then lc (dl z) x k + 1 else lc (dl z) x k := rfl
          have hd : z j 1 = x := HX.out.symm
          rw [hd] at d1
          have HS := Lib.hid hs
          obtain ⟨q, hq⟩ : ∃ q, q = lc (dl z) x k := ⟨_, rfl⟩
          rw [← hq] at hg hle HS ⊢
          have hw : wrap64 (q + 1) = q + 1 := by unfold wrap64; omega
          have HQ := Lib.hid hq
          clear hq hs hd
          cases ht : decide (x < z k 1) with
          | true =>
            have HR := Lib.hid (HS.out.trans (if_pos (of_decide_eq_true ht)))
            clear HS
            go_wp2_with fail
            go_quiet (fail)
            go_wp2_with fail
            go_roundw
            case rel => exact ⟨k + 1, by omega, by go_num, by rw [HR.out], below_drewN HB.out _⟩
            case measure => simp [intOf]; omega
          | false =>
            have HR := Lib.hid (HS.out.trans (if_neg (of_decide_eq_false ht)))
            clear HS
            go_wp2_with fail
            go_quiet (fail)
            go_wp2_with fail
            go_roundw
            case rel => exact ⟨k + 1, by omega, by go_num, by rw [HR.out], below_drewN HB.out _⟩
            case measure => simp [intOf]; omega
        · obtain rfl : k = n := by omega
          go_wp2_with fail
          go_ret
          exact ⟨by rw [HL.out]; rfl, HB.out⟩
theorem uses_any {w : World} {v : Value} {n : Nat} {z : Nat → Nat → Int} (h : TK w v n z) (i r : Int) : Calls Tryz.prog 142 #[v, .int .i64 i, .int .i64 r] w (IsB (us n (lo z) r i) w) := by
  obtain ⟨a, cap, rfl, hn1, hn2⟩ := h.slice
  have H1 := Lib.hid (one_any n i); have H2 := Lib.hid (one_any 8 r)
  unfold us
  cases hx : (decide (0 ≤ i) && decide (i < (n : Int))) with
  | false =>
    rw [hx] at H1
    go_enter Tryz.func142, Tryz.ntmps142
    go_wp2_with fail
    refine (H1.out _).mono ?_
    rintro e w1 ⟨rfl, rfl⟩
    go_wp2_with fail
    go_ret
    exact ⟨by simp, rfl⟩
  | true =>
    rw [hx] at H1
    cases hy : (decide (0 ≤ r) && decide (r < (8 : Int))) with
    | false =>
      rw [hy] at H2
      go_enter Tryz.func142, Tryz.ntmps142
      go_wp2_with fail
      refine (H1.out _).mono ?_
      rintro e w1 ⟨rfl, rfl⟩
      go_wp2_with fail
      refine (H2.out _).mono ?_
      rintro e w1 ⟨rfl, rfl⟩
      go_wp2_with fail
      go_ret
      exact ⟨by simp, rfl⟩
    | true =>
      rw [hy] at H2
      obtain ⟨j, rfl⟩ : ∃ j : Nat, i = j := ⟨i.toNat, by simp at hx; omega⟩
      have hj : j < n := by simp at hx; omega
      obtain ⟨b, off, rfl, _, _, _, c3, _⟩ := h.at hj
      simp at hy
      go_enter Tryz.func142, Tryz.ntmps142
      go_wp2_with fail
      refine (H1.out _).mono ?_
      rintro e w1 ⟨rfl, rfl⟩
      go_wp2_with fail
      refine (H2.out _).mono ?_
      rintro e w1 ⟨rfl, rfl⟩
      go_wp2_with fail
      go_ret
      exact ⟨by simp [bit, lo], rfl⟩
theorem ruses_any {w : World} {v : Value} {n : Nat} {z : Nat → Nat → Int} (h : TK w v n z) (i r : Int) : Calls Tryz.prog 164 #[v, .int .i64 i, .int .i64 r] w (IsB (us n (lo z) r i) w) := by
  obtain ⟨a, cap, rfl, hn1, hn2⟩ := h.slice
  unfold us
  cases h0 : decide (i < 0) with
  | true =>
    have e : decide (0 ≤ i) = false := by have := of_decide_eq_true h0; simp; omega
    have E := Lib.hid e
    clear e
    go_enter Tryz.func164, Tryz.ntmps164
    go_wp2_with fail
    go_ret
    exact ⟨by rw [E.out]; simp, rfl⟩
  | false =>
    obtain ⟨j, rfl⟩ : ∃ j : Nat, i = j := ⟨i.toNat, by have := of_decide_eq_false h0; omega⟩
    cases hy : decide (n ≤ j) with
    | true =>
      have e : decide ((j : Int) < n) = false := by have := of_decide_eq_true hy; simp; omega
      have E := Lib.hid e
      clear e
      go_enter Tryz.func164, Tryz.ntmps164
      go_wp2_with fail
      go_ret
      exact ⟨by rw [E.out]; simp, rfl⟩
    | false =>
      have hj : j < n := by have := of_decide_eq_false hy; omega
      have e : (decide (0 ≤ (j : Int)) && decide ((j : Int) < n)) = true := by simp; omega
      have E := Lib.hid e
      clear e
      cases h2 : decide (r < 0) with
      | true =>
        have e : decide (0 ≤ r) = false := by have := of_decide_eq_true h2; simp; omega
        have E2 := Lib.hid e
        clear e
        go_enter Tryz.func164, Tryz.ntmps164
        go_wp2_with fail
        go_ret
        exact ⟨by rw [E2.out]; simp, rfl⟩
      | false =>
        cases h3 : decide (8 ≤ r) with
        | true =>
          have e : decide (r < 8) = false := by have := of_decide_eq_true h3; simp; omega
          have E2 := Lib.hid e
          clear e
          go_enter Tryz.func164, Tryz.ntmps164
          go_wp2_with fail
          go_ret
          exact ⟨by rw [E2.out]; simp, rfl⟩
        | false =>
          have e : (decide (0 ≤ r) && decide (r < (8 : Int))) = true := by have := of_decide_eq_false h2; have := of_decide_eq_false h3; simp; omega
          have E2 := Lib.hid e
          have hr : 0 ≤ r ∧ r < 8 := by simpa using e
          clear e
          obtain ⟨b, off, rfl, _, _, _, c3, _⟩ := h.at hj
          go_enter Tryz.func164, Tryz.ntmps164
          go_wp2_with fail
          go_ret
          exact ⟨by rw [E.out, E2.out]; simp [bit, lo], rfl⟩
theorem uses_fit {w : World} {v : Value} {n : Nat} {z : Nat → Nat → Int} (h : TK w v n z) {i r : Int} {x : Bool} (hx : us n (lo z) r i = x) : Calls Tryz.prog 142 #[v, .int .i64 i, .int .i64 r] w (fun e w' => e = .returned (.bool x) ∧ w' = w) := by
  subst hx; exact (uses_any h i r).mono fun _ _ h => ⟨h.1, h.2.symm⟩
theorem TK.drewN {w : World} {v : Value} {n : Nat} {z : Nat → Nat → Int} (h : TK w v n z) (m : Nat) : TK (w.drewN m) v n z := h
end Go.Proofs.YtkkmfpllgjoceaaGreat.St

namespace Go.Proofs.YtkkmfpllgjoceaaGreat.St
open Go.RowKit Lv
set_option linter.unusedVariables false
set_option maxRecDepth 100000

set_option maxHeartbeats 2000000 in
theorem ceil_any {w : World} {v : Value} {n : Nat} {z : Nat → Nat → Int} (h : TK w v n z) (hnm : n ≤ 1000000) (r : Int) : Calls Tryz.prog 201 #[v, .int .i64 r] w (YI (ceil n (dl z) (lo z) r) w) := by
  obtain ⟨a, cap, rfl, hn1, hn2⟩ := h.slice
  have HP := Lib.hid h
  clear h
  have HE := Lib.hid (ceil_eq n (dl z) (fun i : Nat => us n (lo z) r (i : Int)))
  obtain ⟨u, hu⟩ : ∃ u : Nat → Bool, u = fun i : Nat => us n (lo z) r (i : Int) := ⟨_, rfl⟩
  rw [← hu] at HE
  have HU : Hid (∀ i : Nat, us n (lo z) r i = u i) := fun i => by rw [hu]
  have HC : Hid (ceil n (dl z) (lo z) r = ce n (dl z) u n) := by unfold Hid ceil; rw [hu]
  clear hu
  go_enter Tryz.func201, Tryz.ntmps201
  go_wp2_with fail
  go_loopw [5, 10] (fun s i wr => ∃ (k : Nat) (q : Int), k ≤ n ∧ i = .int .i64 k ∧ s = .int .i64 q ∧ Hid (q = fs (dl z) u k) ∧ Hid (Below w.heap.size w wr)) (fun _ i _ => n - (intOf i).toNat)
  case atStart => exact ⟨0, -1, by omega, rfl, rfl, rfl, Below.refl _ _⟩
  case round =>
    obtain ⟨k, q, hk, rfl, rfl, HQ, HB⟩ := hrel
    by_cases hlt : k < n
    · have HT := Lib.hid (HP.out.below HB.out)
      obtain ⟨b, off, rfl, c⟩ := HT.out.at hlt
      obtain ⟨c0, c1, c2, c3, c4, c5, c6, c7⟩ := c
      have hA := (Below.refl _ wr).alloc (Nat.le_refl _) (tko (z k))
      have e0 := tko_new wr (z k)
      have HA := Lib.hid (HB.out.trans (hA.mono HB.out.size))
      have HT2 := Lib.hid (HT.out.below hA)
      have HO : Hid (∀ p x, wr.cell? p = some x → (wr.alloc (tko (z k))).cell? p = some x) := fun p x hp => tko_old (z k) hp
      unfold tko at hA e0 HA HT2 HO
      have hs : fs (dl z) u (k + 1) = if u k && (decide (q < 0) || decide (dl z k < dl z q.toNat)) then (k : Int) else q := by rw [HQ.out]; rfl
      have HS := Lib.hid hs
      have hr := fs_range (n := n) (D := dl z) (u := u) (k := k) (by omega)
      rw [← HQ.out] at hr
      have HR := Lib.hid hr
      clear hs hr hA
      cases hu : u k with
      | false =>
        have HX : Hid (us n (lo z) r k = false) := (HU.out k).trans hu
        have HN : Hid (q = fs (dl z) u (k + 1)) := by rw [HS.out, hu]; rfl
        clear HS hu
        go_wp2_with fail
        generalize wr.alloc (.cells #[.int .i64 (z k 0), .int .i64 (z k 1), .int .i64 (z k 2), .int .i64 (z k 3), .int .i64 (z k 4), .int .i64 (z k 5), .int .i64 (z k 6), .int .i64 (z k 7)] 55) = w2 at *
        go_quiet ((go_at_call 142; exact Calls.quiet_of_same (uses_fit (HT2.out.drewN _) HX.out)))
        go_wp2_with fail
        go_roundw
        case rel => exact ⟨k + 1, q, by omega, by go_num, rfl, HN, below_drewN HA.out _⟩
        case measure => simp [intOf]; omega
      | true =>
        have HX : Hid (us n (lo z) r k = true) := (HU.out k).trans hu
        cases hq : decide (q < 0) with
        | true =>
          have HN : Hid ((k : Int) = fs (dl z) u (k + 1)) := by rw [HS.out, hu, hq]; rfl
          clear HS hu
          go_wp2_with fail
          generalize wr.alloc (.cells #[.int .i64 (z k 0), .int .i64 (z k 1), .int .i64 (z k 2), .int .i64 (z k 3), .int .i64 (z k 4), .int .i64 (z k 5), .int .i64 (z k 6), .int .i64 (z k 7)] 55) = w2 at *
          go_quiet ((go_at_call 142; exact Calls.quiet_of_same (uses_fit (HT2.out.drewN _) HX.out)))
          go_wp2_with fail
          go_roundw
          case rel => exact ⟨k + 1, k, by omega, by go_num, rfl, HN, below_drewN HA.out _⟩
          case measure => simp [intOf]; omega
        | false =>
          obtain ⟨f, rfl⟩ : ∃ f : Nat, q = f := ⟨q.toNat, by have := of_decide_eq_false hq; omega⟩
          have hf : f < n := by have := HR.out.2.2 (by omega); simp at this; omega
          obtain ⟨b', off', eb, d⟩ := HT.out.at hf
          obtain ⟨_, d1, _⟩ := d
          injection eb with eb
          injection eb with eb1 eb2 _
          subst eb1; subst eb2
          have d1 := HO.out _ _ d1
          have HS2 : Hid (fs (dl z) u (k + 1) = if z k 1 < z f 1 then (k : Int) else f) := by
            unfold Hid; rw [HS.out, hu, hq]; by_cases e : z k 1 < z f 1 <;> simp [dl, e]
          clear HS
          cases ht : decide (z k 1 < z f 1) with
          | true =>
            have HN : Hid ((k : Int) = fs (dl z) u (k + 1)) := by rw [HS2.out, if_pos (of_decide_eq_true ht)]; rfl
            clear HS2 hu
            go_wp2_with fail
            generalize wr.alloc (.cells #[.int .i64 (z k 0), .int .i64 (z k 1), .int .i64 (z k 2), .int .i64 (z k 3), .int .i64 (z k 4), .int .i64 (z k 5), .int .i64 (z k 6), .int .i64 (z k 7)] 55) = w2 at *
            go_quiet ((go_at_call 142; exact Calls.quiet_of_same (uses_fit (HT2.out.drewN _) HX.out)))
            go_wp2_with fail
            go_roundw
            case rel => exact ⟨k + 1, k, by omega, by go_num, rfl, HN, below_drewN HA.out _⟩
            case measure => simp [intOf]; omega
          | false =>
            have HN : Hid ((f : Int) = fs (dl z) u (k + 1)) := by rw [HS2.out, if_neg (of_decide_eq_false ht)]; rfl
            clear HS2 hu
            go_wp2_with fail
            generalize wr.alloc (.cells #[.int .i64 (z k 0), .int .i64 (z k 1), .int .i64 (z k 2), .int .i64 (z k 3), .int .i64 (z k 4), .int .i64 (z k 5), .int .i64 (z k 6), .int .i64 (z k 7)] 55) = w2 at *
            go_quiet ((go_at_call 142; exact Calls.quiet_of_same (uses_fit (HT2.out.drewN _) HX.out)))
            go_wp2_with fail
            go_roundw
            case rel => exact ⟨k + 1, f, by omega, by go_num, rfl, HN, below_drewN HA.out _⟩
            case measure => simp [intOf]; omega
    · obtain rfl : k = n := by omega
      have HL := Lib.hid (level_any (HP.out.below HB.out) hnm q)
      go_wp2_with fail
      refine HL.out.mono ?_
      rintro e w2 ⟨rfl, hb⟩
      go_wp2_with fail
      go_ret
      exact ⟨by rw [HC.out, HQ.out, HE.out]; rfl, chn HB.out hb⟩

set_option maxHeartbeats 1000000 in
theorem rceil_any {w : World} {v : Value} {n : Nat} {z : Nat → Nat → Int} (h : TK w v n z) (hnm : n ≤ 1000000) (r : Int) : Calls Tryz.prog 102 #[v, .int .i64 r] w (YI (ceil n (dl z) (lo z) r) w) := by
  obtain ⟨a, cap, rfl, hn1, hn2⟩ := h.slice
  have HP := Lib.hid h
  clear h
  obtain ⟨u, hu⟩ : ∃ u : Nat → Bool, u = fun i : Nat => us n (lo z) r (i : Int) := ⟨_, rfl⟩
  have HU : Hid (∀ i : Nat, us n (lo z) r i = u i) := fun i => by rw [hu]
  have HC : Hid (ceil n (dl z) (lo z) r = ce n (dl z) u n) := by unfold Hid ceil; rw [hu]
  clear hu
  go_enter Tryz.func102, Tryz.ntmps102
  go_wp2_with fail
  go_loopw [5, 6] (fun s i wr => ∃ (k : Nat) (q : Int), k ≤ n ∧ i = .int .i64 k ∧ s = .int .i64 q ∧ Hid (q = ce n (dl z) u k) ∧ Hid (Below w.heap.size w wr)) (fun _ i _ => n - (intOf i).toNat)
  case atStart => exact ⟨0, 0, by omega, rfl, rfl, rfl, Below.refl _ _⟩
  case round =>
    obtain ⟨k, q, hk, rfl, rfl, HQ, HB⟩ := hrel
    by_cases hlt : k < n
    · have HT := Lib.hid (HP.out.below HB.out)
      have HS : Hid (ce n (dl z) u (k + 1) = if u k then max q (lev n (dl z) k) else q) := by unfold Hid; rw [HQ.out]; rfl
      have HX := Lib.hid (ruses_any HT.out k r)
      rw [HU.out k] at HX
      cases hu : u k with
      | false =>
        rw [hu] at HX
        have HN : Hid (q = ce n (dl z) u (k + 1)) := by rw [HS.out, hu]; rfl
        clear HS hu
        go_wp2_with fail
        refine HX.out.mono ?_
        rintro e w1 ⟨rfl, rfl⟩
        go_wp2_with fail
        go_roundw
        case rel => exact ⟨k + 1, q, by omega, by go_num, rfl, HN, HB⟩
        case measure => simp [intOf]; omega
      | true =>
        rw [hu] at HX
        have HN : Hid ((if q < lev n (dl z) k then lev n (dl z) k else q) = ce n (dl z) u (k + 1)) := by rw [HS.out, hu, ← max_if]; rfl
        have HL := Lib.hid (rlevel_any HT.out hnm k)
        generalize lev n (dl z) k = l at *
        clear HS hu
        go_wp2_with fail
        refine HX.out.mono ?_
        rintro e w1 ⟨rfl, rfl⟩
        go_wp2_with fail
        refine HL.out.mono ?_
        rintro e w2 ⟨rfl, hb⟩
        go_wp2_with fail
        go_roundw
        case rel => exact ⟨k + 1, _, by omega, by go_num, rfl, HN, chn HB.out hb⟩
        case measure => simp [intOf]; omega
    · obtain rfl : k = n := by omega
      go_wp2_with fail
      go_ret
      exact ⟨by rw [HC.out, HQ.out]; rfl, HB.out⟩
/-- numbers that can be read -/
def IS (w : World) (v : Value) (xs : List Int) : Prop :=
  ∃ a cap, v = .slice a xs.length cap ∧ xs.length ≤ cap ∧ cap ≤ maxLen ∧ (a = none → cap = 0) ∧ (0 < xs.length → ∃ b off, a = some ⟨b, off, none⟩ ∧ ∀ i, i < xs.length → w.cell? ⟨b, off + i, none⟩ = some (.int .i64 (xs.getD i 0)))
theorem IS.nil (w : World) : IS w (.slice none 0 0) [] := ⟨none, 0, rfl, Nat.le_refl _, Nat.zero_le _, fun _ => rfl, fun h => by cases h⟩
theorem IS.slice {w : World} {v : Value} {xs : List Int} (h : IS w v xs) : ∃ a cap, v = .slice a xs.length cap ∧ xs.length ≤ cap ∧ cap ≤ maxLen := by obtain ⟨a, cap, h1, h2, h3, _⟩ := h; exact ⟨a, cap, h1, h2, h3⟩
theorem IS.below {w w' : World} {v : Value} {xs : List Int} (h : IS w v xs) (q : Below w.heap.size w w') : IS w' v xs := by
  obtain ⟨a, cap, h1, h2, h3, h4, h5⟩ := h
  exact ⟨a, cap, h1, h2, h3, h4, fun hn => by obtain ⟨b, off, e, hc⟩ := h5 hn; exact ⟨b, off, e, fun i hi => (q.cell (lt_of_cell (hc i hi))).trans (hc i hi)⟩⟩
theorem IS.at {w : World} {n cap : Nat} {a : Option Addr} {xs : List Int} (h : IS w (.slice a n cap) xs) {i : Nat} (hi : i < n) : ∃ b off, a = some ⟨b, off, none⟩ ∧ w.cell? ⟨b, off + i, none⟩ = some (.int .i64 (xs.getD i 0)) := by
  obtain ⟨a', cap', e, h1, h2, h3, h4⟩ := h
  obtain ⟨rfl, rfl, rfl⟩ : a = a' ∧ n = xs.length ∧ cap = cap' := by simpa using e
  obtain ⟨b, off, rfl, hc⟩ := h4 (by omega)
  exact ⟨b, off, rfl, hc i hi⟩
theorem IS.take {w : World} {a : Option Addr} {n cap : Nat} {xs : List Int} (h : IS w (.slice a n cap) xs) {j : Nat} (hj : j ≤ n) : IS w (.slice a j cap) (xs.take j) := by
  obtain ⟨a', cap', e, h1, h2, h3, h4⟩ := h
  obtain ⟨rfl, rfl, rfl⟩ : a = a' ∧ n = xs.length ∧ cap = cap' := by simpa using e
  have hl : (xs.take j).length = j := by simp; omega
  refine ⟨_, _, by rw [hl], by omega, h2, h3, fun hp => ?_⟩
  rw [hl] at hp
  obtain ⟨b, off, rfl, hc⟩ := h4 (by omega)
  refine ⟨b, off, rfl, fun i hi => ?_⟩
  rw [hl] at hi
  rw [hc i (by omega)]
  simp only [List.getD, List.getElem?_take]
  rw [if_pos hi]
/-- a closure's cell: the tasks -/
def TB (w : World) (B n : Nat) (z : Nat → Nat → Int) : Prop := ∃ v, w.heap[B]? = some (.cells #[v] 22 (0, 0)) ∧ TK w v n z
theorem TB.below {w w' : World} {B n : Nat} {z : Nat → Nat → Int} (h : TB w B n z) (q : Below w.heap.size w w') : TB w' B n z := by
  obtain ⟨v, h1, h2⟩ := h
  exact ⟨v, (q.block B (Array.getElem?_eq_some_iff.1 h1).1).trans h1, h2.below q⟩
theorem clo_any {w : World} {B n : Nat} {z : Nat → Nat → Int} (h : TB w B n z) (hnm : n ≤ 1000000) (r : Int) : Calls Tryz.prog 200 #[.int .i64 r, .pointer (some ⟨B, 0, none⟩)] w (YI (ceil n (dl z) (lo z) r) w) := by
  obtain ⟨v, h1, h2⟩ := h
  have c0 := cell_of_row _ _ 0 _ _ _ h1
  have HL := Lib.hid (ceil_any h2 hnm r)
  obtain ⟨a, cap, rfl, hn1, hn2⟩ := h2.slice
  clear h1 h2
  go_enter Tryz.func200, Tryz.ntmps200
  go_wp2_with fail
  refine HL.out.mono ?_
  rintro e w2 ⟨rfl, hb⟩
  go_wp2_with fail
  go_ret
  exact ⟨rfl, hb⟩
set_option maxHeartbeats 1000000 in
theorem highest_any {w : World} {x : Value} {rs : List Int} {B n : Nat} {z : Nat → Nat → Int} (hx : IS w x rs) (h : TB w B n z) (hnm : n ≤ 1000000) :
    Calls Tryz.prog 199 #[x, .func (.func 200) #[] #[.pointer (some ⟨B, 0, none⟩)]] w (YI (hi (ceil n (dl z) (lo z)) rs rs.length) w) := by
  obtain ⟨a, cap, rfl, hn1, hn2⟩ := hx.slice
  have HP := Lib.hid h; have HX := Lib.hid hx
  clear h hx
  obtain ⟨m, hm⟩ : ∃ m, m = rs.length := ⟨_, rfl⟩
  rw [← hm] at hn1 HX ⊢
  have hmx : m ≤ 9223372036854775807 := by unfold maxLen at hn2; omega
  clear hm
  obtain ⟨c, hc⟩ : ∃ c, c = ceil n (dl z) (lo z) := ⟨_, rfl⟩
  have HC := Lib.hid hc
  rw [← hc]
  clear hc
  go_enter Tryz.func199, Tryz.ntmps199
  go_wp2_with fail
  go_loopw [5, 7, 10] (fun s _ i wr => ∃ (k : Nat) (q : Int), k ≤ m ∧ i = .int .i64 k ∧ s = .int .i64 q ∧ Hid (q = hi c rs k) ∧ Hid (Below w.heap.size w wr)) (fun _ _ i _ => m - (intOf i).toNat)
  case atStart => exact ⟨0, 0, by omega, rfl, rfl, rfl, Below.refl _ _⟩
  case round =>
    obtain ⟨k, q, hk, rfl, rfl, HQ, HB⟩ := hrel
    by_cases hlt : k < m
    · obtain ⟨b, off, rfl, c0⟩ := (HX.out.below HB.out).at hlt
      have HL := Lib.hid (clo_any (HP.out.below HB.out) hnm (rs.getD k 0))
      rw [← HC.out] at HL
      have HN : Hid ((if q < c (rs.getD k 0) then c (rs.getD k 0) else q) = hi c rs (k + 1)) := by unfold Hid; rw [← max_if, HQ.out]; rfl
      generalize c (rs.getD k 0) = l at *
      generalize rs.getD k 0 = r at *
      go_wp2_with fail
      refine HL.out.mono ?_
      rintro e w2 ⟨rfl, hb⟩
      go_wp2_with fail
      go_roundw
      case rel => exact ⟨k + 1, _, by omega, by go_num, rfl, HN, chn HB.out hb⟩
      case measure => simp [intOf]; omega
    · obtain rfl : k = m := by omega
      go_wp2_with fail
      go_ret
      exact ⟨by rw [HQ.out]; rfl, HB.out⟩
theorem high_any {w : World} {v x : Value} {rs : List Int} {n : Nat} {z : Nat → Nat → Int} (h : TK w v n z) (hx : IS w x rs) (hnm : n ≤ 1000000) : Calls Tryz.prog 175 #[v, x] w (YI (hi (ceil n (dl z) (lo z)) rs rs.length) w) := by
  obtain ⟨a, cap, rfl, hn1, hn2⟩ := h.slice
  have hA := (Below.refl _ w).alloc (Nat.le_refl _) (.cells #[.slice a n cap] 22)
  have HL := Lib.hid (highest_any (hx.below hA) (B := w.heap.size) ⟨_, heap_alloc_new w (.cells #[.slice a n cap] 22), h.below hA⟩ hnm)
  have HA := Lib.hid hA
  clear h hA hx
  go_enter Tryz.func175, Tryz.ntmps175
  go_wp2_with fail
  refine HL.out.mono ?_
  rintro e w2 ⟨rfl, hb⟩
  go_wp2_with fail
  go_ret
  exact ⟨rfl, HA.out.trans (hb.mono (by simp))⟩
end Go.Proofs.YtkkmfpllgjoceaaGreat.St

namespace Go.Proofs.YtkkmfpllgjoceaaGreat.St
open Go.RowKit Lv Sk
set_option linter.unusedVariables false
set_option maxRecDepth 100000

/-- entries that can be read -/
def ES (w : World) (v : Value) (l : List En) : Prop :=
  ∃ a cap, v = .slice a l.length cap ∧ l.length ≤ cap ∧ cap ≤ maxLen ∧ (a = none → cap = 0) ∧
    (0 < l.length → ∃ b off, a = some ⟨b, off, none⟩ ∧ ∀ i, i < l.length → w.cell? ⟨b, off + i * 2, none⟩ = some (.int .i64 (l.getD i e0).1) ∧ w.cell? ⟨b, off + i * 2 + 1, none⟩ = some (.int .i64 (l.getD i e0).2))
theorem ES.slice {w : World} {v : Value} {l : List En} (h : ES w v l) : ∃ a cap, v = .slice a l.length cap ∧ l.length ≤ cap ∧ cap ≤ maxLen := by obtain ⟨a, cap, h1, h2, h3, _⟩ := h; exact ⟨a, cap, h1, h2, h3⟩
theorem ES.nil (w : World) : ES w (.slice none 0 0) [] := ⟨none, 0, rfl, Nat.le_refl _, Nat.zero_le _, fun _ => rfl, fun h => by cases h⟩
theorem ES.below {w w' : World} {v : Value} {l : List En} (h : ES w v l) (q : Below w.heap.size w w') : ES w' v l := by
  obtain ⟨a, cap, h1, h2, h3, h4, h5⟩ := h
  exact ⟨a, cap, h1, h2, h3, h4, fun hn => by obtain ⟨b, off, e, hc⟩ := h5 hn; exact ⟨b, off, e, fun i hi => ⟨(q.cell (lt_of_cell (hc i hi).1)).trans (hc i hi).1, (q.cell (lt_of_cell (hc i hi).2)).trans (hc i hi).2⟩⟩⟩
theorem ES.at {w : World} {n cap : Nat} {a : Option Addr} {l : List En} (h : ES w (.slice a n cap) l) {i : Nat} (hi : i < n) : ∃ b off, a = some ⟨b, off, none⟩ ∧ w.cell? ⟨b, off + i * 2, none⟩ = some (.int .i64 (l.getD i e0).1) ∧ w.cell? ⟨b, off + i * 2 + 1, none⟩ = some (.int .i64 (l.getD i e0).2) := by
  obtain ⟨a', cap', e, h1, h2, h3, h4⟩ := h
  obtain ⟨rfl, rfl, rfl⟩ : a = a' ∧ n = l.length ∧ cap = cap' := by simpa using e
  obtain ⟨b, off, rfl, hc⟩ := h4 (by omega)
  exact ⟨b, off, rfl, hc i hi⟩
/-- the document's stack: its tasks, its entries -/
structure RS (w : World) (mb n : Nat) (z : Nat → Nat → Int) (l : List En) (tv lv : Value) : Prop where
  ob : w.heap[mb]? = some (.cells #[tv, lv] 141 (0, 0))
  tk : TK w tv n z
  es : ES w lv l
theorem lt_of_block {w : World} {b : Nat} {o : Obj} (h : w.heap[b]? = some o) : b < w.heap.size := (Array.getElem?_eq_some_iff.1 h).1
theorem RS.below {w w' : World} {mb n : Nat} {z : Nat → Nat → Int} {l : List En} {tv lv : Value} (h : RS w mb n z l tv lv) (q : Below w.heap.size w w') : RS w' mb n z l tv lv := ⟨(q.block mb (lt_of_block h.ob)).trans h.ob, h.tk.below q, h.es.below q⟩
theorem RS.cells {w : World} {mb n : Nat} {z : Nat → Nat → Int} {l : List En} {tv lv : Value} (h : RS w mb n z l tv lv) : w.cell? ⟨mb, 0, none⟩ = some tv ∧ w.cell? ⟨mb, 0 + 1, none⟩ = some lv := ⟨cell_of_row _ _ 0 _ _ _ h.ob, cell_of_row _ _ 1 _ _ _ h.ob⟩
theorem infoI13 : (Tryz.prog.info? 3).map (fun i => (i.zero, i.size, i.bytes)) = some (some (.int .i64 0), 1, 8) := by kernel_rfl
def nums (xs : List Int) : List Value := xs.map (Value.int .i64)
/-- numbers in a row of the call's own -/
def NR (w : World) (C : Nat) (v : Value) (xs : List Int) : Prop := w.ownsRow C 3 1 v xs.length (nums xs)
theorem NR.nil (w : World) (C : Nat) : NR w C (.slice none 0 0) [] := World.ownsRow_nil w C 3 1
/-- a number more -/
theorem app_num {w : World} {C : Nat} {v : Value} {xs : List Int} (h : NR w C v xs) (x : Int) {g : Nat} (hg : w.heap[g]? = some (.cells #[.int .i64 x] 3 (0, 0))) (hB : C ≤ w.heap.size) (hn : xs.length ≤ 1000) (ty : TypeId) :
    ∃ v' w', (Builtin.append_ #[41, 41] ty #[v, .slice (some ⟨g, 0, none⟩) 1 1]).run Tryz.prog w = .ok v' w' ∧ NR w' C v' (xs ++ [x]) ∧ Below C w w' := by
  obtain ⟨i0, hi, hz0, hz1, hz2⟩ := info_parts infoI13
  obtain ⟨v', w', hrun, hown', hgr, _⟩ := run_append_own (P := Tryz.prog) (w := w) C 41 ty 3 i0 (.int .i64 0) 1 8 Tryz.underlying41 hi hz0 hz1 hz2 rfl (by decide) v xs.length _ h ⟨g, 0, none⟩ 1 1 [.int .i64 x] rfl
    (fun j u hj => by rw [Addr.add_lit, Nat.zero_add, cell_of_row _ _ j _ _ _ hg, List.getElem?_toArray]; exact hj) (by intro u hu; simp at hu; subst hu; rfl) (by unfold maxLen; omega) (by omega) hB
  refine ⟨v', w', hrun, ?_, (Below.refl C w).grown hgr hB (fun k e => (World.ownsRow.lt h k e).1)⟩
  unfold NR nums at *
  rw [List.length_append, List.map_append]
  exact hown'
theorem NR.is_form {w : World} {C : Nat} {v : Value} {xs : List Int} (h : NR w C v xs) : ∃ a cap, v = .slice a xs.length cap := by
  rcases h.2 with ⟨rfl, h0⟩ | ⟨g, cap, cur, rfl, _⟩
  · exact ⟨none, 0, by rw [h0]⟩
  · exact ⟨_, _, rfl⟩
theorem wpList_append_eq {P : Program} {w : World} {ops : Array Oper} {rest : List Oper} {o : Oper} {a : Act} {Q : Exit → Act → World → Prop} (hgd : o.guard = none) (s x : Operand) (t u : TypeId)
    (ho : o.op = .call { callee := .builtin .append, args := #[s, x], argTypes := #[t, u] })
    (sv xv v' : Value) (w' : World) (hs : a.eval s = sv) (hx : a.eval x = xv) (hrun : (Builtin.append_ #[t, u] o.type #[sv, xv]).run P w = .ok v' w')
    (h : wpList P ops Q rest (a.put o.dst v') w') : wpList P ops Q (o :: rest) a w := by
  refine wpList_plain hgd fun K hK => ?_
  unfold Oper.wp
  simp [execOp, ho, resolve, invoke, builtin, hs, hx, hrun, Result.andThen]
  exact hK _ _ h
def HeldP (w : World) (xs : List Int) (e : Ending) (w' : World) : Prop := ∃ r, e = .returned r ∧ NR w' w.heap.size r xs ∧ Below w.heap.size w w'

set_option maxHeartbeats 2000000 in
theorem rheld_any {w : World} {mb n : Nat} {z : Nat → Nat → Int} {l : List En} {tv lv : Value} (h : RS w mb n z l tv lv) (hl : l.length ≤ 1000) (t : Int) : Calls Tryz.prog 112 #[.pointer (some ⟨mb, 0, none⟩), .int .i64 t] w (HeldP w (held l t)) := by
  obtain ⟨a, cap, rfl, hn1, hn2⟩ := h.es.slice
  have HP := Lib.hid h
  have HO := Lib.hid (NR.nil w w.heap.size)
  obtain ⟨m, hm⟩ : ∃ m, m = l.length := ⟨_, rfl⟩
  have HM := Lib.hid hm
  rw [← hm] at hl hn1 HP
  clear h hm
  go_enter Tryz.func112, Tryz.ntmps112
  go_wp2_with fail
  go_loopw [5, 6] (fun o i wr => ∃ k : Nat, k ≤ m ∧ i = .int .i64 k ∧ Hid (NR wr w.heap.size o (held (l.take k) t)) ∧ Hid (Below w.heap.size w wr)) (fun _ i _ => m - (intOf i).toNat)
  case atStart => exact ⟨0, Nat.zero_le _, rfl, HO.out, Below.refl _ _⟩
  case round =>
    clear HO
    rename_i o _
    obtain ⟨k, hk, rfl, HO, HB⟩ := hrel
    obtain ⟨c0, c1⟩ := (HP.out.below HB.out).cells
    by_cases hlt : k < m
    · obtain ⟨b, off, rfl, d0, d1⟩ := (HP.out.below HB.out).es.at hlt
      have HT := Lib.hid (held_take l t k (by rw [← HM.out]; exact hlt))
      by_cases hx : (l.getD k e0).1 = t
      · rw [hx] at d0
        have HL : (held (l.take k) t).length ≤ 1000 := Nat.le_trans (held_take_len l t k) (by omega)
        have HT2 : Hid (held (l.take (k + 1)) t = held (l.take k) t ++ [(l.getD k e0).2]) := HT.out.trans (if_pos hx)
        generalize (l.getD k e0).2 = x at *
        obtain ⟨v', w1x, hrun, hown2, hb2⟩ := app_num (w := wr.alloc (.cells #[.int .i64 x] 3)) (World.ownsRow.alloc HO.out _) x (g := wr.heap.size) (heap_alloc_new wr _) (Nat.le_trans HB.out.size (by simp)) HL 41
        have HRUN := Lib.hid hrun
        have HO2 := Lib.hid hown2
        have HB2 : Hid (Below w.heap.size w w1x) := (HB.out.alloc HB.out.size _).trans hb2
        clear hrun hown2 hb2 hx HT HL
        go_wp2_with (at_builtin; refine wpList_append_eq rfl _ _ 41 41 rfl _ _ _ _ rfl rfl HRUN.out ?_)
        go_roundw
        case rel => exact ⟨k + 1, by omega, by go_num, by rw [HT2.out]; exact HO2.out, HB2.out⟩
        case measure => simp [intOf]; omega
      · have HT2 : Hid (held (l.take (k + 1)) t = held (l.take k) t) := HT.out.trans (if_neg hx)
        have hx2 : ((l.getD k e0).1 == t) = false := by simpa using hx
        have hx3 : decide ((l.getD k e0).1 = t) = false := by simpa using hx
        generalize (l.getD k e0).1 = y at *
        clear HT
        go_wp2_with fail
        go_roundw
        case rel => exact ⟨k + 1, by omega, by go_num, by rw [HT2.out]; exact HO.out, HB.out⟩
        case measure => simp [intOf]; omega
    · obtain rfl : k = m := by omega
      have HE : Hid (held (l.take k) t = held l t) := by rw [HM.out, List.take_length]; rfl
      go_wp2_with fail
      go_ret
      exact ⟨_, rfl, by rw [← HE.out]; exact HO.out, HB.out⟩
end Go.Proofs.YtkkmfpllgjoceaaGreat.St

namespace Go.Proofs.YtkkmfpllgjoceaaGreat.St
open Go.RowKit Lv Sk Go.Sort
set_option linter.unusedVariables false
set_option maxRecDepth 100000

/-- a number and a bool -/
def TopP (x : Int) (b : Bool) (w : World) (e : Ending) (w' : World) : Prop := e = .returned (.tuple #[.int .i64 x, .bool b]) ∧ Below w.heap.size w w'
/-- the task of the last entry -/
def topT (l : List En) : Int := if l.length = 0 then 0 else (l.getD (l.length - 1) e0).1
def topB (l : List En) : Bool := decide (0 < l.length)
set_option maxHeartbeats 1000000 in
theorem rtop_any {w : World} {mb n : Nat} {z : Nat → Nat → Int} {l : List En} {tv lv : Value} (h : RS w mb n z l tv lv) (hl : l.length ≤ 1000) : Calls Tryz.prog 48 #[.pointer (some ⟨mb, 0, none⟩)] w (TopP (topT l) (topB l) w) := by
  obtain ⟨a, cap, rfl, hn1, hn2⟩ := h.es.slice
  obtain ⟨c0, c1⟩ := h.cells
  have HE := Lib.hid h.es
  obtain ⟨m, hm⟩ : ∃ m, m = l.length := ⟨_, rfl⟩
  have HA : Hid (topT l = (if m = 0 then 0 else (l.getD (m - 1) e0).1) ∧ topB l = decide (0 < m)) := by rw [hm]; exact ⟨rfl, rfl⟩
  have hmx : m ≤ 9223372036854775807 := by omega
  rw [← hm] at hl hn1 HE c1
  clear h hm
  by_cases h0 : m = 0
  · subst h0
    go_enter Tryz.func48, Tryz.ntmps48
    go_wp2_with fail
    go_ret2
    exact ⟨by rw [HA.out.1, HA.out.2]; rfl, Below.refl _ _⟩
  · obtain ⟨k, rfl⟩ : ∃ k, m = k + 1 := ⟨m - 1, by omega⟩
    obtain ⟨b, off, rfl, d0, d1⟩ := HE.out.at (Nat.lt_succ_self k)
    have HA2 : Hid (topT l = (l.getD k e0).1 ∧ topB l = true) := ⟨by rw [HA.out.1, if_neg h0]; rfl, by rw [HA.out.2]; simp⟩
    have hs : ((k + 1 : Nat) : Int) - 1 = k := by omega
    have hw : IntKind.i64.wrap (k : Int) = k := IntWalk.i64_in _ (by omega)
    have hz : decide (((k + 1 : Nat) : Int) = 0) = false := by simp; omega
    have hz2 : (((k + 1 : Nat) : Int) == 0) = false := by simp; omega
    have hk1 : (k : Int) < ((k + 1 : Nat) : Int) := by omega
    generalize (l.getD k e0).1 = x at *
    generalize (l.getD k e0).2 = y at *
    obtain ⟨j, hj⟩ : ∃ j, j = k + 1 := ⟨_, rfl⟩
    rw [← hj] at *
    clear HA h0 HE
    have mixed : Tryz.prog.follows .mixedOrders = true := by kernel_rfl
    go_enter Tryz.func48, Tryz.ntmps48
    go_wp2_with fail
    go_quiet (fail)
    go_wp2_with fail
    go_ret2
    exact ⟨by rw [HA2.out.1, HA2.out.2]; rfl, below_drewN (Below.refl _ _) _⟩
/-- the ceiling of a stack -/
def cls (c : Int → Int) (l : List En) : Nat → Int
  | 0 => 0
  | k + 1 => max (cls c l k) (c (l.getD k e0).2)
set_option maxHeartbeats 1000000 in
theorem rcls_any {w : World} {mb n : Nat} {z : Nat → Nat → Int} {l : List En} {tv lv : Value} (h : RS w mb n z l tv lv) (hl : l.length ≤ 1000) (hnm : n ≤ 1000000) : Calls Tryz.prog 47 #[.pointer (some ⟨mb, 0, none⟩)] w (YI (cls (ceil n (dl z) (lo z)) l l.length) w) := by
  obtain ⟨a, cap, rfl, hn1, hn2⟩ := h.es.slice
  obtain ⟨ta, tcap, rfl, ht1, ht2⟩ := h.tk.slice
  have HP := Lib.hid h
  obtain ⟨m, hm⟩ : ∃ m, m = l.length := ⟨_, rfl⟩
  rw [← hm] at hl hn1 HP ⊢
  clear h hm
  obtain ⟨c, hc⟩ : ∃ c, c = ceil n (dl z) (lo z) := ⟨_, rfl⟩
  have HC := Lib.hid hc
  rw [← hc]
  clear hc
  have mixed : Tryz.prog.follows .mixedOrders = true := by kernel_rfl
  go_enter Tryz.func47, Tryz.ntmps47
  go_wp2_with fail
  go_loopw [3, 4] (fun s i wr => ∃ (k : Nat) (q : Int), k ≤ m ∧ i = .int .i64 k ∧ s = .int .i64 q ∧ Hid (q = cls c l k) ∧ Hid (Below w.heap.size w wr)) (fun _ i _ => m - (intOf i).toNat)
  case atStart => exact ⟨0, 0, by omega, rfl, rfl, rfl, Below.refl _ _⟩
  case round =>
    obtain ⟨k, q, hk, rfl, rfl, HQ, HB⟩ := hrel
    obtain ⟨c0, c1⟩ := (HP.out.below HB.out).cells
    by_cases hlt : k < m
    · obtain ⟨b, off, rfl, d0, d1⟩ := (HP.out.below HB.out).es.at hlt
      have HL := Lib.hid (fun W (b : Below wr.heap.size wr W) => rceil_any ((HP.out.below HB.out).tk.below b) hnm (l.getD k e0).2)
      rw [← HC.out] at HL
      have HN : Hid ((if q < c (l.getD k e0).2 then c (l.getD k e0).2 else q) = cls c l (k + 1)) := by unfold Hid; rw [← max_if, HQ.out]; rfl
      generalize c (l.getD k e0).2 = x at *
      generalize (l.getD k e0).2 = r at *
      have k0 := cell_regrown c0; have k1 := cell_regrown c1; have k3 := cell_regrown d1
      have cQ := Lib.hid (fun d os => Calls.regrown_of (HL.out _ (below_regrown wr d os)))
      clear d0 HL
      go_wp2_with fail
      clear c0 c1 d1
      refine wp_region_quiet_below (by assumption) (by kernel_rfl) ?_
      repeat (quiet_step (first | exact cQ.out _ _))
      refine wpQuiet_nil ?_
      intro _ hw'
      obtain ⟨⟨dq, osq⟩, hw''⟩ := hw'
      subst hw''
      have HF := Lib.hid (HB.out.trans ((below_regrown wr dq osq).mono HB.out.size))
      clear k0 k1 k3 cQ
      go_wp2_with fail
      go_roundw
      case rel => exact ⟨k + 1, _, by omega, by go_num, rfl, HN, HF.out⟩
      case measure => simp [intOf]; omega
    · obtain rfl : k = m := by omega
      go_wp2_with fail
      go_ret
      exact ⟨by rw [HQ.out]; rfl, HB.out⟩
end Go.Proofs.YtkkmfpllgjoceaaGreat.St

namespace Go.Proofs.YtkkmfpllgjoceaaGreat.St
open Go.RowKit Lv Sk Go.Sort
set_option linter.unusedVariables false
set_option maxRecDepth 100000

/-- of what was there nothing has turned but blocks of S -/
structure Only (S : Nat → Prop) (w w' : World) : Prop where
  os : w'.os = w.os
  tape : w'.tape = w.tape
  output : w'.output = w.output
  size : w.heap.size ≤ w'.heap.size
  block : ∀ k, k < w.heap.size → ¬ S k → w'.heap[k]? = w.heap[k]?
theorem Only.trans' {S T : Nat → Prop} {a b c : World} (h : Only S a b) (k : Only T b c) (hs : ∀ j, j < a.heap.size → T j → S j) : Only S a c :=
  ⟨k.os.trans h.os, k.tape.trans h.tape, k.output.trans h.output, Nat.le_trans h.size k.size, fun j hj hS => (k.block j (Nat.lt_of_lt_of_le hj h.size) (fun t => hS (hs j hj t))).trans (h.block j hj hS)⟩
theorem Only.of_below {S : Nat → Prop} {a b : World} (h : Below a.heap.size a b) : Only S a b := ⟨h.os, h.tape, h.output, h.size, fun k hk _ => h.block k hk⟩
theorem Only.below {S : Nat → Prop} {a b : World} {B : Nat} (h : Only S a b) (hB : B ≤ a.heap.size) (hS : ∀ k, k < a.heap.size → S k → B ≤ k) : Below B a b :=
  ⟨h.os, h.tape, h.output, h.size, fun k hk => h.block k (by omega) (fun t => by have := hS k (by omega) t; omega)⟩
/-- entries, by their cells -/
def ecells (l : List En) : List Value := l.flatMap fun e => [.int .i64 e.1, .int .i64 e.2]
theorem ecells_len (l : List En) : (ecells l).length = l.length * 2 := by
  induction l with
  | nil => rfl
  | cons e l ih => simp only [ecells, List.flatMap_cons, List.length_append, List.length_cons, List.length_nil] at *; omega
theorem ecells_at : ∀ (l : List En) (i : Nat), i < l.length → (ecells l)[i * 2]? = some (.int .i64 (l.getD i e0).1) ∧ (ecells l)[i * 2 + 1]? = some (.int .i64 (l.getD i e0).2)
  | e :: l, 0, _ => ⟨rfl, rfl⟩
  | e :: l, i + 1, h => by
    have ih := ecells_at l i (by simpa using h)
    have hc : ecells (e :: l) = .int .i64 e.1 :: .int .i64 e.2 :: ecells l := rfl
    rw [hc, show (i + 1) * 2 = i * 2 + 1 + 1 by omega]
    simp only [List.getElem?_cons_succ, List.getD_cons_succ]
    exact ih
theorem ecells_append (l m : List En) : ecells (l ++ m) = ecells l ++ ecells m := by simp [ecells]
theorem infoEn : (Tryz.prog.info? 143).map (fun i => (i.zero, i.size, i.bytes)) = some (some (.agg #[.int .i64 0, .int .i64 0]), 2, 16) := by kernel_rfl
/-- an entry more in a row of the call's own: it stays where it was, or lies anew -/
theorem app_ent {w : World} {B n : Nat} {v : Value} {xs : List Value} (ty : TypeId) (x y : Int) {g : Nat} (hown : w.ownsRow B 143 2 v n xs) (hg : w.heap[g]? = some (.cells #[.int .i64 x, .int .i64 y] 143 (0, 0))) (hB : B ≤ w.heap.size) (hn : n ≤ 1000) :
    ∃ v' w', (Builtin.append_ #[139, 139] ty #[v, .slice (some ⟨g, 0, none⟩) 1 1]).run Tryz.prog w = .ok v' w' ∧ w'.ownsRow B 143 2 v' (n + 1) (xs ++ [.int .i64 x, .int .i64 y]) ∧ w.grownBy w' v.ownBlock ∧ (v'.ownBlock = v.ownBlock ∨ ∀ k, v'.ownBlock = some k → w.heap.size ≤ k) := by
  obtain ⟨i0, hi, hz0, hz1, hz2⟩ := info_parts infoEn
  have hnews : ∀ (j : Nat) (u : Value), ([Value.int .i64 x, .int .i64 y] : List Value)[j]? = some u → w.cell? ((⟨g, 0, none⟩ : Addr).add j) = some u := by
    intro j u hj
    rw [Addr.add_lit, Nat.zero_add, cell_of_row _ _ j _ _ _ hg, List.getElem?_toArray]
    exact hj
  have hone : ∀ u ∈ ([Value.int .i64 x, .int .i64 y] : List Value), u.oneCell' = true := by
    intro u hu
    simp at hu
    rcases hu with rfl | rfl <;> rfl
  have hm1 : n + 1 ≤ maxLen := by unfold maxLen; omega
  rcases hown.2 with ⟨rfl, h0⟩ | ⟨g0, cap, cur, rfl, hg0, hh, hnc, hcm, hcs, htk⟩
  · have hx0 : xs = [] := List.eq_nil_of_length_eq_zero (by have := hown.1; omega)
    subst hx0; subst h0
    obtain ⟨v', w', hrun, hown', hgr, _⟩ := run_append_own (P := Tryz.prog) w w.heap.size 139 ty 143 i0 _ 2 16 Tryz.underlying139 hi hz0 hz1 hz2 rfl (by decide) (.slice none 0 0) 0 [] (World.ownsRow_nil w w.heap.size 143 2) ⟨g, 0, none⟩ 1 1 _ rfl hnews hone hm1 (by omega) (Nat.le_refl _)
    refine ⟨v', w', hrun, ⟨hown'.1, ?_⟩, hgr, Or.inr fun k hk => (hown'.lt k hk).1⟩
    rcases hown'.2 with hn | ⟨g', cap', cur, rfl, hb, rest⟩
    · exact Or.inl hn
    · exact Or.inr ⟨g', cap', cur, rfl, by omega, rest⟩
  · by_cases hroom : n + 1 ≤ cap
    · obtain ⟨w', hrun, hown', hgr⟩ := run_append_fits (P := Tryz.prog) w B 139 ty 143 i0 2 Tryz.underlying139 hi hz1 g0 n cap xs hown ⟨g, 0, none⟩ 1 1 _ rfl hnews hone hroom
      exact ⟨_, w', hrun, hown', hgr, Or.inl rfl⟩
    · obtain ⟨v', w', hrun, hown', hgr⟩ := run_append_arg_grows (P := Tryz.prog) w 139 ty 143 i0 _ 2 16 Tryz.underlying139 hi hz0 hz1 hz2 rfl (by decide) ⟨g0, 0, none⟩ n cap xs hown.1 (fun j u hj => World.ownsRow.cells hown (g := g0) rfl j u hj) ⟨g, 0, none⟩ 1 1 _ rfl hnews (by omega) hm1 (by omega)
      refine ⟨v', w', hrun, ⟨hown'.1, ?_⟩, ⟨hgr.os, hgr.tape, hgr.output, hgr.size, fun k hk _ => hgr.block k hk (by simp)⟩, Or.inr fun k hk => (hown'.lt k hk).1⟩
      rcases hown'.2 with hn | ⟨g', cap', cur, rfl, hb, rest⟩
      · exact Or.inl hn
      · exact Or.inr ⟨g', cap', cur, rfl, by omega, rest⟩
/-- tasks are kept where their block is -/
theorem TK.keep {w w' : World} {v : Value} {n : Nat} {z : Nat → Nat → Int} (h : TK w v n z) (q : ∀ k, v.ownBlock = some k → w'.heap[k]? = w.heap[k]?) : TK w' v n z := by
  obtain ⟨a, cap, rfl, h2, h3, h4, h5⟩ := h
  exact ⟨a, cap, rfl, h2, h3, h4, fun hn => by obtain ⟨b, off, rfl, hc⟩ := h5 hn; exact ⟨b, off, rfl, fun i hi j hj => (World.cell?_of_block (q b rfl)).trans (hc i hi j hj)⟩⟩
/-- the document's stack, whose entries are its own -/
structure RO (w : World) (mb n : Nat) (z : Nat → Nat → Int) (l : List En) (tv lv : Value) : Prop where
  ob : w.heap[mb]? = some (.cells #[tv, lv] 141 (0, 0))
  tk : TK w tv n z
  tb : ∀ k, tv.ownBlock = some k → k ≠ mb ∧ k < w.heap.size
  ow : w.ownsRow (mb + 1) 143 2 lv l.length (ecells l)
  ap : ∀ k, lv.ownBlock = some k → tv.ownBlock ≠ some k
theorem own_es {w : World} {B : Nat} {lv : Value} {l : List En} (h : w.ownsRow B 143 2 lv l.length (ecells l)) : ES w lv l := by
  have hc := fun g => World.ownsRow.cells h (g := g)
  rcases h.2 with ⟨rfl, h0⟩ | ⟨g, cap, cur, rfl, hb, hh, hnc, hcm, _⟩
  · rw [List.eq_nil_of_length_eq_zero h0]; exact ES.nil w
  · refine ⟨_, cap, rfl, hnc, hcm, (fun e => by cases e), fun _ => ⟨g, 0, rfl, fun i hi => ?_⟩⟩
    obtain ⟨h1, h2⟩ := ecells_at l i hi
    have q1 := hc g rfl _ _ h1
    have q2 := hc g rfl _ _ h2
    rw [Addr.add_lit] at q1 q2
    exact ⟨q1, by rw [Nat.add_assoc]; exact q2⟩
theorem RO.rs {w : World} {mb n : Nat} {z : Nat → Nat → Int} {l : List En} {tv lv : Value} (h : RO w mb n z l tv lv) : RS w mb n z l tv lv := ⟨h.ob, h.tk, own_es h.ow⟩
theorem RO.below {w w' : World} {mb n : Nat} {z : Nat → Nat → Int} {l : List En} {tv lv : Value} (h : RO w mb n z l tv lv) (q : Below w.heap.size w w') : RO w' mb n z l tv lv :=
  ⟨(q.block mb (lt_of_block h.ob)).trans h.ob, h.tk.below q, fun k hk => ⟨(h.tb k hk).1, Nat.lt_of_lt_of_le (h.tb k hk).2 q.size⟩,
    h.ow.kept (row := none) ⟨q.os, q.tape, q.output, q.size, fun k hk _ => q.block k hk⟩ (by cases lv.ownBlock <;> simp), h.ap⟩
/-- the blocks that a call may write -/
def SB (mb : Nat) (lv : Value) : Nat → Prop := fun k => k = mb ∨ lv.ownBlock = some k
/-- where the entries lie behind a call: where they were, or anew -/
def Mv (w : World) (lv lv' : Value) : Prop := ∀ k, lv'.ownBlock = some k → lv.ownBlock = some k ∨ w.heap.size ≤ k
theorem Mv.refl (w : World) (lv : Value) : Mv w lv lv := fun k h => Or.inl h
/-- an entry more: the row, and the field -/
theorem RO.put {w wr w1 : World} {mb n : Nat} {z : Nat → Nat → Int} {l : List En} {tv lv v' : Value} {t r : Int} (h : RO w mb n z l tv lv) (q : Below w.heap.size w wr)
    (hown : w1.ownsRow (mb + 1) 143 2 v' (l.length + 1) (ecells l ++ [.int .i64 t, .int .i64 r])) (hgr : wr.grownBy w1 lv.ownBlock) (hb : v'.ownBlock = lv.ownBlock ∨ ∀ k, v'.ownBlock = some k → wr.heap.size ≤ k) :
    RO (w1.setCell ⟨mb, 1, none⟩ v') mb n z (l ++ [(t, r)]) tv v' ∧ Only (SB mb lv) w (w1.setCell ⟨mb, 1, none⟩ v') ∧ Mv w lv v' := by
  have h' := h.below q
  have hmb : some mb ≠ lv.ownBlock := fun e => by have := (h'.ow.lt mb e.symm).1; omega
  have hml := lt_of_block h'.ob
  have hob : w1.heap[mb]? = some (.cells #[tv, lv] 141 (0, 0)) := (hgr.block mb hml hmb).trans h'.ob
  have hvl : ∀ k, v'.ownBlock = some k → mb + 1 ≤ k := fun k hk => (hown.lt k hk).1
  have hMv : Mv w lv v' := fun k hk => by
    rcases hb with e | e
    · exact Or.inl (e ▸ hk)
    · exact Or.inr (Nat.le_trans q.size (e k hk))
  refine ⟨⟨heap_setCell_same w1 mb 1 _ _ v' hob, ?_, ?_, ?_, ?_⟩, ⟨?_, ?_, ?_, ?_, ?_⟩, hMv⟩
  · refine h'.tk.keep fun k hk => (Below.heap_setCell _ _ _ _ (h'.tb k hk).1).trans (hgr.block k (h'.tb k hk).2 fun e => h'.ap k e.symm hk)
  · intro k hk
    exact ⟨(h'.tb k hk).1, by have := (h'.tb k hk).2; have := hgr.size; simp [World.setCell]; omega⟩
  · have e1 : (l ++ [(t, r)]).length = l.length + 1 := by simp
    have e2 : ecells (l ++ [(t, r)]) = ecells l ++ [.int .i64 t, .int .i64 r] := ecells_append _ _
    rw [e1, e2]
    exact hown.kept (row := some mb) ⟨rfl, rfl, rfl, by simp [World.setCell], fun k hk hne => Below.heap_setCell _ _ _ _ (fun e => hne (by rw [e]))⟩ (Or.inr fun e => by have := hvl mb e; omega)
  · intro k hk e
    rcases hb with q' | q'
    · exact h'.ap k (q'.symm.trans hk) e
    · have h1 := q' k hk
      have h2 := (h'.tb k e).2
      omega
  · exact hgr.os.trans q.os
  · exact hgr.tape.trans q.tape
  · exact hgr.output.trans q.output
  · have := q.size; have := hgr.size; simp [World.setCell]; omega
  · intro k hk hS
    have h1 : k ≠ mb := fun e => hS (Or.inl e)
    have h2 : some k ≠ lv.ownBlock := fun e => hS (Or.inr e.symm)
    exact (Below.heap_setCell _ _ _ _ h1).trans ((hgr.block k (Nat.lt_of_lt_of_le hk q.size) h2).trans (q.block k hk))
end Go.Proofs.YtkkmfpllgjoceaaGreat.St

namespace Go.Proofs.YtkkmfpllgjoceaaGreat.St
open Go.RowKit Lv Sk Go.Sort
set_option linter.unusedVariables false
set_option maxRecDepth 100000

theorem has_no {l : List En} {r : Int} (h : ∀ j, j < l.length → (l.getD j e0).2 ≠ r) : has l r = false := by
  cases hh : has l r with
  | false => rfl
  | true =>
    unfold has at hh
    simp only [List.any_eq_true, beq_iff_eq] at hh
    obtain ⟨e, he, hr⟩ := hh
    obtain ⟨j, hj, rfl⟩ := List.mem_iff_getElem.mp he
    have := h j hj
    rw [List.getD_eq_getElem?_getD, List.getElem?_eq_getElem hj] at this
    exact absurd hr this
theorem has_yes {l : List En} {r : Int} {k : Nat} (hk : k < l.length) (h : (l.getD k e0).2 = r) : has l r = true := by
  unfold has
  simp only [List.any_eq_true, beq_iff_eq]
  refine ⟨l[k], List.getElem_mem hk, ?_⟩
  rw [List.getD_eq_getElem?_getD, List.getElem?_eq_getElem hk] at h
  exact h
theorem own_slice {w : World} {B e size n : Nat} {v : Value} {xs : List Value} (h : w.ownsRow B e size v n xs) : ∃ a cap, v = .slice a n cap := by
  rcases h.2 with ⟨rfl, rfl⟩ | ⟨g, cap, cur, rfl, _⟩
  · exact ⟨none, 0, rfl⟩
  · exact ⟨_, _, rfl⟩
/-- a number is answered, the entries are these -/
def StP (w : World) (mb n : Nat) (z : Nat → Nat → Int) (tv lv : Value) (r : Value) (l' : List En) (e : Ending) (w' : World) : Prop :=
  e = .returned r ∧ ∃ lv', RO w' mb n z l' tv lv' ∧ Only (SB mb lv) w w' ∧ Mv w lv lv'
theorem StP.same {w w' : World} {mb n : Nat} {z : Nat → Nat → Int} {l : List En} {tv lv r : Value} (h : RO w mb n z l tv lv) (q : Below w.heap.size w w') : StP w mb n z tv lv r l (.returned r) w' :=
  ⟨rfl, lv, h.below q, Only.of_below q, Mv.refl w lv⟩
set_option maxHeartbeats 4000000 in
theorem rlock_any {w : World} {mb n : Nat} {z : Nat → Nat → Int} {l : List En} {tv lv : Value} (h : RO w mb n z l tv lv) (hl : l.length ≤ 900) (hn : n ≤ 1000) (t r : Int) :
    Calls Tryz.prog 109 #[.pointer (some ⟨mb, 0, none⟩), .int .i64 t, .int .i64 r] w (StP w mb n z tv lv (.int .i64 (lockE n (us n (lo z) r t) l t r)) (lockL n (us n (lo z) r t) l t r)) := by
  obtain ⟨ta, tcap, rfl, ht1, ht2⟩ := h.tk.slice
  obtain ⟨a, cap, rfl, hn1, hn2⟩ := h.rs.es.slice
  obtain ⟨c0, c1⟩ := h.rs.cells
  have HP := Lib.hid h
  obtain ⟨u, hu⟩ : ∃ u, u = us n (lo z) r t := ⟨_, rfl⟩
  have HU := Lib.hid (ruses_any h.tk t r)
  rw [← hu] at HU ⊢
  clear hu
  obtain ⟨m, hm⟩ : ∃ m, m = l.length := ⟨_, rfl⟩
  have HM := Lib.hid hm
  have hmx : m ≤ 9223372036854775807 := by omega
  rw [← hm] at hl hn1 HP c1 ⊢
  clear h hm
  cases h0 : decide (t < 0) with
  | true =>
    have HE : Hid (lockE n u l t r = 9 ∧ lockL n u l t r = l) := by
      have : lockE n u l t r = 9 := if_neg (by have := of_decide_eq_true h0; omega)
      exact ⟨this, by unfold lockL; rw [this]; rfl⟩
    go_enter Tryz.func109, Tryz.ntmps109
    go_wp2_with fail
    go_ret
    rw [HE.out.1, HE.out.2]
    exact StP.same HP.out (Below.refl _ _)
  | false =>
  have ht0 : 0 ≤ t := by have := of_decide_eq_false h0; omega
  by_cases h1 : (n : Int) ≤ t
  · have HE : Hid (lockE n u l t r = 9 ∧ lockL n u l t r = l) := by
      have : lockE n u l t r = 9 := if_neg (by omega)
      exact ⟨this, by unfold lockL; rw [this]; rfl⟩
    have hd : decide ((n : Int) ≤ t) = true := by simpa using h1
    have hd2 : decide (t < (n : Int)) = false := by simp; omega
    go_enter Tryz.func109, Tryz.ntmps109
    go_wp2_with fail
    go_ret
    rw [HE.out.1, HE.out.2]
    exact StP.same HP.out (Below.refl _ _)
  have hlt : t < (n : Int) := by omega
  have hd : decide ((n : Int) ≤ t) = false := by simp; omega
  have hd2 : decide (t < (n : Int)) = true := by simp; omega
  have HLE : Hid (lockE n u l t r = if u then (if has l r then 131 else if (held l t).length = 4 then 130 else 0) else 133) := if_pos ⟨ht0, hlt⟩
  cases u with
  | false =>
    have HE : Hid (lockE n false l t r = 133 ∧ lockL n false l t r = l) := by
      have : lockE n false l t r = 133 := by rw [HLE.out]; rfl
      exact ⟨this, by unfold lockL; rw [this]; rfl⟩
    clear HLE
    go_enter Tryz.func109, Tryz.ntmps109
    go_wp2_with fail
    refine HU.out.mono ?_
    rintro e w1 ⟨rfl, rfl⟩
    go_wp2_with fail
    go_ret
    rw [HE.out.1, HE.out.2]
    exact StP.same HP.out (Below.refl _ _)
  | true =>
  go_enter Tryz.func109, Tryz.ntmps109
  go_wp2_with fail
  refine HU.out.mono ?_
  rintro e w1 ⟨rfl, rfl⟩
  clear HU
  go_wp2_with fail
  go_loopw [7] (fun i wr => ∃ k : Nat, k ≤ m ∧ i = .int .i64 k ∧ Hid (∀ j, j < k → (l.getD j e0).2 ≠ r) ∧ Hid (Below w.heap.size w wr)) (fun i _ => m - (intOf i).toNat)
  case atStart => exact ⟨0, Nat.zero_le _, rfl, (fun j hj => by omega), Below.refl _ _⟩
  case round =>
    obtain ⟨k, hk, rfl, HN, HB⟩ := hrel
    have HPr := Lib.hid (HP.out.below HB.out)
    obtain ⟨c0, c1⟩ := HPr.out.rs.cells
    by_cases hkm : k < m
    · obtain ⟨b, off, rfl, d0, d1⟩ := HPr.out.rs.es.at hkm
      by_cases hx : (l.getD k e0).2 = r
      · have HE : Hid (lockE n true l t r = 131 ∧ lockL n true l t r = l) := by
          have : lockE n true l t r = 131 := by rw [HLE.out, if_pos trivial, if_pos (has_yes (by rw [← HM.out]; exact hkm) hx)]
          exact ⟨this, by unfold lockL; rw [this]; rfl⟩
        rw [hx] at d1
        clear d0 HN hx
        go_wp2_with fail
        go_ret
        rw [HE.out.1, HE.out.2]
        exact StP.same HP.out HB.out
      · have HN2 : Hid (∀ j, j < k + 1 → (l.getD j e0).2 ≠ r) := fun j hj => by
          by_cases q : j = k
          · subst q; exact hx
          · exact HN.out j (by omega)
        have hx2 : ((l.getD k e0).2 == r) = false := by simpa using hx
        have hx3 : decide ((l.getD k e0).2 = r) = false := by simpa using hx
        generalize (l.getD k e0).2 = y at *
        clear HN d0
        go_wp2_with fail
        go_roundw
        case rel => exact ⟨k + 1, by omega, by go_num, HN2, HB⟩
        case measure => simp [intOf]; omega
    · obtain rfl : k = m := by omega
      have HH : Hid (has l r = false) := has_no (by rw [← HM.out]; exact HN.out)
      have HLE2 : Hid (lockE n true l t r = if (held l t).length = 4 then 130 else 0) := by unfold Hid; rw [HLE.out, if_pos trivial, HH.out]; rfl
      have HC := Lib.hid (rheld_any HPr.out.rs (by rw [← HM.out]; omega) t)
      clear HN HLE HH
      go_wp2_with fail
      refine HC.out.mono ?_
      rintro e w2 ⟨rv, rfl, hnr, hb2⟩
      obtain ⟨ra, rcap, rfl⟩ := hnr.is_form
      have HB2 := Lib.hid (chn HB.out hb2)
      obtain ⟨q, hq⟩ : ∃ q, q = (held l t).length := ⟨_, rfl⟩
      rw [← hq] at HLE2 ⊢
      have HP2 := Lib.hid (HP.out.below HB2.out)
      obtain ⟨c0, c1⟩ := HP2.out.rs.cells
      clear hnr hb2 HC HPr HB hq
      by_cases h4 : q = 4
      · subst h4
        have HE : Hid (lockE n true l t r = 130 ∧ lockL n true l t r = l) := by
          have : lockE n true l t r = 130 := by rw [HLE2.out]; rfl
          exact ⟨this, by unfold lockL; rw [this]; rfl⟩
        go_wp2_with fail
        go_ret
        rw [HE.out.1, HE.out.2]
        exact StP.same HP.out HB2.out
      · have HE : Hid (lockE n true l t r = 0 ∧ lockL n true l t r = l ++ [(t, r)]) := by
          have : lockE n true l t r = 0 := by rw [HLE2.out, if_neg h4]
          exact ⟨this, by unfold lockL; rw [this]; rfl⟩
        have h5 : decide ((q : Int) = 4) = false := by simp; omega
        have h6 : ((q : Int) == 4) = false := by simp; omega
        obtain ⟨v', w3, hrun, hown, hgr, hbk⟩ := app_ent (w := w2.alloc (.cells #[.int .i64 t, .int .i64 r] 143)) 139 t r (World.ownsRow.alloc HP2.out.ow _) (g := w2.heap.size) (heap_alloc_new w2 _) (by have := lt_of_block HP2.out.ob; simp; omega) (by rw [← HM.out]; omega)
        obtain ⟨va, vcap, rfl⟩ := own_slice hown
        have hob3 : w3.heap[mb]? = some (.cells #[.slice ta n tcap, .slice a k cap] 141 (0, 0)) := (hgr.block mb (by have := lt_of_block HP2.out.ob; simp; omega) (fun e => by have := (HP2.out.ow.lt mb e.symm).1; omega)).trans ((Below.heap_alloc _ _ _ (lt_of_block HP2.out.ob)).trans HP2.out.ob)
        have s1 : w3.cell? ⟨mb, 0 + 1, none⟩ = some (.slice a k cap) := cell_of_row _ _ 1 _ _ _ hob3
        have s2 : w3.frozen? ⟨mb, 0 + 1, none⟩ = false := frozen_of_row _ _ _ _ _ hob3
        clear hob3
        have HRUN := Lib.hid hrun
        have HPUT := Lib.hid (RO.put HP.out (HB2.out.alloc HB2.out.size _) (by rw [← HM.out] at hown ⊢; exact hown) hgr hbk)
        clear hrun hown hgr hbk h4 HLE2
        go_wp2_with (at_builtin; refine wpList_append_eq rfl _ _ 139 139 rfl _ _ _ _ rfl rfl HRUN.out ?_)
        go_ret
        rw [HE.out.1, HE.out.2]
        exact ⟨rfl, _, HPUT.out⟩
end Go.Proofs.YtkkmfpllgjoceaaGreat.St

namespace Go.Proofs.YtkkmfpllgjoceaaGreat.St
open Go.RowKit Lv Sk Go.Sort
set_option linter.unusedVariables false
set_option maxRecDepth 100000

theorem own_base {w : World} {B C e size n : Nat} {v : Value} {xs : List Value} (h : w.ownsRow B e size v n xs) (hC : C ≤ B) : w.ownsRow C e size v n xs := by
  refine ⟨h.1, ?_⟩
  rcases h.2 with hn | ⟨g, cap, cur, rfl, hb, rest⟩
  · exact Or.inl hn
  · exact Or.inr ⟨g, cap, cur, rfl, by omega, rest⟩
/-- other entries, laid anew -/
theorem RO.anew {w w1 : World} {mb n : Nat} {z : Nat → Nat → Int} {l l' : List En} {tv lv v' : Value} (h : RO w mb n z l tv lv) (q : Below w.heap.size w w1)
    (hown : w1.ownsRow w.heap.size 143 2 v' l'.length (ecells l')) :
    RO (w1.setCell ⟨mb, 1, none⟩ v') mb n z l' tv v' ∧ Only (SB mb lv) w (w1.setCell ⟨mb, 1, none⟩ v') ∧ Mv w lv v' := by
  have h' := h.below q
  have hml := lt_of_block h.ob
  have hvl : ∀ k, v'.ownBlock = some k → w.heap.size ≤ k := fun k hk => (hown.lt k hk).1
  refine ⟨⟨heap_setCell_same w1 mb 1 _ _ v' h'.ob, ?_, ?_, ?_, ?_⟩, ⟨q.os, q.tape, q.output, ?_, ?_⟩, fun k hk => Or.inr (hvl k hk)⟩
  · exact h'.tk.keep fun k hk => Below.heap_setCell _ _ _ _ (h'.tb k hk).1
  · intro k hk
    exact ⟨(h'.tb k hk).1, by have := (h'.tb k hk).2; simp [World.setCell]; omega⟩
  · exact (own_base hown (show mb + 1 ≤ w.heap.size by omega)).kept (row := some mb) ⟨rfl, rfl, rfl, by simp [World.setCell], fun k hk hne => Below.heap_setCell _ _ _ _ (fun e => hne (by rw [e]))⟩ (Or.inr fun e => by have := hvl mb e; omega)
  · intro k hk e
    have h1 := hvl k hk
    have h2 := (h.tb k e).2
    omega
  · have := q.size; simp [World.setCell]; omega
  · intro k hk hS
    exact (Below.heap_setCell _ _ _ _ (fun e => hS (Or.inl e))).trans (q.block k hk)
theorem ecells_take (l : List En) (i : Nat) : (ecells l).take (i * 2) = ecells (l.take i) := by
  induction l generalizing i with
  | nil => simp [ecells]
  | cons e l ih =>
    cases i with
    | zero => simp [ecells]
    | succ i =>
      rw [show (i + 1) * 2 = i * 2 + 1 + 1 by omega]
      have hc : ecells (e :: l) = .int .i64 e.1 :: .int .i64 e.2 :: ecells l := rfl
      have hd : ecells (e :: l.take i) = .int .i64 e.1 :: .int .i64 e.2 :: ecells (l.take i) := rfl
      rw [hc, List.take_succ_cons, List.take_succ_cons, ih, List.take_succ_cons, hd]
theorem ecells_drop (l : List En) (i : Nat) : (ecells l).drop (i * 2) = ecells (l.drop i) := by
  induction l generalizing i with
  | nil => simp [ecells]
  | cons e l ih =>
    cases i with
    | zero => simp [ecells]
    | succ i =>
      rw [show (i + 1) * 2 = i * 2 + 1 + 1 by omega]
      have hc : ecells (e :: l) = .int .i64 e.1 :: .int .i64 e.2 :: ecells l := rfl
      rw [hc, List.drop_succ_cons, List.drop_succ_cons, ih, List.drop_succ_cons]
theorem ecells_one (l : List En) : ∀ u ∈ ecells l, u.oneCell' = true := by
  intro u hu
  simp only [ecells, List.mem_flatMap, List.mem_cons, List.not_mem_nil, or_false] at hu
  obtain ⟨e, _, rfl | rfl⟩ := hu <;> rfl
/-- entries behind entries of the call's own, read where they lie -/
theorem app_ents {w : World} {C : Nat} {v : Value} {l k : List En} (hown : w.ownsRow C 143 2 v l.length (ecells l)) {ad : Addr} {c : Nat} (hk : ∀ j u, (ecells k)[j]? = some u → w.cell? (ad.add j) = some u) (hB : C ≤ w.heap.size) (hl : l.length + k.length ≤ 1000) (ty : TypeId) :
    ∃ v' w', (Builtin.append_ #[139, 139] ty #[v, .slice (some ad) k.length c]).run Tryz.prog w = .ok v' w' ∧ w'.ownsRow C 143 2 v' (l ++ k).length (ecells (l ++ k)) ∧ Below C w w' := by
  obtain ⟨i0, hi, hz0, hz1, hz2⟩ := info_parts infoEn
  obtain ⟨v', w', hrun, hown', hgr, _⟩ := run_append_own (P := Tryz.prog) w C 139 ty 143 i0 _ 2 16 Tryz.underlying139 hi hz0 hz1 hz2 rfl (by decide) v l.length _ hown ad k.length c (ecells k) (ecells_len k) hk (ecells_one k) (by unfold maxLen; omega) (by omega) hB
  refine ⟨v', w', hrun, ?_, (Below.refl C w).grown hgr hB (fun j e => (World.ownsRow.lt hown j e).1)⟩
  rw [List.length_append, ecells_append]
  exact hown'
/-- a number and an error are answered, the entries are these -/
theorem unl_go {l : List En} {t : Int} {k : Nat} (h : (l.getD k e0).1 ≠ t) : unl l t (k + 1) = unl l t k := by
  conv => lhs; unfold unl
  rw [if_neg h]
theorem unl_at {l : List En} {t : Int} {k : Nat} (h : (l.getD k e0).1 = t) : unl l t (k + 1) = some k := by
  unfold unl
  rw [if_pos h]
def unlV (n : Nat) (l : List En) (t : Int) : Value := .tuple #[.int .i64 (if 0 ≤ t ∧ t < n then unlR l t else 0), .int .i64 (unlE n l t)]
def unlN (n : Nat) (l : List En) (t : Int) : List En := if 0 ≤ t ∧ t < n then unlL l t else l
set_option maxHeartbeats 4000000 in
theorem runl_any {w : World} {mb n : Nat} {z : Nat → Nat → Int} {l : List En} {tv lv : Value} (h : RO w mb n z l tv lv) (hl : l.length ≤ 900) (hn : n ≤ 1000) (t : Int) :
    Calls Tryz.prog 111 #[.pointer (some ⟨mb, 0, none⟩), .int .i64 t] w (StP w mb n z tv lv (unlV n l t) (unlN n l t)) := by
  obtain ⟨ta, tcap, rfl, ht1, ht2⟩ := h.tk.slice
  obtain ⟨a, cap, rfl, hn1, hn2⟩ := h.rs.es.slice
  obtain ⟨c0, c1⟩ := h.rs.cells
  have HP := Lib.hid h
  obtain ⟨m, hm⟩ : ∃ m, m = l.length := ⟨_, rfl⟩
  have HM := Lib.hid hm
  have hmx : m ≤ 9223372036854775807 := by omega
  rw [← hm] at hl hn1 HP c1 ⊢
  clear h hm
  cases h0 : decide (t < 0) with
  | true =>
    have HE : Hid (unlV n l t = .tuple #[.int .i64 0, .int .i64 9] ∧ unlN n l t = l) := by
      have hh : ¬ (0 ≤ t ∧ t < (n : Int)) := by have := of_decide_eq_true h0; omega
      exact ⟨by unfold unlV unlE; rw [if_neg hh, if_neg hh], if_neg hh⟩
    go_enter Tryz.func111, Tryz.ntmps111
    go_wp2_with fail
    go_ret2
    rw [HE.out.1, HE.out.2]
    exact StP.same HP.out (Below.refl _ _)
  | false =>
  have ht0 : 0 ≤ t := by have := of_decide_eq_false h0; omega
  by_cases h1 : (n : Int) ≤ t
  · have HE : Hid (unlV n l t = .tuple #[.int .i64 0, .int .i64 9] ∧ unlN n l t = l) := by
      have hh : ¬ (0 ≤ t ∧ t < (n : Int)) := by omega
      exact ⟨by unfold unlV unlE; rw [if_neg hh, if_neg hh], if_neg hh⟩
    have hd : decide ((n : Int) ≤ t) = true := by simpa using h1
    go_enter Tryz.func111, Tryz.ntmps111
    go_wp2_with fail
    go_ret2
    rw [HE.out.1, HE.out.2]
    exact StP.same HP.out (Below.refl _ _)
  have hlt : t < (n : Int) := by omega
  have hd : decide ((n : Int) ≤ t) = false := by simp; omega
  have HV : Hid (unlV n l t = .tuple #[.int .i64 (unlR l t), .int .i64 (unlE n l t)] ∧ unlN n l t = unlL l t) := ⟨by unfold unlV; rw [if_pos ⟨ht0, hlt⟩], if_pos ⟨ht0, hlt⟩⟩
  have HU : Hid (unlE n l t = match unl l t l.length with | some _ => 0 | none => 132) := if_pos ⟨ht0, hlt⟩
  go_enter Tryz.func111, Tryz.ntmps111
  go_wp2_with fail
  go_loopw [6] (fun i wr => ∃ k : Nat, k ≤ m ∧ i = .int .i64 ((k : Int) - 1) ∧ Hid (unl l t m = unl l t k) ∧ Hid (Below w.heap.size w wr)) (fun i _ => (intOf i + 1).toNat)
  case atStart => exact ⟨m, Nat.le_refl _, rfl, rfl, Below.refl _ _⟩
  case round =>
    obtain ⟨k, hk, rfl, HN, HB⟩ := hrel
    have HPr := Lib.hid (HP.out.below HB.out)
    obtain ⟨c0, c1⟩ := HPr.out.rs.cells
    cases k with
    | zero =>
      have HE : Hid (unlV n l t = .tuple #[.int .i64 0, .int .i64 132] ∧ unlN n l t = l) := by
        have hu : unl l t l.length = none := by rw [← HM.out, HN.out]; rfl
        have h1 := HU.out
        rw [hu] at h1
        refine ⟨?_, ?_⟩
        · rw [HV.out.1, h1]; unfold unlR; rw [hu]
        · rw [HV.out.2]; unfold unlL; rw [hu]
      clear HV HU HN
      go_wp2_with fail
      go_ret2
      rw [HE.out.1, HE.out.2]
      exact StP.same HP.out HB.out
    | succ k =>
      have hkm : k < m := by omega
      have hki : ((k + 1 : Nat) : Int) - 1 = k := by omega
      rw [hki]
      obtain ⟨b, off, rfl, d0, d1⟩ := HPr.out.rs.es.at hkm
      by_cases hx : (l.getD k e0).1 = t
      · obtain ⟨rfl, hcells⟩ : off = 0 ∧ ∀ j u, (ecells l)[j]? = some u → wr.cell? ((⟨b, 0, none⟩ : Addr).add j) = some u := by
          have hw := HPr.out.ow
          have hc := fun g => World.ownsRow.cells hw (g := g)
          rcases hw.2 with ⟨e, _⟩ | ⟨g, cap', cur, e, _⟩
          · simp at e
          · simp at e
            obtain ⟨⟨rfl, rfl⟩, _⟩ := e
            exact ⟨rfl, hc _ rfl⟩
        simp only [Nat.zero_add] at d0 d1
        have HE : Hid (unlV n l t = .tuple #[.int .i64 (l.getD k e0).2, .int .i64 0] ∧ unlN n l t = l.take k ++ l.drop (k + 1)) := by
          have hu : unl l t l.length = some k := by rw [← HM.out, HN.out]; exact unl_at hx
          have h1 := HU.out
          rw [hu] at h1
          refine ⟨?_, ?_⟩
          · rw [HV.out.1, h1]; unfold unlR; rw [hu]
          · rw [HV.out.2]; unfold unlL; rw [hu]; rfl
        have hbl : b < w.heap.size := (HP.out.ow.lt b rfl).2
        have hlm : (l.take k).length = k := by rw [List.length_take, ← HM.out]; omega
        have hld : (l.drop (k + 1)).length = m - (k + 1) := by rw [List.length_drop, ← HM.out]
        obtain ⟨v1, w1, hrun1, hown1, hbl1⟩ := app_ents (w := wr) (C := w.heap.size) (v := .slice none 0 0) (l := []) (k := l.take k) (ad := ⟨b, 0, none⟩) (c := cap) (World.ownsRow_nil wr w.heap.size 143 2)
          (fun j u hj => by
            rw [← ecells_take, List.getElem?_take] at hj
            split at hj
            · exact hcells j u hj
            · cases hj) HB.out.size (by simp [hlm]; omega) 139
        rw [hlm] at hrun1
        have HRUN1 := Lib.hid hrun1
        have HB1 := Lib.hid (HB.out.trans hbl1)
        have HP1 := Lib.hid (HP.out.below HB1.out)
        obtain ⟨e0', e1'⟩ := HP1.out.rs.cells
        rw [List.nil_append] at hown1
        obtain ⟨ov, oc, hov⟩ := own_slice hown1
        rw [hlm] at hov
        subst hov
        have hown1' : w1.ownsRow w.heap.size 143 2 (.slice ov k oc) (l.take k).length (ecells (l.take k)) := hown1
        clear hrun1
        rw [hx] at d0
        generalize (l.getD k e0).2 = y at *
        clear hx HN HV HU
        have hkc : k + 1 ≤ cap := by omega
        by_cases hcc : cap = k + 1
        · obtain ⟨v2, w2, hrun2, hown2, hbl2⟩ := app_ents (w := w1) (C := w.heap.size) (v := .slice ov k oc) (l := l.take k) (k := l.drop (k + 1)) (ad := ⟨b, 0, none⟩) (c := 0) hown1'
            (fun j u hj => by
              rw [show l.drop (k + 1) = [] from List.eq_nil_of_length_eq_zero (by rw [hld]; omega)] at hj
              simp [ecells] at hj) HB1.out.size (by rw [hlm, hld]; omega) 139
          rw [hld] at hrun2
          have HPUT := Lib.hid (RO.anew HP.out (HB1.out.trans hbl2) hown2)
          have hob3 := (hbl2.block mb (lt_of_block HP.out.ob)).trans HP1.out.ob
          have s1 : w2.cell? ⟨mb, 0 + 1, none⟩ = some (.slice (some ⟨b, 0, none⟩) m cap) := cell_of_row _ _ 1 _ _ _ hob3
          have s2 : w2.frozen? ⟨mb, 0 + 1, none⟩ = false := frozen_of_row _ _ _ _ _ hob3
          obtain ⟨va, vcap, hv2⟩ := own_slice hown2
          obtain ⟨q, hq⟩ : ∃ q, q = (l.take k ++ l.drop (k + 1)).length := ⟨_, rfl⟩
          rw [← hq] at hv2
          clear hq
          subst hv2
          have HRUN2 := Lib.hid hrun2
          clear hrun2 hown2 hbl2 hob3 hown1 hown1' hcells hbl1 HM HP1 HB1 HPr HB hlm hld
          go_wp2_with (first
            | (at_builtin; refine wpList_append_eq rfl (.tmp 48) (.tmp 54) 139 139 rfl _ _ _ _ rfl rfl HRUN1.out ?_)
            | (at_builtin; refine wpList_append_eq rfl (.tmp 57) (.tmp 64) 139 139 rfl _ _ _ _ rfl rfl HRUN2.out ?_))
          go_ret2
          rw [HE.out.1, HE.out.2]
          exact ⟨rfl, _, HPUT.out⟩
  
        · obtain ⟨v2, w2, hrun2, hown2, hbl2⟩ := app_ents (w := w1) (C := w.heap.size) (v := .slice ov k oc) (l := l.take k) (k := l.drop (k + 1)) (ad := ⟨b, (k + 1) * 2, none⟩) (c := cap - (k + 1)) hown1'
            (fun j u hj => by
              rw [← ecells_drop, List.getElem?_drop] at hj
              have := hcells _ _ hj
              rw [Addr.add_lit] at this ⊢
              simp only [Nat.zero_add] at this
              exact (hbl1.cell hbl).trans this) HB1.out.size (by rw [hlm, hld]; omega) 139
          rw [hld] at hrun2
          have HPUT := Lib.hid (RO.anew HP.out (HB1.out.trans hbl2) hown2)
          have hob3 := (hbl2.block mb (lt_of_block HP.out.ob)).trans HP1.out.ob
          have s1 : w2.cell? ⟨mb, 0 + 1, none⟩ = some (.slice (some ⟨b, 0, none⟩) m cap) := cell_of_row _ _ 1 _ _ _ hob3
          have s2 : w2.frozen? ⟨mb, 0 + 1, none⟩ = false := frozen_of_row _ _ _ _ _ hob3
          obtain ⟨va, vcap, hv2⟩ := own_slice hown2
          obtain ⟨q, hq⟩ : ∃ q, q = (l.take k ++ l.drop (k + 1)).length := ⟨_, rfl⟩
          rw [← hq] at hv2
          clear hq
          subst hv2
          have HRUN2 := Lib.hid hrun2
          clear hrun2 hown2 hbl2 hob3 hown1 hown1' hcells hbl1 HM HP1 HB1 HPr HB hlm hld
          go_wp2_with (first
            | (at_builtin; refine wpList_append_eq rfl (.tmp 48) (.tmp 54) 139 139 rfl _ _ _ _ rfl rfl HRUN1.out ?_)
            | (at_builtin; refine wpList_append_eq rfl (.tmp 57) (.tmp 64) 139 139 rfl _ _ _ _ rfl rfl HRUN2.out ?_))
          go_ret2
          rw [HE.out.1, HE.out.2]
          exact ⟨rfl, _, HPUT.out⟩
      · have HN2 : Hid (unl l t m = unl l t k) := HN.out.trans (unl_go hx)
        have hx2 : ((l.getD k e0).1 == t) = false := by simpa using hx
        have hx3 : decide ((l.getD k e0).1 = t) = false := by simpa using hx
        generalize (l.getD k e0).1 = y at *
        clear HN d1
        go_wp2_with fail
        go_roundw
        case rel => exact ⟨k, by omega, by go_num, HN2, HB⟩
        case measure => simp [intOf]
end Go.Proofs.YtkkmfpllgjoceaaGreat.St

namespace Go.Proofs.YtkkmfpllgjoceaaGreat.St
open Go.RowKit Lv Sk Go.Sort
set_option linter.unusedVariables false
set_option maxRecDepth 100000

theorem infoPn : (Tryz.prog.info? 161).map (fun i => (i.zero, i.size, i.bytes)) = some (some (.agg #[.int .i64 0, .int .i64 0]), 2, 16) := by kernel_rfl
/-- entries of the program's, in a block from B on: its room is its own, or there is none -/
def PE (w : World) (B : Nat) (v : Value) (l : List En) : Prop :=
  (v = .slice none 0 0 ∧ l = []) ∨
  ∃ g cap, v = .slice (some ⟨g, 0, none⟩) l.length cap ∧ B ≤ g ∧ g < w.heap.size ∧ l.length ≤ cap ∧ cap ≤ maxLen ∧
    (∀ j u, (ecells l)[j]? = some u → w.cell? ((⟨g, 0, none⟩ : Addr).add j) = some u) ∧ (cap = l.length ∨ w.ownsRow B 161 2 v l.length (ecells l))
theorem PE.nil (w : World) (B : Nat) : PE w B (.slice none 0 0) [] := Or.inl ⟨rfl, rfl⟩
theorem PE.of_own {w : World} {B : Nat} {v : Value} {l : List En} (h : w.ownsRow B 161 2 v l.length (ecells l)) : PE w B v l := by
  have hc := fun g => World.ownsRow.cells h (g := g)
  have hw := h
  rcases h.2 with ⟨rfl, h0⟩ | ⟨g, cap, cur, rfl, hb, hh, hnc, hcm, _⟩
  · exact Or.inl ⟨rfl, List.eq_nil_of_length_eq_zero h0⟩
  · exact Or.inr ⟨g, cap, rfl, hb, lt_of_block hh, hnc, hcm, hc g rfl, Or.inr hw⟩
theorem PE.lt {w : World} {B : Nat} {v : Value} {l : List En} (h : PE w B v l) : ∀ k, v.ownBlock = some k → B ≤ k ∧ k < w.heap.size := by
  intro k hk
  rcases h with ⟨rfl, _⟩ | ⟨g, cap, rfl, h1, h2, _⟩
  · simp [Value.ownBlock] at hk
  · simp [Value.ownBlock] at hk
    subst hk
    exact ⟨h1, h2⟩
theorem PE.kept {w w' : World} {B : Nat} {v : Value} {l : List En} {row : Option Nat} (h : PE w B v l) (hg : w.grownBy w' row) (hne : v.ownBlock = none ∨ v.ownBlock ≠ row) : PE w' B v l := by
  rcases h with h | ⟨g, cap, rfl, h1, h2, h3, h4, h5, h6⟩
  · exact Or.inl h
  · have hb : w'.heap[g]? = w.heap[g]? := hg.block g h2 (by simpa [Value.ownBlock] using hne)
    refine Or.inr ⟨g, cap, rfl, h1, Nat.lt_of_lt_of_le h2 hg.size, h3, h4, fun j u hj => ?_, ?_⟩
    · have := h5 j u hj
      rw [Addr.add_lit] at this ⊢
      exact (World.cell?_of_block hb).trans this
    · rcases h6 with e | e
      · exact Or.inl e
      · exact Or.inr (e.kept hg hne)
theorem PE.es {w : World} {B : Nat} {v : Value} {l : List En} (h : PE w B v l) : ES w v l := by
  rcases h with ⟨rfl, rfl⟩ | ⟨g, cap, rfl, h1, h2, h3, h4, h5, h6⟩
  · exact ES.nil w
  · refine ⟨_, cap, rfl, h3, h4, (fun e => by cases e), fun _ => ⟨g, 0, rfl, fun i hi => ?_⟩⟩
    obtain ⟨e1, e2⟩ := ecells_at l i hi
    have q1 := h5 _ _ e1
    have q2 := h5 _ _ e2
    rw [Addr.add_lit] at q1 q2
    exact ⟨q1, by rw [Nat.add_assoc]; exact q2⟩
/-- the program's stack -/
structure SO (w : World) (sb n : Nat) (z : Nat → Nat → Int) (l : List En) (tv lv : Value) : Prop where
  ob : w.heap[sb]? = some (.cells #[tv, lv] 127 (0, 0))
  tk : TK w tv n z
  nz : ∃ a k c, tv = .slice (some a) k c
  tb : ∀ k, tv.ownBlock = some k → k ≠ sb ∧ k < w.heap.size
  pe : PE w (sb + 1) lv l
  ap : ∀ k, lv.ownBlock = some k → tv.ownBlock ≠ some k
theorem SO.below {w w' : World} {sb n : Nat} {z : Nat → Nat → Int} {l : List En} {tv lv : Value} (h : SO w sb n z l tv lv) (q : Below w.heap.size w w') : SO w' sb n z l tv lv :=
  ⟨(q.block sb (lt_of_block h.ob)).trans h.ob, h.tk.below q, h.nz, fun k hk => ⟨(h.tb k hk).1, Nat.lt_of_lt_of_le (h.tb k hk).2 q.size⟩,
    h.pe.kept (row := none) ⟨q.os, q.tape, q.output, q.size, fun k hk _ => q.block k hk⟩ (by cases lv.ownBlock <;> simp), h.ap⟩
theorem SO.cells {w : World} {sb n : Nat} {z : Nat → Nat → Int} {l : List En} {tv lv : Value} (h : SO w sb n z l tv lv) : w.cell? ⟨sb, 0, none⟩ = some tv ∧ w.cell? ⟨sb, 0 + 1, none⟩ = some lv := ⟨cell_of_row _ _ 0 _ _ _ h.ob, cell_of_row _ _ 1 _ _ _ h.ob⟩

theorem none_any {w : World} {sb n : Nat} {z : Nat → Nat → Int} {l : List En} {tv lv : Value} (h : SO w sb n z l tv lv) : Calls Tryz.prog 123 #[.pointer (some ⟨sb, 0, none⟩)] w (IsB false w) := by
  obtain ⟨c0, c1⟩ := h.cells
  obtain ⟨a, k, c, rfl⟩ := h.nz
  clear h
  have qT : ∀ (w : World) (a : Option Addr) (n c n' c' : Nat), (binOp .eql 22 (.slice a n c) (.slice none n' c')).run Tryz.prog w = .ok (.bool a.isNone) w := fun w a n c n' c' => Lib.run_eql_slice_nil w _ _ a n c n' c' Tryz.underlying22
  go_enter Tryz.func123, Tryz.ntmps123
  go_wp2_with fail
  go_ret
  exact ⟨rfl, rfl⟩
theorem none_nil (w : World) : Calls Tryz.prog 123 #[.pointer none] w (IsB true w) := by
  go_enter Tryz.func123, Tryz.ntmps123
  go_wp2_with fail
  go_ret
  exact ⟨rfl, rfl⟩
theorem none_zero {w : World} {sb : Nat} (c0 : w.cell? ⟨sb, 0, none⟩ = some (.slice none 0 0)) : Calls Tryz.prog 123 #[.pointer (some ⟨sb, 0, none⟩)] w (IsB true w) := by
  have qT : ∀ (w : World) (a : Option Addr) (n c n' c' : Nat), (binOp .eql 22 (.slice a n c) (.slice none n' c')).run Tryz.prog w = .ok (.bool a.isNone) w := fun w a n c n' c' => Lib.run_eql_slice_nil w _ _ a n c n' c' Tryz.underlying22
  go_enter Tryz.func123, Tryz.ntmps123
  go_wp2_with fail
  go_ret
  exact ⟨rfl, rfl⟩
theorem task_any {w : World} {sb n : Nat} {z : Nat → Nat → Int} {l : List En} {tv lv : Value} (h : SO w sb n z l tv lv) (t : Int) : Calls Tryz.prog 141 #[.pointer (some ⟨sb, 0, none⟩), .int .i64 t] w (IsB (decide (0 ≤ t) && decide (t < n)) w) := by
  obtain ⟨c0, c1⟩ := h.cells
  obtain ⟨a, cap, rfl, hn1, hn2⟩ := h.tk.slice
  clear h
  cases h0 : decide (0 ≤ t) with
  | false =>
    go_enter Tryz.func141, Tryz.ntmps141
    go_wp2_with fail
    go_ret
    exact ⟨by simp, rfl⟩
  | true =>
    go_enter Tryz.func141, Tryz.ntmps141
    go_wp2_with fail
    go_ret
    exact ⟨by simp, rfl⟩
/-- a closure is answered, over a number -/
def ClP (F : Nat) (x : Int) (w : World) (e : Ending) (w' : World) : Prop := ∃ B, e = .returned (.func (.func F) #[] #[.pointer (some ⟨B, 0, none⟩)]) ∧ w'.heap[B]? = some (.cells #[.int .i64 x] 3 (0, 0)) ∧ Below w.heap.size w w'
theorem isof_any (w : World) (x : Int) : Calls Tryz.prog 144 #[.int .i64 x] w (ClP 182 x w) := by
  go_enter Tryz.func144, Tryz.ntmps144
  go_wp2_with fail
  go_ret
  exact ⟨w.heap.size, rfl, heap_alloc_new w _, (Below.refl _ _).alloc (Nat.le_refl _) _⟩
theorem isby_any (w : World) (x : Int) : Calls Tryz.prog 125 #[.int .i64 x] w (ClP 171 x w) := by
  go_enter Tryz.func125, Tryz.ntmps125
  go_wp2_with fail
  go_ret
  exact ⟨w.heap.size, rfl, heap_alloc_new w _, (Below.refl _ _).alloc (Nat.le_refl _) _⟩
theorem of1_any {w : World} {B : Nat} {x : Int} (h : w.heap[B]? = some (.cells #[.int .i64 x] 3 (0, 0))) (t r : Int) : Calls Tryz.prog 182 #[.agg #[.int .i64 t, .int .i64 r], .pointer (some ⟨B, 0, none⟩)] w (YB (decide (r = x)) w) := by
  have hA := (Below.refl _ w).alloc (Nat.le_refl _) (.cells #[.int .i64 t, .int .i64 r] 161)
  have c0 := cell_of_row _ _ 0 _ _ _ ((hA.block _ (lt_of_block h)).trans h)
  have HA := Lib.hid hA
  clear h hA
  go_enter Tryz.func182, Tryz.ntmps182
  go_wp2_with fail
  go_ret
  exact ⟨by simp; rw [Bool.eq_iff_iff]; simp, HA.out⟩
theorem by1_any {w : World} {B : Nat} {x : Int} (h : w.heap[B]? = some (.cells #[.int .i64 x] 3 (0, 0))) (t r : Int) : Calls Tryz.prog 171 #[.agg #[.int .i64 t, .int .i64 r], .pointer (some ⟨B, 0, none⟩)] w (YB (decide (t = x)) w) := by
  have hA := (Below.refl _ w).alloc (Nat.le_refl _) (.cells #[.int .i64 t, .int .i64 r] 161)
  have c0 := cell_of_row _ _ 0 _ _ _ ((hA.block _ (lt_of_block h)).trans h)
  have HA := Lib.hid hA
  clear h hA
  go_enter Tryz.func171, Tryz.ntmps171
  go_wp2_with fail
  go_ret
  exact ⟨by simp; rw [Bool.eq_iff_iff]; simp, HA.out⟩
theorem any_any (w : World) (t r : Int) : Calls Tryz.prog 133 #[.agg #[.int .i64 t, .int .i64 r]] w (YB true w) := by
  have HA := Lib.hid ((Below.refl _ w).alloc (Nat.le_refl _) (.cells #[.int .i64 t, .int .i64 r] 161))
  go_enter Tryz.func133, Tryz.ntmps133
  go_wp2_with fail
  go_ret
  exact ⟨rfl, HA.out⟩
end Go.Proofs.YtkkmfpllgjoceaaGreat.St

namespace Go.Proofs.YtkkmfpllgjoceaaGreat.St
open Go.RowKit Lv Sk Go.Sort
set_option linter.unusedVariables false
set_option maxRecDepth 100000

abbrev CB (w : World) (B : Nat) (x : Int) : Prop := w.heap[B]? = some (.cells #[.int .i64 x] 3 (0, 0))
theorem CB.below {w w' : World} {B : Nat} {x : Int} (h : CB w B x) (q : Below w.heap.size w w') : CB w' B x := (q.block _ (lt_of_block h)).trans h
/-- a place is answered: at least 0, if there is one -/
def IxP (b : Bool) (w : World) (e : Ending) (w' : World) : Prop := ∃ j : Int, e = .returned (.int .i64 j) ∧ decide (0 ≤ j) = b ∧ Below w.heap.size w w'
set_option maxHeartbeats 1000000 in
theorem index_any {w : World} {v : Value} {l : List En} {B : Nat} {x : Int} (h : ES w v l) (hB : CB w B x) (hl : l.length ≤ 1000) :
    Calls Tryz.prog 181 #[v, .func (.func 182) #[] #[.pointer (some ⟨B, 0, none⟩)]] w (IxP (has l x) w) := by
  obtain ⟨a, cap, rfl, hn1, hn2⟩ := h.slice
  have HP := Lib.hid h
  have HC := Lib.hid hB
  obtain ⟨m, hm⟩ : ∃ m, m = l.length := ⟨_, rfl⟩
  have HM := Lib.hid hm
  rw [← hm] at hl hn1 HP ⊢
  clear h hm hB
  go_enter Tryz.func181, Tryz.ntmps181
  go_wp2_with fail
  go_loopw [5, 8] (fun _ i wr => ∃ k : Nat, k ≤ m ∧ i = .int .i64 k ∧ Hid (∀ j, j < k → (l.getD j e0).2 ≠ x) ∧ Hid (Below w.heap.size w wr)) (fun _ i _ => m - (intOf i).toNat)
  case atStart => exact ⟨0, Nat.zero_le _, rfl, (fun j hj => by omega), Below.refl _ _⟩
  case round =>
    obtain ⟨k, hk, rfl, HN, HB⟩ := hrel
    by_cases hlt : k < m
    · obtain ⟨b, off, rfl, d0, d1⟩ := (HP.out.below HB.out).at hlt
      have HX := Lib.hid (of1_any (HC.out.below HB.out) (l.getD k e0).1 (l.getD k e0).2)
      by_cases hx : (l.getD k e0).2 = x
      · have HH : Hid (has l x = true) := has_yes (by rw [← HM.out]; exact hlt) hx
        rw [hx] at d1 HX
        rw [show decide (x = x) = true by simp] at HX
        have hk0 : decide (0 ≤ (k : Int)) = true := by simp
        generalize (l.getD k e0).1 = y at *
        clear HN hx
        go_wp2_with fail
        refine HX.out.mono ?_
        rintro e w2 ⟨rfl, hb⟩
        go_wp2_with fail
        go_ret
        exact ⟨k, rfl, by rw [HH.out, hk0], chn HB.out hb⟩
      · have HN2 : Hid (∀ j, j < k + 1 → (l.getD j e0).2 ≠ x) := fun j hj => by
          by_cases q : j = k
          · subst q; exact hx
          · exact HN.out j (by omega)
        rw [show decide ((l.getD k e0).2 = x) = false by simpa using hx] at HX
        generalize (l.getD k e0).1 = y at *
        generalize (l.getD k e0).2 = u at *
        clear HN hx
        go_wp2_with fail
        refine HX.out.mono ?_
        rintro e w2 ⟨rfl, hb⟩
        go_wp2_with fail
        go_roundw
        case rel => exact ⟨k + 1, by omega, by go_num, HN2, chn HB.out hb⟩
        case measure => simp [intOf]; omega
    · obtain rfl : k = m := by omega
      have HH : Hid (has l x = false) := has_no (by rw [← HM.out]; exact HN.out)
      go_wp2_with fail
      go_ret
      exact ⟨-1, rfl, by rw [HH.out]; rfl, HB.out⟩
theorem contains_any {w : World} {v : Value} {l : List En} {B : Nat} {x : Int} (h : ES w v l) (hB : CB w B x) (hl : l.length ≤ 1000) :
    Calls Tryz.prog 143 #[v, .func (.func 182) #[] #[.pointer (some ⟨B, 0, none⟩)]] w (YB (has l x) w) := by
  have HX := Lib.hid (index_any h hB hl)
  obtain ⟨a, cap, rfl, hn1, hn2⟩ := h.slice
  clear h hB
  go_enter Tryz.func143, Tryz.ntmps143
  go_wp2_with fail
  refine HX.out.mono ?_
  rintro e w2 ⟨j, rfl, hj, hb⟩
  have HJ := Lib.hid hj
  have HB := Lib.hid hb
  clear hj hb
  go_wp2_with fail
  go_ret
  exact ⟨by rw [← HJ.out]; simp, HB.out⟩
def oN (o : Option Nat) : Int := ((o.getD 0 : Nat) : Int)
set_option maxHeartbeats 1000000 in
theorem lastby_any {w : World} {v : Value} {l : List En} {B : Nat} {t : Int} (h : ES w v l) (hB : CB w B t) (hl : l.length ≤ 1000) :
    Calls Tryz.prog 132 #[v, (.func (.func 171) #[] #[.pointer (some ⟨B, 0, none⟩)])] w (TopP (oN (unl l t l.length)) ((unl l t l.length)).isSome w) := by
  obtain ⟨a, cap, rfl, hn1, hn2⟩ := h.slice
  have HP := Lib.hid h
  have HC := Lib.hid hB
  obtain ⟨m, hm⟩ : ∃ m, m = l.length := ⟨_, rfl⟩
  have hmx : m ≤ 9223372036854775807 := by omega
  rw [← hm] at hl hn1 HP ⊢
  clear h hm hB
  have hw : wrap64 ((m : Int) - 1) = (m : Int) - 1 := by unfold wrap64; omega
  go_enter Tryz.func132, Tryz.ntmps132
  go_wp2_with fail
  go_loopw [4] (fun i wr => ∃ k : Nat, k ≤ m ∧ i = .int .i64 ((k : Int) - 1) ∧ Hid (unl l t m = unl l t k) ∧ Hid (Below w.heap.size w wr)) (fun i _ => (intOf i + 1).toNat)
  case atStart => exact ⟨m, Nat.le_refl _, rfl, rfl, Below.refl _ _⟩
  case round =>
    obtain ⟨k, hk, rfl, HN, HB⟩ := hrel
    cases k with
    | zero =>
      go_wp2_with fail
      go_ret2
      exact ⟨by rw [HN.out]; rfl, HB.out⟩
    | succ k =>
      have hkm : k < m := by omega
      have hki : ((k + 1 : Nat) : Int) - 1 = k := by omega
      rw [hki]
      obtain ⟨b, off, rfl, d0, d1⟩ := (HP.out.below HB.out).at hkm
      have HX := Lib.hid (by1_any (HC.out.below HB.out) (l.getD k e0).1 (l.getD k e0).2)
      by_cases hx : (l.getD k e0).1 = t
      · have HU : Hid (unl l t m = some k) := HN.out.trans (unl_at hx)
        rw [hx] at d0 HX
        rw [show decide (t = t) = true by simp] at HX
        generalize (l.getD k e0).2 = y at *
        clear HN hx
        go_wp2_with fail
        refine HX.out.mono ?_
        rintro e w2 ⟨rfl, hb⟩
        go_wp2_with fail
        go_ret2
        exact ⟨by rw [HU.out]; rfl, chn HB.out hb⟩
      · have HN2 : Hid (unl l t m = unl l t k) := HN.out.trans (unl_go hx)
        rw [show decide ((l.getD k e0).1 = t) = false by simpa using hx] at HX
        generalize (l.getD k e0).1 = u at *
        generalize (l.getD k e0).2 = y at *
        clear HN hx
        go_wp2_with fail
        refine HX.out.mono ?_
        rintro e w2 ⟨rfl, hb⟩
        go_wp2_with fail
        go_roundw
        case rel => exact ⟨k, by omega, by go_num, HN2, chn HB.out hb⟩
        case measure => simp [intOf]
/-- the last one of the first k -/
def lst : Nat → Option Nat
  | 0 => none
  | k + 1 => some k
set_option maxHeartbeats 1000000 in
theorem lastany_any {w : World} {v : Value} {l : List En} (h : ES w v l) (hl : l.length ≤ 1000) :
    Calls Tryz.prog 132 #[v, (.func (.func 133) #[] #[])] w (TopP (oN (lst l.length)) ((lst l.length)).isSome w) := by
  obtain ⟨a, cap, rfl, hn1, hn2⟩ := h.slice
  have HP := Lib.hid h
  skip
  obtain ⟨m, hm⟩ : ∃ m, m = l.length := ⟨_, rfl⟩
  have hmx : m ≤ 9223372036854775807 := by omega
  rw [← hm] at hl hn1 HP ⊢
  clear h hm 
  have hw : wrap64 ((m : Int) - 1) = (m : Int) - 1 := by unfold wrap64; omega
  go_enter Tryz.func132, Tryz.ntmps132
  go_wp2_with fail
  go_loopw [4] (fun i wr => ∃ k : Nat, k ≤ m ∧ i = .int .i64 ((k : Int) - 1) ∧ Hid (lst m = lst k) ∧ Hid (Below w.heap.size w wr)) (fun i _ => (intOf i + 1).toNat)
  case atStart => exact ⟨m, Nat.le_refl _, rfl, rfl, Below.refl _ _⟩
  case round =>
    obtain ⟨k, hk, rfl, HN, HB⟩ := hrel
    cases k with
    | zero =>
      go_wp2_with fail
      go_ret2
      exact ⟨by rw [HN.out]; rfl, HB.out⟩
    | succ k =>
      have hkm : k < m := by omega
      have hki : ((k + 1 : Nat) : Int) - 1 = k := by omega
      rw [hki]
      obtain ⟨b, off, rfl, d0, d1⟩ := (HP.out.below HB.out).at hkm
      have HX := Lib.hid (any_any wr (l.getD k e0).1 (l.getD k e0).2)
      generalize (l.getD k e0).1 = u at *
      generalize (l.getD k e0).2 = y at *
      go_wp2_with fail
      refine HX.out.mono ?_
      rintro e w2 ⟨rfl, hb⟩
      go_wp2_with fail
      go_ret2
      exact ⟨by rw [HN.out]; rfl, chn HB.out hb⟩
set_option maxHeartbeats 2000000 in
theorem resby_any {w : World} {v : Value} {l : List En} {B : Nat} {t : Int} (h : ES w v l) (hB : CB w B t) (hl : l.length ≤ 1000) :
    Calls Tryz.prog 124 #[v, (.func (.func 171) #[] #[.pointer (some ⟨B, 0, none⟩)])] w (HeldP w (held l t)) := by
  obtain ⟨a, cap, rfl, hn1, hn2⟩ := h.slice
  have HP := Lib.hid h
  have HC := Lib.hid hB
  have HO := Lib.hid (NR.nil w w.heap.size)
  obtain ⟨m, hm⟩ : ∃ m, m = l.length := ⟨_, rfl⟩
  have HM := Lib.hid hm
  have hmx : m ≤ 9223372036854775807 := by omega
  rw [← hm] at hl hn1 HP ⊢
  clear h hm hB
  go_enter Tryz.func124, Tryz.ntmps124
  go_wp2_with fail
  go_loopw [5, 10] (fun o i wr => ∃ k : Nat, k ≤ m ∧ i = .int .i64 k ∧ Hid (NR wr w.heap.size o (held (l.take k) t)) ∧ Hid (Below w.heap.size w wr)) (fun _ i _ => m - (intOf i).toNat)
  case atStart => exact ⟨0, Nat.zero_le _, rfl, HO.out, Below.refl _ _⟩
  case round =>
    clear HO
    rename_i o _
    obtain ⟨k, hk, rfl, HO, HB⟩ := hrel
    by_cases hlt : k < m
    · obtain ⟨b, off, rfl, d0, d1⟩ := (HP.out.below HB.out).at hlt
      have HT := Lib.hid (held_take l t k (by rw [← HM.out]; exact hlt))
      have HL : (held (l.take k) t).length ≤ 1000 := Nat.le_trans (held_take_len l t k) (by omega)
      by_cases hx : (l.getD k e0).1 = t
      · have HT2 : Hid (held (l.take (k + 1)) t = held (l.take k) t ++ [(l.getD k e0).2]) := HT.out.trans (if_pos hx)
        rw [hx] at d0
        generalize (l.getD k e0).2 = x at *
        have hA := (Below.refl _ wr).alloc (Nat.le_refl _) (.cells #[.int .i64 t, .int .i64 x] 161)
        have HX := Lib.hid (by1_any ((HC.out.below HB.out).below hA) t x)
        rw [show decide (t = t) = true by simp] at HX
        have HO1 := Lib.hid (World.ownsRow.alloc HO.out (.cells #[.int .i64 t, .int .i64 x] 161))
        have HB1 := Lib.hid (HB.out.trans (hA.mono HB.out.size))
        have hT0 := heap_alloc_new wr (.cells #[.int .i64 t, .int .i64 x] 161)
        have HT0 : Hid ((wr.alloc (.cells #[.int .i64 t, .int .i64 x] 161)).heap[wr.heap.size]? = some (.cells #[.int .i64 t, .int .i64 x] 161 (0, 0))) := hT0
        clear hT0 hA hx HT HO HB
        go_wp2_with fail
        refine HX.out.mono ?_
        rintro e w2 ⟨rfl, hb⟩
        have hT2 := (hb.block _ (lt_of_block HT0.out)).trans HT0.out
        have e1 : w2.cell? ⟨wr.heap.size, 0 + 1, none⟩ = some (.int .i64 x) := cell_of_row _ _ 1 _ _ _ hT2
        have e2 : w2.cell? ⟨wr.heap.size, 1, none⟩ = some (.int .i64 x) := e1
        have HO2 := Lib.hid (HO1.out.kept (row := none) ⟨hb.os, hb.tape, hb.output, hb.size, fun k hk _ => hb.block k hk⟩ (by cases Value.ownBlock _ <;> simp))
        have HB2 := Lib.hid (chn HB1.out hb)
        obtain ⟨v', w3, hrun, hown3, hb3⟩ := app_num (w := w2.alloc (.cells #[.int .i64 x] 3)) (World.ownsRow.alloc HO2.out _) x (g := w2.heap.size) (heap_alloc_new w2 _) (Nat.le_trans HB2.out.size (by simp)) HL 41
        have HRUN := Lib.hid hrun
        have HO3 := Lib.hid hown3
        have HB3 : Hid (Below w.heap.size w w3) := (HB2.out.alloc HB2.out.size _).trans hb3
        clear hrun hown3 hb3 hT2 hb HT0 HX HL HO1 HO2 HB1
        go_wp2_with (at_builtin; refine wpList_append_eq rfl _ _ 41 41 rfl _ _ _ _ rfl rfl HRUN.out ?_)
        go_roundw
        case rel => exact ⟨k + 1, by omega, by go_num, by rw [HT2.out]; exact HO3.out, HB3.out⟩
        case measure => simp [intOf]; omega
      · have HT2 : Hid (held (l.take (k + 1)) t = held (l.take k) t) := HT.out.trans (if_neg hx)
        have hd : decide ((l.getD k e0).1 = t) = false := by simpa using hx
        generalize (l.getD k e0).1 = u at *
        generalize (l.getD k e0).2 = x at *
        have hA := (Below.refl _ wr).alloc (Nat.le_refl _) (.cells #[.int .i64 u, .int .i64 x] 161)
        have HX := Lib.hid (by1_any ((HC.out.below HB.out).below hA) u x)
        rw [hd] at HX
        have HO1 := Lib.hid (World.ownsRow.alloc HO.out (.cells #[.int .i64 u, .int .i64 x] 161))
        have HB1 := Lib.hid (HB.out.trans (hA.mono HB.out.size))
        clear hA hx HT HO HB hd
        go_wp2_with fail
        refine HX.out.mono ?_
        rintro e w2 ⟨rfl, hb⟩
        have HO2 := Lib.hid (HO1.out.kept (row := none) ⟨hb.os, hb.tape, hb.output, hb.size, fun k hk _ => hb.block k hk⟩ (by cases Value.ownBlock _ <;> simp))
        have HB2 := Lib.hid (chn HB1.out hb)
        clear hb HX HO1 HB1
        go_wp2_with fail
        go_roundw
        case rel => exact ⟨k + 1, by omega, by go_num, by rw [HT2.out]; exact HO2.out, HB2.out⟩
        case measure => simp [intOf]; omega
    · obtain rfl : k = m := by omega
      have HE : Hid ((held (l.take k) t) = held l t) := by rw [HM.out, List.take_length]; rfl
      go_wp2_with fail
      go_ret
      exact ⟨_, rfl, by rw [← HE.out]; exact HO.out, HB.out⟩
set_option maxHeartbeats 2000000 in
theorem resany_any {w : World} {v : Value} {l : List En} (h : ES w v l) (hl : l.length ≤ 1000) :
    Calls Tryz.prog 124 #[v, (.func (.func 133) #[] #[])] w (HeldP w (l.map (·.2))) := by
  obtain ⟨a, cap, rfl, hn1, hn2⟩ := h.slice
  have HP := Lib.hid h
  skip
  have HO := Lib.hid (NR.nil w w.heap.size)
  obtain ⟨m, hm⟩ : ∃ m, m = l.length := ⟨_, rfl⟩
  have HM := Lib.hid hm
  have hmx : m ≤ 9223372036854775807 := by omega
  rw [← hm] at hl hn1 HP ⊢
  clear h hm 
  go_enter Tryz.func124, Tryz.ntmps124
  go_wp2_with fail
  go_loopw [5, 10] (fun o i wr => ∃ k : Nat, k ≤ m ∧ i = .int .i64 k ∧ Hid (NR wr w.heap.size o ((l.take k).map (·.2))) ∧ Hid (Below w.heap.size w wr)) (fun _ i _ => m - (intOf i).toNat)
  case atStart => exact ⟨0, Nat.zero_le _, rfl, HO.out, Below.refl _ _⟩
  case round =>
    clear HO
    rename_i o _
    obtain ⟨k, hk, rfl, HO, HB⟩ := hrel
    by_cases hlt : k < m
    · obtain ⟨b, off, rfl, d0, d1⟩ := (HP.out.below HB.out).at hlt
      have HT2 : Hid ((l.take (k + 1)).map (·.2) = (l.take k).map (·.2) ++ [(l.getD k e0).2]) := by unfold Hid; rw [take_one l k (by rw [← HM.out]; exact hlt), List.map_append]; rfl
      have HL : ((l.take k).map (·.2)).length ≤ 1000 := by rw [List.length_map, List.length_take]; omega
      generalize (l.getD k e0).1 = u at *
      generalize (l.getD k e0).2 = x at *
      have hA := (Below.refl _ wr).alloc (Nat.le_refl _) (.cells #[.int .i64 u, .int .i64 x] 161)
      have HX := Lib.hid (any_any (wr.alloc (.cells #[.int .i64 u, .int .i64 x] 161)) u x)
      have HO1 := Lib.hid (World.ownsRow.alloc HO.out (.cells #[.int .i64 u, .int .i64 x] 161))
      have HB1 := Lib.hid (HB.out.trans (hA.mono HB.out.size))
      have hT0 := heap_alloc_new wr (.cells #[.int .i64 u, .int .i64 x] 161)
      have HT0 : Hid ((wr.alloc (.cells #[.int .i64 u, .int .i64 x] 161)).heap[wr.heap.size]? = some (.cells #[.int .i64 u, .int .i64 x] 161 (0, 0))) := hT0
      clear hT0 hA HO HB
      go_wp2_with fail
      refine HX.out.mono ?_
      rintro e w2 ⟨rfl, hb⟩
      have hT2 := (hb.block _ (lt_of_block HT0.out)).trans HT0.out
      have e1 : w2.cell? ⟨wr.heap.size, 0 + 1, none⟩ = some (.int .i64 x) := cell_of_row _ _ 1 _ _ _ hT2
      have e2 : w2.cell? ⟨wr.heap.size, 1, none⟩ = some (.int .i64 x) := e1
      have HO2 := Lib.hid (HO1.out.kept (row := none) ⟨hb.os, hb.tape, hb.output, hb.size, fun k hk _ => hb.block k hk⟩ (by cases Value.ownBlock _ <;> simp))
      have HB2 := Lib.hid (chn HB1.out hb)
      obtain ⟨v', w3, hrun, hown3, hb3⟩ := app_num (w := w2.alloc (.cells #[.int .i64 x] 3)) (World.ownsRow.alloc HO2.out _) x (g := w2.heap.size) (heap_alloc_new w2 _) (Nat.le_trans HB2.out.size (by simp)) HL 41
      have HRUN := Lib.hid hrun
      have HO3 := Lib.hid hown3
      have HB3 : Hid (Below w.heap.size w w3) := (HB2.out.alloc HB2.out.size _).trans hb3
      clear hrun hown3 hb3 hT2 hb HT0 HX HL HO1 HO2 HB1
      go_wp2_with (at_builtin; refine wpList_append_eq rfl _ _ 41 41 rfl _ _ _ _ rfl rfl HRUN.out ?_)
      go_roundw
      case rel => exact ⟨k + 1, by omega, by go_num, by rw [HT2.out]; exact HO3.out, HB3.out⟩
      case measure => simp [intOf]; omega
    · obtain rfl : k = m := by omega
      have HE : Hid (((l.take k).map (·.2)) = l.map (·.2)) := by rw [HM.out, List.take_length]; rfl
      go_wp2_with fail
      go_ret
      exact ⟨_, rfl, by rw [← HE.out]; exact HO.out, HB.out⟩
end Go.Proofs.YtkkmfpllgjoceaaGreat.St
