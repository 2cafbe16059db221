/- Partitions in memory; whether they may be asked: the program's answer. -/
import Derived.Test.YtbdiekolkniajaaZp
import Derived.Test.YtbdiekolkniajaaZd
import Derived.OwnWalk
import Derived.RangeFuncNested
import Derived.RangeFuncBound
import Derived.RangeFuncCalls
import Derived.RangeFuncLeaves
import Derived.Shelf.Abstract
import Derived.Shelf.RegionOpen
import Derived.WalkKit
import Derived.OwnWalkIn
import Derived.TacticsInMore
import Derived.LoopNIn
import Derived.LoopIn
import Derived.Lib.QuietBelow
import Derived.IntWalk
namespace Go.Proofs.Ytbdiekolkniajaa
open Go.RowKit Tk De Dl
set_option linter.unusedVariables false

/-- partitions that can be read -/
def PS (w : World) (v : Value) (ps : List Pn) : Prop :=
  ∃ a cap, v = .slice a ps.length cap ∧ ps.length ≤ cap ∧ cap ≤ maxLen ∧ (a = none → cap = 0) ∧
    (0 < ps.length → ∃ b off, a = some ⟨b, off, none⟩ ∧ ∀ i, i < ps.length → w.cell? ⟨b, off + i * 3, none⟩ = some (.int .i64 (ps.getD i p0).per) ∧
      w.cell? ⟨b, off + i * 3 + 1, none⟩ = some (.int .i64 (ps.getD i p0).bud) ∧ ∃ tv, w.cell? ⟨b, off + i * 3 + 2, none⟩ = some tv ∧ TK w tv (ps.getD i p0).n (ps.getD i p0).z ∧ (ps.getD i p0).n ≤ 2199023255552)
theorem PS.slice {w : World} {v : Value} {ps : List Pn} (h : PS w v ps) : ∃ a cap, v = .slice a ps.length cap ∧ ps.length ≤ cap ∧ cap ≤ maxLen := by obtain ⟨a, cap, h1, h2, h3, _⟩ := h; exact ⟨a, cap, h1, h2, h3⟩
theorem PS.below {w w' : World} {v : Value} {ps : List Pn} (h : PS w v ps) (q : Below w.heap.size w w') : PS w' v ps := by
  obtain ⟨a, cap, h1, h2, h3, h4, h5⟩ := h
  refine ⟨a, cap, h1, h2, h3, h4, fun hn => ?_⟩
  obtain ⟨b, off, e, hc⟩ := h5 hn
  refine ⟨b, off, e, fun i hi => ?_⟩
  obtain ⟨c1, c2, tv, c3, c4, c5⟩ := hc i hi
  exact ⟨(q.cell (World.block_lt_of_cell? _ _ c1)).trans c1, (q.cell (World.block_lt_of_cell? _ _ c2)).trans c2, tv, (q.cell (World.block_lt_of_cell? _ _ c3)).trans c3, c4.below q, c5⟩
theorem PS.nil (w : World) : PS w (.slice none 0 0) [] := ⟨none, 0, rfl, Nat.le_refl _, Nat.zero_le _, fun _ => rfl, fun h => by cases h⟩
/-- the cells of one of them -/
structure PC (w : World) (b o : Nat) (p : Pn) (a : Option Addr) (cap : Nat) : Prop where
  c0 : w.cell? ⟨b, o, none⟩ = some (.int .i64 p.per)
  c1 : w.cell? ⟨b, o + 1, none⟩ = some (.int .i64 p.bud)
  c2 : w.cell? ⟨b, o + 2, none⟩ = some (.slice a p.n cap)
  t : TK w (.slice a p.n cap) p.n p.z
  l1 : p.n ≤ cap
  l2 : cap ≤ maxLen
  l3 : p.n ≤ 2199023255552
theorem PS.at {w : World} {n cap : Nat} {a : Option Addr} {ps : List Pn} (h : PS w (.slice a n cap) ps) {i : Nat} (hi : i < n) : ∃ b off ta tcap, a = some ⟨b, off, none⟩ ∧ PC w b (off + i * 3) (ps.getD i p0) ta tcap := by
  obtain ⟨a', cap', e, h1, h2, h3, h4⟩ := h
  obtain ⟨rfl, rfl, rfl⟩ : a = a' ∧ n = ps.length ∧ cap = cap' := by simpa using e
  obtain ⟨b, off, rfl, hc⟩ := h4 (by omega)
  obtain ⟨c1, c2, tv, c3, c4, c5⟩ := hc i hi
  obtain ⟨ta, tcap, rfl, l1, l2⟩ := c4.slice
  exact ⟨b, off, ta, tcap, rfl, c1, c2, c3, c4, l1, l2, c5⟩
/-- which they are: the other one of two lists that one value is -/
theorem PS.len {w : World} {n cap : Nat} {a : Option Addr} {ps : List Pn} (h : PS w (.slice a n cap) ps) : n = ps.length := by
  obtain ⟨a', cap', e, _⟩ := h
  simpa using (by simpa using e : a = a' ∧ n = ps.length ∧ cap = cap').2.1
theorem lt_of_block {w : World} {g : Nat} {o : Obj} (h : w.heap[g]? = some o) : g < w.heap.size := (Array.getElem?_eq_some_iff.1 h).1

theorem dwithin_any (n a b : Int) (w : World) : Calls Try.prog 89 #[.int .i64 n, .int .i64 a, .int .i64 b] w (IsB (inn a b n) w) := by
  unfold inn
  cases h0 : decide (a ≤ n) with
  | false =>
    go_enter Try.func89, Try.ntmps89
    go_wp2
    go_ret
    exact ⟨by simp, rfl⟩
  | true =>
    go_enter Try.func89, Try.ntmps89
    go_wp2
    go_ret
    exact ⟨by simp, rfl⟩
theorem dwithin_fit {n a b : Int} {t : Bool} (h : inn a b n = t) (w : World) : Calls Try.prog 89 #[.int .i64 n, .int .i64 a, .int .i64 b] w (IsB t w) := by subst h; exact dwithin_any n a b w
theorem dwithin_q {n a b : Int} {t : Bool} (h : inn a b n = t) (w : World) : Calls Try.prog 89 #[.int .i64 n, .int .i64 a, .int .i64 b] w (fun e w' => e = .returned (.bool t) ∧ w' = w) := (dwithin_fit h w).mono fun _ _ h => ⟨h.1, h.2.symm⟩
/-- is it one of so many -/
def one (n : Nat) (i : Int) : Bool := inn 0 ((n : Int) - 1) i
theorem one_iff {n : Nat} {i : Int} : one n i = true ↔ 0 ≤ i ∧ i < n := by
  unfold one
  rw [inn_iff]
  omega
theorem one_any (n : Nat) (i : Int) (w : World) (hn : n ≤ maxLen) : Calls Try.prog 76 #[.int .i64 n, .int .i64 i] w (IsB (one n i) w) := by
  have H1 := Lib.hid (dwithin_any i 0 ((n : Int) - 1) w)
  have hw : wrap64 ((n : Int) - 1) = (n : Int) - 1 := by unfold maxLen at hn; unfold wrap64; omega
  unfold one
  clear hn
  go_enter Try.func76, Try.ntmps76
  go_wp2_with fail
  refine H1.out.mono ?_
  rintro e w1 ⟨rfl, rfl⟩
  go_wp2_with fail
  go_ret
  exact ⟨rfl, rfl⟩
theorem one_fit {n : Nat} {i : Int} {R : Bool} (h : one n i = R) (w : World) (hn : n ≤ maxLen) : Calls Try.prog 76 #[.int .i64 n, .int .i64 i] w (IsB R w) := by subst h; exact one_any n i w hn

theorem uses_hit {z : Nat → Nat → Int} {g : Int} {n k : Nat} (hk : k < n) (h : z k 5 = g) : usesN z g n = true := usesN_iff.2 ⟨k, hk, h⟩
set_option maxHeartbeats 1000000 in
theorem has_any {w : World} {v : Value} {n : Nat} {z : Nat → Nat → Int} (h : TK w v n z) (g : Int) : Calls Try.prog 102 #[v, .int .i64 g] w (YB (usesN z g n) w) := by
  obtain ⟨a, cap, rfl, hn1, hn2⟩ := h.slice
  have HP := Lib.hid h
  clear h
  have hmx : n ≤ 9223372036854775807 := by unfold maxLen at hn2; omega
  obtain ⟨R, hR⟩ : ∃ R, R = usesN z g n := ⟨_, rfl⟩
  have HR := Lib.hid hR
  rw [← hR]
  clear hR
  go_enter Try.func102, Try.ntmps102
  go_wp2_with fail
  go_loopw [9] (fun i wr => ∃ k : Nat, k ≤ n ∧ i = .int .i64 k ∧ Hid (usesN z g k = false) ∧ Hid (Below w.heap.size w wr)) (fun i _ => n - (intOf i).toNat)
  case atStart => exact ⟨0, by omega, rfl, rfl, Below.refl _ _⟩
  case round =>
    obtain ⟨k, hk, rfl, HA, HB⟩ := hrel
    by_cases hlt : k < n
    · obtain ⟨b, off, rfl, c⟩ := (HP.out.below HB.out).at hlt
      obtain ⟨c0, c1, c2, c3, c4, c5, c6, c7⟩ := c
      have HB2 := Lib.hid (HB.out.alloc HB.out.size (tko (z k)))
      unfold tko at HB2
      cases hg : decide (z k 5 = g) with
      | true =>
        have HE : Hid (R = true) := HR.out.trans (uses_hit hlt (of_decide_eq_true hg))
        have hb : (z k 5 == g) = true := by simpa using hg
        clear hg
        go_wp2_with fail
        go_ret
        exact ⟨by rw [HE.out]; rfl, HB2.out⟩
      | false =>
        have HE : Hid (usesN z g (k + 1) = false) := by unfold Hid usesN; rw [HA.out, hg]; rfl
        have hb : (z k 5 == g) = false := by simpa using hg
        clear hg HA
        go_wp2_with fail
        go_roundw
        case rel => exact ⟨k + 1, by omega, by go_num, HE, HB2.out⟩
        case measure => simp [intOf]; omega
    · obtain rfl : k = n := by omega
      have HE : Hid (R = false) := HR.out.trans HA.out
      go_wp2_with fail
      go_ret
      exact ⟨by rw [HE.out]; rfl, HB.out⟩

theorem tko_at (w : World) (t : Nat → Int) {j : Nat} (hj : j < 8) : (w.alloc (tko t)).cell? ⟨w.heap.size, j, none⟩ = some (.int .i64 (t j)) := by
  have h := heap_alloc_new w (tko t)
  match j, hj with
  | 0, _ => exact cell_of_row _ _ 0 _ _ _ h
  | 1, _ => exact cell_of_row _ _ 1 _ _ _ h
  | 2, _ => exact cell_of_row _ _ 2 _ _ _ h
  | 3, _ => exact cell_of_row _ _ 3 _ _ _ h
  | 4, _ => exact cell_of_row _ _ 4 _ _ _ h
  | 5, _ => exact cell_of_row _ _ 5 _ _ _ h
  | 6, _ => exact cell_of_row _ _ 6 _ _ _ h
  | 7, _ => exact cell_of_row _ _ 7 _ _ _ h
/-- the program's test on what a task shares -/
def shP (bud : Int) (t : Nat → Int) : Bool := if t 5 = 0 then decide (t 6 = 0) && decide (t 7 = 0) else inn 1 4 (t 5) && (inn 1 bud (t 6) && inn 1 ((t 2).tdiv (t 6)) (t 7))
theorem okT_sh {bud : Int} {t : Nat → Int} (h : tOK t = true) : okT bud t = (inn 0 (t 2) (t 4) && shP bud t) := by
  have h2 := (tOK_iff.1 h).2.2.2.2.1
  rw [Bool.eq_iff_iff, okT_iff]
  unfold shP
  simp only [Bool.and_eq_true, inn_iff]
  by_cases h5 : t 5 = 0
  · rw [if_pos h5, if_pos h5]
    simp only [Bool.and_eq_true, decide_eq_true_eq]
    omega
  · rw [if_neg h5, if_neg h5]
    simp only [Bool.and_eq_true, inn_iff]
    constructor
    · rintro ⟨a1, a2, a3, a4, a5, a6, a7, a8, a9⟩
      refine ⟨⟨a1, a2⟩, ⟨by omega, a4⟩, ⟨a5, a6⟩, a7, ?_⟩
      rw [Int.tdiv_eq_ediv_of_nonneg (by omega), Int.le_ediv_iff_mul_le (by omega), Int.mul_comm]
      exact a9
    · rintro ⟨⟨a1, a2⟩, ⟨a3, a4⟩, ⟨a5, a6⟩, a7, a8⟩
      rw [Int.tdiv_eq_ediv_of_nonneg (by omega), Int.le_ediv_iff_mul_le (by omega), Int.mul_comm] at a8
      refine ⟨a1, a2, by omega, a4, a5, a6, a7, ?_, a8⟩
      have : 1 * t 7 ≤ t 6 * t 7 := Int.mul_le_mul_of_nonneg_right a5 (by omega)
      omega
set_option maxHeartbeats 1000000 in
theorem shared_any (t : Nat → Int) (bud : Int) (w : World) (h : tOK t = true) : Calls Try.prog 103 #[tv t, .int .i64 bud] w (YB (shP bud t) w) := by
  have ht := tOK_iff.1 h
  clear h
  have HB := Lib.hid ((Below.refl _ w).alloc (Nat.le_refl _) (tko t))
  have z2 := tko_at w t (j := 2) (by decide)
  have z5 := tko_at w t (j := 5) (by decide)
  have z6 := tko_at w t (j := 6) (by decide)
  have z7 := tko_at w t (j := 7) (by decide)
  unfold tko at HB z2 z5 z6 z7
  unfold shP tv
  generalize t 0 = t0 at *
  generalize t 1 = t1 at *
  generalize t 2 = t2 at *
  generalize t 3 = t3 at *
  generalize t 4 = t4 at *
  generalize t 5 = t5 at *
  generalize t 6 = t6 at *
  generalize t 7 = t7 at *
  cases h0 : t5 == 0 with
  | true =>
    rw [if_pos (by simpa using h0)]
    cases h1 : t6 == 0 with
    | false =>
      go_enter Try.func103, Try.ntmps103
      go_wp2_with fail
      go_ret
      exact ⟨by rw [show decide (t6 = 0) = false by simpa using h1]; rfl, HB.out⟩
    | true =>
      go_enter Try.func103, Try.ntmps103
      go_wp2_with fail
      go_ret
      exact ⟨by rw [show decide (t6 = 0) = true by simpa using h1, Bool.true_and]; rfl, HB.out⟩
  | false =>
    rw [if_neg (by simpa using h0)]
    cases x1 : inn 1 4 t5 with
    | false =>
      go_enter Try.func103, Try.ntmps103
      go_wp2_with fail
      go_quiet ((go_at_call 89; exact Calls.quiet_of_same (dwithin_q (by assumption) _)))
      go_wp2_with fail
      go_ret
      exact ⟨by simp, below_drewN HB.out _⟩
    | true =>
      cases x2 : inn 1 bud t6 with
      | false =>
        go_enter Try.func103, Try.ntmps103
        go_wp2_with fail
        go_quiet ((go_at_call 89; exact Calls.quiet_of_same (dwithin_q (by assumption) _)))
        go_wp2_with fail
        go_ret
        exact ⟨by simp, below_drewN HB.out _⟩
      | true =>
        have hn := (inn_iff.1 x2).1
        have hz : (t6 == 0) = false := by simp; omega
        have hq1 : t2.tdiv t6 ≤ t2 := Int.tdiv_le_self _ (by omega)
        have hq2 : 0 ≤ t2.tdiv t6 := Int.tdiv_nonneg (by omega) (by omega)
        have hw : wrap64 (t2.tdiv t6) = t2.tdiv t6 := by unfold wrap64; omega
        have hw2 : IntKind.i64.wrap (t2.tdiv t6) = t2.tdiv t6 := by simp [IntKind.wrap, IntKind.bits, IntKind.signed]; omega
        obtain ⟨x3v, x3⟩ : ∃ v, inn 1 (t2.tdiv t6) t7 = v := ⟨_, rfl⟩
        rw [x3]
        clear hq1 hq2 ht
        go_enter Try.func103, Try.ntmps103
        go_wp2_with fail
        go_quiet ((go_at_call 89; exact Calls.quiet_of_same (dwithin_q (by assumption) _)))
        go_wp2_with fail
        go_ret
        exact ⟨by simp, below_drewN HB.out _⟩
theorem shared_fit {t : Nat → Int} {bud : Int} {R : Bool} (h : tOK t = true) (hr : shP bud t = R) (w : World) : Calls Try.prog 103 #[tv t, .int .i64 bud] w (YB R w) := by subst hr; exact shared_any t bud w h
end Go.Proofs.Ytbdiekolkniajaa

namespace Go.Proofs.Ytbdiekolkniajaa
open Go.RowKit Tk De Dl
set_option linter.unusedVariables false

/-- a row that was made whole -/
theorem own_full {w : World} {B e size n g : Nat} {xs : Array Value} (h : w.ownsRow B e size (.slice (some ⟨g, 0, none⟩) n n) n xs.toList) : w.heap[g]? = some (.cells xs e (0, 0)) ∧ xs.size = n * size := by
  have hl : xs.size = n * size := by have := h.1; rwa [Array.length_toList] at this
  rcases h.2 with ⟨h0, _⟩ | ⟨g', cap, cur, hv, _, hg, h1, h2, h3, h4⟩
  · cases h0
  · obtain ⟨rfl, rfl⟩ : g = g' ∧ n = cap := by simpa using hv
    have : cur = xs := by
      apply Array.toList_inj.1
      rw [← h4, List.take_of_length_le (by rw [Array.length_toList, h3]; exact Nat.le_refl _)]
    rw [← this]
    exact ⟨hg, h3⟩
theorem infoIn : (Try.prog.info? 3).map (fun i => (i.zero, i.size, i.bytes)) = some (some (.int .i64 0), 1, 8) := by kernel_rfl
/-- so many nothings, that can be read -/
def noughts (n : Nat) : List Int := List.replicate n 0
theorem made_at {n i : Nat} (h : i < n) : (madeCells #[.int .i64 0] n)[i]? = some (.int .i64 0) := by
  unfold madeCells
  rw [Array.getElem?_map, Array.getElem?_eq_getElem (by simpa using h)]
  simp [Nat.mod_one]
theorem is_made {w : World} {g n : Nat} (h : w.heap[g]? = some (.cells (madeCells (Value.int .i64 0).cells (n * 1)) 3 (0, 0))) (hn : n ≤ maxLen) : IS w (.slice (some ⟨g, 0, none⟩) n n) (noughts n) := by
  have hl : (noughts n).length = n := by simp [noughts]
  refine ⟨_, _, by rw [hl], by rw [hl]; exact Nat.le_refl _, hn, (fun h => by cases h), fun hp => ⟨g, 0, rfl, fun i hi => ?_⟩⟩
  rw [hl] at hi
  rw [cell_of_row w g (0 + i) _ _ _ h, Nat.zero_add, Nat.mul_one]
  refine (made_at hi).trans ?_
  simp [noughts, List.getD, hi]
theorem noughts_ok (n : Nat) (z : Nat → Nat → Int) : chkE n z (noughts n) = if tasksOK n z then 0 else 2 := by
  have h : moreOK (noughts n) = true := by
    rw [moreOK, List.all_eq_true]
    intro x hx
    rw [List.eq_of_mem_replicate hx]
    rfl
  have hl : (noughts n).length = n := by simp [noughts]
  unfold chkE chk
  rw [h, hl, decide_eq_true rfl, Bool.and_true, Bool.and_true]
/-- the program's test on a task of tasks that may be asked -/
theorem okTs_next {bud : Int} {z : Nat → Nat → Int} {k : Nat} {R : Bool} (h : okTs bud z k = true) (hk : okT bud (z k) = R) : okTs bud z (k + 1) = R := by unfold okTs; rw [h, hk]; rfl
/-- a partition by value, and its box -/
abbrev pv (per bud : Int) (a : Option Addr) (n cap : Nat) : Value := .agg #[.int .i64 per, .int .i64 bud, .slice a n cap]
def pvo (per bud : Int) (a : Option Addr) (n cap : Nat) : Obj := .cells #[.int .i64 per, .int .i64 bud, .slice a n cap] 43
/-- the box of a partition, and all that was there, are kept -/
structure KB (w W : World) (per bud : Int) (a : Option Addr) (n cap : Nat) : Prop where
  c0 : W.cell? ⟨w.heap.size, 0, none⟩ = some (.int .i64 per)
  c1 : W.cell? ⟨w.heap.size, 1, none⟩ = some (.int .i64 bud)
  c2 : W.cell? ⟨w.heap.size, 2, none⟩ = some (.slice a n cap)
  b : Below w.heap.size w W
theorem KB.made (w : World) (per bud : Int) (a : Option Addr) (n cap : Nat) : KB w (w.alloc (pvo per bud a n cap)) per bud a n cap :=
  ⟨cell_of_row _ _ 0 _ _ _ (heap_alloc_new w _), cell_of_row _ _ 1 _ _ _ (heap_alloc_new w _), cell_of_row _ _ 2 _ _ _ (heap_alloc_new w _), (Below.refl _ w).alloc (Nat.le_refl _) _⟩
theorem KB.below {w W W' : World} {per bud : Int} {a : Option Addr} {n cap : Nat} (h : KB w W per bud a n cap) (q : Below W.heap.size W W') : KB w W' per bud a n cap :=
  ⟨(q.cell (World.block_lt_of_cell? _ _ h.c0)).trans h.c0, (q.cell (World.block_lt_of_cell? _ _ h.c1)).trans h.c1, (q.cell (World.block_lt_of_cell? _ _ h.c2)).trans h.c2, chn h.b q⟩
theorem KB.alloc {w W : World} {per bud : Int} {a : Option Addr} {n cap : Nat} (h : KB w W per bud a n cap) (o : Obj) : KB w (W.alloc o) per bud a n cap := h.below ((Below.refl _ _).alloc (Nat.le_refl _) o)
theorem nought_facts {w V : World} {per bud : Int} {a : Option Addr} {n cap : Nat} (hn : n ≤ maxLen)
    (hown : V.ownsRow (w.alloc (pvo per bud a n cap)).heap.size 3 1 (.slice (some ⟨(w.alloc (pvo per bud a n cap)).heap.size, 0, none⟩) n n) n (madeCells (Value.int .i64 0).cells (n * 1)).toList)
    (hgrow : (w.alloc (pvo per bud a n cap)).grownBy V none) :
    V.cell? ⟨w.heap.size, 2, none⟩ = some (.slice a n cap) ∧ Hid (KB w V per bud a n cap) ∧ Hid (IS V (.slice (some ⟨w.heap.size + 1, 0, none⟩) n n) (noughts n)) := by
  have hb := (Below.refl (w.alloc (pvo per bud a n cap)).heap.size (w.alloc (pvo per bud a n cap))).grown hgrow (Nat.le_refl _) (fun k hk => by cases hk)
  have hk := (KB.made w per bud a n cap).below hb
  have hi := is_made (own_full hown).1 hn
  rw [World.size_alloc] at hi
  exact ⟨hk.c2, hk, hi⟩
set_option maxRecDepth 100000 in
set_option maxHeartbeats 4000000 in
theorem ptasks_any {w : World} {per bud : Int} {a : Option Addr} {n cap : Nat} {z : Nat → Nat → Int} (h : TK w (.slice a n cap) n z) (hc : cap ≤ maxLen) (hn : n ≤ 2199023255552) :
    Calls Try.prog 100 #[pv per bud a n cap] w (YB (tasksOK n z && okTs bud z n) w) := by
  obtain ⟨i0, hi, hz0, hz1, hz2⟩ := info_parts infoIn
  have hml : n ≤ maxLen := by unfold maxLen; omega
  have HT := Lib.hid h
  have HM := Lib.hid (fun V => nought_facts (w := w) (V := V) (per := per) (bud := bud) (a := a) (n := n) (cap := cap) hml)
  unfold pvo at HM
  have hmx : n ≤ 9223372036854775807 := by omega
  obtain ⟨R, hR⟩ : ∃ R, R = (tasksOK n z && okTs bud z n) := ⟨_, rfl⟩
  have HR0 := Lib.hid hR
  rw [← hR]
  clear h hR
  go_enter Try.func100, Try.ntmps100
  go_wp2_with (at_make; refine wpList_make_full _ rfl _ _ 50 rfl (w.alloc (.cells #[.int .i64 per, .int .i64 bud, .slice a n cap] 43)).heap.size 3 i0 _ 1 Try.underlying50 hi hz0 hz1 .i64 .i64 _ _ n rfl rfl rfl rfl (by rw [hz2]; omega) hml (Nat.le_refl _) ?_; intro V hown hgrow; obtain ⟨m2, HK, HI⟩ := HM.out V hown hgrow; clear hown hgrow)
  have HC := Lib.hid (check_any (HT.out.below HK.out.b) HI.out)
  rw [noughts_ok] at HC
  clear HM HI
  cases hx : tasksOK n z with
  | false =>
    rw [hx] at HC
    have HE : Hid (R = false) := HR0.out.trans (by rw [hx]; rfl)
    clear hx HR0
    refine HC.out.mono ?_
    rintro e w1 ⟨rfl, hb⟩
    have HB := Lib.hid (chn HK.out.b hb)
    clear hb
    go_wp2_with fail
    go_ret
    exact ⟨by rw [HE.out]; rfl, HB.out⟩
  | true =>
    rw [hx] at HC
    have HG := Lib.hid hx
    have HR : Hid (R = okTs bud z n) := HR0.out.trans (by rw [hx]; rfl)
    clear hx HR0 m2
    refine HC.out.mono ?_
    rintro e w1 ⟨rfl, hb⟩
    have HK1 := Lib.hid (HK.out.below hb)
    have m2 := HK1.out.c2
    clear hb HK HC
    go_wp2_with fail
    clear m2
    go_loopw [18] (fun i wr => ∃ k : Nat, k ≤ n ∧ i = .int .i64 k ∧ Hid (okTs bud z k = true) ∧ Hid (KB w wr per bud a n cap)) (fun i _ => n - (intOf i).toNat)
    case atStart => exact ⟨0, by omega, rfl, rfl, HK1.out⟩
    case round =>
      clear HK1
      obtain ⟨k, hk, rfl, HA, HK⟩ := hrel
      by_cases hlt : k < n
      · obtain ⟨b, off, rfl, c⟩ := (HT.out.below HK.out.b).at hlt
        obtain ⟨c0, c1, c2, c3, c4, c5, c6, c7⟩ := c
        have HK2 := Lib.hid (HK.out.alloc (tko (z k)))
        have d1 := HK2.out.c1
        have hok : tOK (z k) = true := (good_of HG.out).task hlt
        have HO := Lib.hid (okT_sh (bud := bud) hok)
        have HS := Lib.hid (fun W => shared_any (z k) bud W hok)
        have HW := Lib.hid (fun W => dwithin_any (z k 4) 0 (z k 2) W)
        have HN : Hid (okT bud (z k) = false → R = false) := fun hf => HR.out.trans (okTs_no hlt hf)
        have HY : Hid (okT bud (z k) = true → okTs bud z (k + 1) = true) := fun hf => okTs_next HA.out hf
        unfold tko at HK2 d1
        unfold tv at HS
        clear hok HA
        generalize shP bud (z k) = s2 at *
        generalize inn 0 (z k 2) (z k 4) = s1 at *
        cases s1 with
        | false =>
          have HE : Hid (R = false) := HN.out HO.out
          clear HN HY HO
          go_wp2_with fail
          refine (HW.out _).mono ?_
          rintro e w1 ⟨rfl, rfl⟩
          go_wp2_with fail
          go_ret
          exact ⟨by rw [HE.out]; rfl, HK2.out.b⟩
        | true =>
          rw [Bool.true_and] at HO
          go_wp2_with fail
          refine (HW.out _).mono ?_
          rintro e w1 ⟨rfl, rfl⟩
          go_wp2_with fail
          refine (HS.out _).mono ?_
          rintro e w2 ⟨rfl, hb⟩
          have HK3 := Lib.hid (HK2.out.below hb)
          clear hb c0 c1 c2 c3 c4 c5 c6 c7 d1
          cases s2 with
          | false =>
            have HE : Hid (R = false) := HN.out HO.out
            clear HN HY HO
            go_wp2_with fail
            go_ret
            exact ⟨by rw [HE.out]; rfl, HK3.out.b⟩
          | true =>
            have HE := Lib.hid (HY.out HO.out)
            clear HN HY HO
            go_wp2_with fail
            go_roundw
            case rel => exact ⟨k + 1, by omega, by go_num, HE, HK3⟩
            case measure => simp [intOf]; omega
      · obtain rfl : k = n := by omega
        have HE : Hid (R = true) := HR.out.trans HA.out
        go_wp2_with fail
        go_ret
        exact ⟨by rw [HE.out]; rfl, HK.out.b⟩
theorem ptasks_fit {w : World} {per bud : Int} {a : Option Addr} {n cap : Nat} {z : Nat → Nat → Int} {R : Bool} (hr : (tasksOK n z && okTs bud z n) = R) (h : TK w (.slice a n cap) n z) (hc : cap ≤ maxLen) (hn : n ≤ 2199023255552) :
    Calls Try.prog 100 #[pv per bud a n cap] w (YB R w) := by subst hr; exact ptasks_any h hc hn
/-- of the first k of them each may be asked -/
def okK (l : List Pn) : Nat → Bool
  | 0 => true
  | k + 1 => okK l k && okP (l.getD k p0)
theorem okK_all {l : List Pn} : ∀ {k : Nat}, okK l k = true ↔ ∀ i, i < k → okP (l.getD i p0) = true
  | 0 => by simp [okK]
  | k + 1 => by
    rw [okK, Bool.and_eq_true, okK_all]
    exact ⟨fun h i hi => by
      by_cases e : i = k
      · subst e; exact h.2
      · exact h.1 i (by omega), fun h => ⟨fun i hi => h i (by omega), h k (by omega)⟩⟩
theorem okK_chk {l : List Pn} (h : okK l l.length = true) (hl : l.length ≤ 4) : chkP l = true := okP_all (okK_all.1 h) hl
theorem okP_three (p : Pn) : okP p = (inn 1 64 p.per && (inn 1 p.per p.bud && (tasksOK p.n p.z && okTs p.bud p.z p.n))) := by
  unfold okP inn
  simp only [Bool.and_assoc]
set_option maxRecDepth 100000 in
set_option maxHeartbeats 4000000 in
theorem parts_any {w : World} {v : Value} {ps : List Pn} (h : PS w v ps) : Calls Try.prog 88 #[v] w (YB (chkP ps) w) := by
  obtain ⟨a, cap, rfl, hn1, hn2⟩ := h.slice
  have HP := Lib.hid h
  obtain ⟨n, hn⟩ : ∃ n, n = ps.length := ⟨_, rfl⟩
  have HN := Lib.hid hn
  rw [← hn] at hn1 HP ⊢
  clear h hn
  have hmx : n ≤ 9223372036854775807 := by unfold maxLen at hn2; omega
  obtain ⟨R, hR⟩ : ∃ R, R = chkP ps := ⟨_, rfl⟩
  have HR := Lib.hid hR
  rw [← hR]
  clear hR
  cases hx : decide (n ≤ 4) with
  | false =>
    have h4 : decide ((4 : Int) < (n : Int)) = true := by have := of_decide_eq_false hx; simp; omega
    have HF : Hid (R = false) := HR.out.trans (okP_len (by have := of_decide_eq_false hx; have := HN.out; omega))
    clear hx
    go_enter Try.func88, Try.ntmps88
    go_wp2_with fail
    go_ret
    exact ⟨by rw [HF.out]; rfl, Below.refl _ _⟩
  | true =>
    have h4 : decide ((4 : Int) < (n : Int)) = false := by have := of_decide_eq_true hx; simp; omega
    have HL : Hid (ps.length ≤ 4) := by have := of_decide_eq_true hx; have := HN.out; unfold Hid; omega
    clear hx
    go_enter Try.func88, Try.ntmps88
    go_wp2_with fail
    go_loopw [10] (fun i wr => ∃ k : Nat, k ≤ n ∧ i = .int .i64 k ∧ Hid (okK ps k = true) ∧ Hid (Below w.heap.size w wr)) (fun i _ => n - (intOf i).toNat)
    case atStart => exact ⟨0, by omega, rfl, rfl, Below.refl _ _⟩
    case round =>
      obtain ⟨k, hk, rfl, HA, HB⟩ := hrel
      by_cases hlt : k < n
      · obtain ⟨b, off, ta, tcap, rfl, c0, c1, c2, hT, l1, l2, l3⟩ := (HP.out.below HB.out).at hlt
        obtain ⟨p, hp⟩ : ∃ p, p = ps.getD k p0 := ⟨_, rfl⟩
        have HNO : Hid (okP p = false → R = false) := fun hf => HR.out.trans (okP_no (by rw [← HN.out]; exact hlt) (by rw [← hp]; exact hf))
        have HYE : Hid (okP p = true → okK ps (k + 1) = true) := fun hf => by unfold okK; rw [HA.out, ← hp, hf]; rfl
        rw [← hp] at c0 c1 c2 hT l1 l3
        have HO := Lib.hid (okP_three p)
        clear hp HA
        obtain ⟨per, bud, m, z⟩ := p
        dsimp only at c0 c1 c2 hT l1 l3 HO
        generalize okP ⟨per, bud, m, z⟩ = q at *
        have HK := Lib.hid (KB.made wr per bud ta m tcap)
        have HT := Lib.hid (fun W (hb : Below wr.heap.size wr W) => ptasks_any (w := W) (per := per) (bud := bud) (hT.below hb) l2 l3)
        unfold pvo at HK
        unfold pv at HT
        have d0 := HK.out.c0; have d1 := HK.out.c1; have d2 := HK.out.c2
        clear hT l1
        generalize (tasksOK m z && okTs bud z m) = s3 at *
        cases g0 : inn 1 64 per with
        | false =>
          have HE : Hid (R = false) := HNO.out (by rw [HO.out, g0]; rfl)
          have G0 := Lib.hid (dwithin_fit g0)
          clear g0 HO HNO HYE HT
          go_wp2_with fail
          refine (G0.out _).mono ?_
          rintro e w1 ⟨rfl, rfl⟩
          go_wp2_with fail
          go_ret
          exact ⟨by rw [HE.out]; rfl, chn HB.out HK.out.b⟩
        | true =>
          cases g1 : inn 1 per bud with
          | false =>
            have HE : Hid (R = false) := HNO.out (by rw [HO.out, g0, g1]; rfl)
            have G0 := Lib.hid (dwithin_fit g0); have G1 := Lib.hid (dwithin_fit g1)
            clear g0 g1 HO HNO HYE HT
            go_wp2_with fail
            refine (G0.out _).mono ?_
            rintro e w1 ⟨rfl, rfl⟩
            go_wp2_with fail
            refine (G1.out _).mono ?_
            rintro e w1 ⟨rfl, rfl⟩
            go_wp2_with fail
            go_ret
            exact ⟨by rw [HE.out]; rfl, chn HB.out HK.out.b⟩
          | true =>
            have HQ : Hid (q = s3) := by unfold Hid; rw [HO.out, g0, g1]; rfl
            have G0 := Lib.hid (dwithin_fit g0); have G1 := Lib.hid (dwithin_fit g1)
            have HT1 := Lib.hid (HT.out _ HK.out.b)
            clear g0 g1 HO HT
            go_wp2_with fail
            refine (G0.out _).mono ?_
            rintro e w1 ⟨rfl, rfl⟩
            go_wp2_with fail
            refine (G1.out _).mono ?_
            rintro e w1 ⟨rfl, rfl⟩
            go_wp2_with fail
            refine HT1.out.mono ?_
            rintro e w1 ⟨rfl, hb⟩
            have HB2 := Lib.hid (chn HB.out (HK.out.below hb).b)
            clear hb HT1 c0 c1 c2 d0 d1 d2 HK HB
            cases s3 with
            | false =>
              have HE : Hid (R = false) := HNO.out HQ.out
              clear HNO HYE HQ
              go_wp2_with fail
              go_ret
              exact ⟨by rw [HE.out]; rfl, HB2.out⟩
            | true =>
              have HE := Lib.hid (HYE.out HQ.out)
              clear HNO HYE HQ
              go_wp2_with fail
              go_roundw
              case rel => exact ⟨k + 1, by omega, by go_num, HE, HB2⟩
              case measure => simp [intOf]; omega
      · obtain rfl : k = n := by omega
        have HE : Hid (R = true) := HR.out.trans (okK_chk (by rw [← HN.out]; exact HA.out) HL.out)
        go_wp2_with fail
        go_ret
        exact ⟨by rw [HE.out]; rfl, HB.out⟩
theorem checkp_any {w : World} {v : Value} {ps : List Pn} (h : PS w v ps) : Calls Try.prog 75 #[v] w (YI (chkPE ps) w) := by
  have H1 := Lib.hid (parts_any h)
  obtain ⟨a, cap, rfl, hn1, hn2⟩ := h.slice
  unfold chkPE
  clear h
  cases hx : chkP ps with
  | false =>
    rw [hx] at H1
    go_enter Try.func75, Try.ntmps75
    go_wp2_with fail
    refine H1.out.mono ?_
    rintro e w1 ⟨rfl, hb⟩
    go_wp2_with fail
    go_ret
    exact ⟨rfl, hb⟩
  | true =>
    rw [hx] at H1
    go_enter Try.func75, Try.ntmps75
    go_wp2_with fail
    refine H1.out.mono ?_
    rintro e w1 ⟨rfl, hb⟩
    go_wp2_with fail
    go_ret
    exact ⟨rfl, hb⟩
end Go.Proofs.Ytbdiekolkniajaa

namespace Go.Proofs.Ytbdiekolkniajaa
open Go.RowKit Go.Shelf Tk De Dl
set_option linter.unusedVariables false
attribute [local go_sem] Oper.semAt_some

/-- a partition that is handed to a round: its period is one that may be -/
structure Pv where
  per : Int
  bud : Int
  a : Option Addr
  n : Nat
  cap : Nat
  p1 : 1 ≤ per
  p2 : per ≤ 64
def Pv.enc (x : Pv) : Array Value := #[.agg #[.int .i64 x.per, .int .i64 x.bud, .slice x.a x.n x.cap]]
/-- what they add to a wait -/
def tw (l : List Pv) : Int := (l.map fun x => 2 * x.per).sum
theorem tw_snoc (l : List Pv) (x : Pv) : tw (l ++ [x]) = tw l + 2 * x.per := by simp [tw]
theorem tw_bd : ∀ l : List Pv, 0 ≤ tw l ∧ tw l ≤ 128 * l.length
  | [] => by simp [tw]
  | x :: r => by
    have h1 := tw_bd r
    have h2 := x.p1; have h3 := x.p2
    have : tw (x :: r) = 2 * x.per + tw r := rfl
    rw [this, List.length_cons]
    omega
theorem grown_of_below {A B : World} (h : Below A.heap.size A B) : A.grownBy B none := ⟨h.os, h.tape, h.output, h.size, fun k hk _ => h.block k hk⟩
/-- the two boxes that the iterator has captured -/
structure Cap (W : World) (Bo Bg : Nat) (a : Option Addr) (m cap q : Nat) (g : Int) : Prop where
  o : W.heap[Bo]? = some (.cells #[.slice a m cap, .int .i64 q] 108 (0, 0))
  g : W.heap[Bg]? = some (.cells #[.int .i64 g] 3 (0, 0))
theorem Cap.c0 {W : World} {Bo Bg : Nat} {a : Option Addr} {m cap q : Nat} {g : Int} (h : Cap W Bo Bg a m cap q g) : W.cell? ⟨Bo, 0, none⟩ = some (.slice a m cap) := cell_of_row _ _ 0 _ _ _ h.o
theorem Cap.c1 {W : World} {Bo Bg : Nat} {a : Option Addr} {m cap q : Nat} {g : Int} (h : Cap W Bo Bg a m cap q g) : W.cell? ⟨Bo, 1, none⟩ = some (.int .i64 q) := cell_of_row _ _ 1 _ _ _ h.o
theorem Cap.c2 {W : World} {Bo Bg : Nat} {a : Option Addr} {m cap q : Nat} {g : Int} (h : Cap W Bo Bg a m cap q g) : W.cell? ⟨Bg, 0, none⟩ = some (.int .i64 g) := cell_of_row _ _ 0 _ _ _ h.g
/-- what a round keeps -/
def Kx (B Bo Bg : Nat) (W W' : World) : Prop := Below B W W' ∧ W'.heap[Bo]? = W.heap[Bo]? ∧ W'.heap[Bg]? = W.heap[Bg]?
theorem Kx.t {B Bo Bg : Nat} {X Y Z : World} (h : Kx B Bo Bg X Y) (k : Kx B Bo Bg Y Z) : Kx B Bo Bg X Z := ⟨h.1.trans k.1, k.2.1.trans h.2.1, k.2.2.trans h.2.2⟩
theorem Kx.b {B Bo Bg : Nat} {w : World} (hB : B ≤ w.heap.size) (h1 : Bo < w.heap.size) (h2 : Bg < w.heap.size) (W : World) (l : Nat) (o o' : Obj) (hl : w.heap.size ≤ l) (h : W.heap[l]? = some o) (hc : o.isCells = false) (hw : o.isWalk = false) : Kx B Bo Bg W (W.putObj l o') :=
  ⟨belowK_b hB W l o o' hl h hc hw, World.putObj_heap_other (by omega), World.putObj_heap_other (by omega)⟩
theorem Kx.below {B Bo Bg : Nat} {W W' : World} (h : Below W.heap.size W W') (hB : B ≤ W.heap.size) (h1 : Bo < W.heap.size) (h2 : Bg < W.heap.size) : Kx B Bo Bg W W' := ⟨h.mono hB, h.block _ h1, h.block _ h2⟩
theorem Cap.kept {W W' : World} {B Bo Bg : Nat} {a : Option Addr} {m cap q : Nat} {g : Int} (h : Cap W Bo Bg a m cap q g) (k : Kx B Bo Bg W W') : Cap W' Bo Bg a m cap q g := ⟨k.2.1.trans h.o, k.2.2.trans h.g⟩
theorem Cap.lt {W : World} {Bo Bg : Nat} {a : Option Addr} {m cap q : Nat} {g : Int} (h : Cap W Bo Bg a m cap q g) : Bo < W.heap.size ∧ Bg < W.heap.size := ⟨lt_of_block h.o, lt_of_block h.g⟩
theorem wt_skip {ps : List Pn} {q k : Nat} {g : Int} (h : k = q ∨ uses (ps.getD k p0) g = false) : wt ps q g (k + 1) = wt ps q g k := by
  have hn : ¬ (0 < g ∧ k ≠ q ∧ uses (ps.getD k p0) g = true) := fun hc => by
    rcases h with h | h
    · exact hc.2.1 h
    · rw [h] at hc; exact absurd hc.2.2 (by decide)
  rw [wt, add1, if_neg hn, Int.add_zero]
theorem wt_take {ps : List Pn} {q k : Nat} {g : Int} (hg : 0 < g) (h1 : k ≠ q) (h2 : uses (ps.getD k p0) g = true) : wt ps q g (k + 1) = wt ps q g k + 2 * (ps.getD k p0).per := by
  rw [wt, add1, if_pos ⟨hg, h1, h2⟩]

set_option maxRecDepth 100000 in
set_option maxHeartbeats 4000000 in
/-- the iterator's walk -/
theorem shar1_in {n : Nat} (hn : 1 ≤ n) {w : World} (l Bo Bg : Nat) {a : Option Addr} {m cap q : Nat} {g : Int} {ps : List Pn} (hg : 0 < g) (hP : PS w (.slice a m cap) ps) (hok : chkP ps = true) (J Jx : List Pv → World → Prop)
    (W : World) (hW : Below w.heap.size w W) (hJ : AbidesFrom W.heap.size J) (hC : Cap W Bo Bg a m cap q g)
    (hY : ∀ pre x W1, J pre W1 → pre.length < m → YieldAt Fence.wide (n - 1) Try.prog l x.enc W1 fun e W' =>
      (e = .returned (.bool true) ∧ J (pre ++ [x]) W' ∧ Kx w.heap.size Bo Bg W1 W') ∨ (e = .returned (.bool false) ∧ Jx (pre ++ [x]) W'))
    (h0 : J [] W) :
    CallsIn Fence.wide n Try.prog 101 #[.func (.yield l) #[] #[], .pointer (some ⟨Bo, 0, none⟩), .pointer (some ⟨Bg, 0, none⟩)] W fun e W' => (∃ v, e = .returned v) ∧
      ((∃ xs, tw xs = wt ps q g m ∧ J xs W') ∨ (∃ pre, True ∧ Jx pre W')) := by
  have HP := Lib.hid hP; have HW := Lib.hid hW; have HC := Lib.hid hC; have HY := Lib.hid hY; have HJ := Lib.hid hJ; have H0 := Lib.hid h0
  have HOK := Lib.hid hok
  have hml := hP.len
  have HML := Lib.hid hml
  have hmx : m ≤ 9223372036854775807 := by have := chkP_len hok; omega
  have c0 := hC.c0
  clear hP hW hC hY hJ h0 hok hml
  refine callsIn_of_wp Try.func101 rfl trivial ?_ rfl
  simp only [Try.ntmps101, List.size_toArray, List.length_cons, List.length_nil, Nat.reduceAdd, Nat.reduceSub, Array.replicate_succ, Array.replicate_zero, List.push_toArray, List.append_toArray, List.nil_append, List.cons_append]
  gi_wp2
  clear c0
  gi_loopw [9] (fun i wr => ∃ (k : Nat) (pre : List Pv), k ≤ m ∧ i = .int .i64 k ∧ Hid (pre.length ≤ k) ∧ Hid (tw pre = wt ps q g k) ∧ Hid (J pre wr) ∧ Hid (Kx w.heap.size Bo Bg W wr) ∧ Hid (W.heap.size ≤ wr.heap.size)) (fun i _ => m - (intOf i).toNat)
  case atStart => exact ⟨0, [], Nat.zero_le _, rfl, Nat.le_refl _, rfl, H0.out, ⟨Below.refl _ _, rfl, rfl⟩, Nat.le_refl _⟩
  case round =>
    obtain ⟨k, pre, hk, rfl, HL, HT, HJS, HK, HS⟩ := hrel
    by_cases hlt : k < m
    · have HCW := Lib.hid (HC.out.kept HK.out)
      have c1 := HCW.out.c1
      obtain ⟨b, off, ta, tcap, rfl, d0, d1, d2, hT, l1, l2, l3⟩ := (HP.out.below (HW.out.trans HK.out.1)).at hlt
      have hpb := chkP_at HOK.out (i := k) (by rw [← HML.out]; exact hlt)
      have HSK : Hid (k = q ∨ uses (ps.getD k p0) g = false → wt ps q g (k + 1) = wt ps q g k) := wt_skip
      have HTA : Hid (k ≠ q → uses (ps.getD k p0) g = true → wt ps q g (k + 1) = wt ps q g k + 2 * (ps.getD k p0).per) := wt_take hg
      obtain ⟨p, hp⟩ : ∃ p, p = ps.getD k p0 := ⟨_, rfl⟩
      rw [← hp] at d0 d1 d2 hT l1 l3 hpb HSK HTA
      have hp1 := hpb.p1; have hp2 := hpb.p2
      clear hp hpb
      obtain ⟨per, bud, pn, z⟩ := p
      dsimp only [uses] at d0 d1 d2 hT l1 l3 hp1 hp2 HSK HTA
      have HKB := Lib.hid (KB.made wr per bud ta pn tcap)
      have HCB := Lib.hid (HCW.out.kept (Kx.below HKB.out.b (Nat.le_trans HW.out.size HS.out) HCW.out.lt.1 HCW.out.lt.2))
      have e2 := HKB.out.c2
      have e1 := HCB.out.c1
      have eg := HCB.out.c2
      have HTK := Lib.hid hT
      unfold pvo at HKB HCB e2 e1 eg
      clear hT
      by_cases hq : k = q
      · have hne : ((k : Int) != (q : Int)) = false := by simp; omega
        have HE : Hid (tw pre = wt ps q g (k + 1)) := HT.out.trans (HSK.out (Or.inl hq)).symm
        have HJ2 : Hid (J pre (wr.alloc (.cells #[.int .i64 per, .int .i64 bud, .slice ta pn tcap] 43))) := HJ.out _ _ _ none HJS.out (grown_of_below HKB.out.b) (fun r e => by cases e)
        have HK2 : Hid (Kx w.heap.size Bo Bg W (wr.alloc (.cells #[.int .i64 per, .int .i64 bud, .slice ta pn tcap] 43))) := HK.out.t (Kx.below HKB.out.b (Nat.le_trans HW.out.size HS.out) HCW.out.lt.1 HCW.out.lt.2)
        have HS2 := Lib.hid (Nat.le_trans HS.out HKB.out.b.size)
        clear hq HSK HTA HCW HK HJS HT HS
        gi_wp2
        refine ⟨trivial, ?_⟩
        gi_wp2
        refine ⟨fun _ h => (by cases h), ?_⟩
        gi_wp2
        go_roundw
        case rel => exact ⟨k + 1, pre, by omega, by go_num, Nat.le_succ_of_le HL.out, HE.out, HJ2.out, HK2.out, HS2.out⟩
        case measure => simp [intOf]; omega
      · have hne : ((k : Int) != (q : Int)) = true := by simp; omega
        cases hu : usesN z g pn with
        | false =>
          have HE : Hid (tw pre = wt ps q g (k + 1)) := HT.out.trans (HSK.out (Or.inr hu)).symm
          have HH := Lib.hid (has_any (HTK.out.below HKB.out.b) g)
          rw [hu] at HH
          clear hq hu HSK HTA
          gi_wp2_with (refine ⟨trivial, ?_⟩; gi_at_call 102; refine (callsIn_wide.2 HH.out).mono ?_; rintro e w2 ⟨rfl, hb⟩)
          have hkb := HKB.out.below hb
          have HJ2 : Hid (J pre w2) := HJ.out _ _ _ none HJS.out (grown_of_below hkb.b) (fun r e => by cases e)
          have HK2 : Hid (Kx w.heap.size Bo Bg W w2) := HK.out.t (Kx.below hkb.b (Nat.le_trans HW.out.size HS.out) HCW.out.lt.1 HCW.out.lt.2)
          have HS2 := Lib.hid (Nat.le_trans HS.out hkb.b.size)
          clear HCW HK HJS HT HS hb hkb
          refine ⟨fun _ h => (by cases h), ?_⟩
          gi_wp2
          go_roundw
          case rel => exact ⟨k + 1, pre, by omega, by go_num, Nat.le_succ_of_le HL.out, HE.out, HJ2.out, HK2.out, HS2.out⟩
          case measure => simp [intOf]; omega
        | true =>
          have HE : Hid (tw (pre ++ [⟨per, bud, ta, pn, tcap, hp1, hp2⟩]) = wt ps q g (k + 1)) := by
            unfold Hid; rw [tw_snoc, HTA.out hq hu, HT.out]
          have HH := Lib.hid (has_any (HTK.out.below HKB.out.b) g)
          rw [hu] at HH
          clear hq hu HSK HTA
          gi_wp2_with (refine ⟨trivial, ?_⟩; gi_at_call 102; refine (callsIn_wide.2 HH.out).mono ?_; rintro e w2 ⟨rfl, hb⟩; have HKB2 := Lib.hid (HKB.out.below hb); have f0 := HKB2.out.c0; have f1 := HKB2.out.c1; have f2 := HKB2.out.c2; clear hb; obtain ⟨fn, tmps, assign, body, hy, hR⟩ := HY.out pre ⟨per, bud, ta, pn, tcap, hp1, hp2⟩ w2 (HJ.out _ _ _ none HJS.out (grown_of_below HKB2.out.b) (fun r e => by cases e)) (Nat.lt_of_le_of_lt HL.out hlt); dsimp only [Pv.enc] at hy)
          have HK2 : Hid (Kx w.heap.size Bo Bg W w2) := HK.out.t (Kx.below HKB2.out.b (Nat.le_trans HW.out.size HS.out) HCW.out.lt.1 HCW.out.lt.2)
          have HS2 := Lib.hid (Nat.le_trans HS.out HKB2.out.b.size)
          have HL2 := Lib.hid (Nat.succ_le_succ HL.out)
          clear hy f0 f1 f2 HCW HK HJS HT HS HL
          refine hR.mono ?_
          rintro e W3 (⟨rfl, hJ3, hk3⟩ | ⟨rfl, hJx3⟩)
          · have HJ3 := Lib.hid hJ3
            have HK3 := Lib.hid (HK2.out.t hk3)
            have HS3 := Lib.hid (Nat.le_trans HS2.out hk3.1.size)
            clear hJ3 hk3 hR HKB2 HK2 HS2
            gi_wp2
            go_roundw
            case rel => exact ⟨k + 1, _, by omega, by go_num, by unfold Hid; rw [List.length_append]; exact HL2.out, HE.out, HJ3.out, HK3.out, HS3.out⟩
            case measure => simp [intOf]; omega
          · have HX := Lib.hid hJx3
            clear hJx3 hR HKB2 HK2 HS2
            gi_wp2
            refine bodyPost_ret (results_none rfl _ _ _) rfl ?_
            exact ⟨⟨_, rfl⟩, .inr ⟨_, trivial, HX.out⟩⟩
    · obtain rfl : k = m := by omega
      gi_wp2
      go_end0
      exact ⟨⟨_, rfl⟩, .inl ⟨pre, HT.out, HJS.out⟩⟩
/-- its contract -/
theorem shar_stops {n : Nat} (hn : 1 ≤ n) {w : World} {Bo Bg : Nat} {a : Option Addr} {m cap q : Nat} {g : Int} {ps : List Pn} (hg : 0 < g) (hP : PS w (.slice a m cap) ps) (hok : chkP ps = true)
    (W0 : World) (hW : Below w.heap.size w W0) (hC : Cap W0 Bo Bg a m cap q g) :
    SeqStopsK Fence.wide n Try.prog 101 #[.pointer (some ⟨Bo, 0, none⟩), .pointer (some ⟨Bg, 0, none⟩)] Pv.enc (Kx w.heap.size Bo Bg) (fun xs => tw xs = wt ps q g m) (fun _ => True) m W0 :=
  fun l J Jx W hWW hJ _ hY h0 => shar1_in hn l Bo Bg hg hP hok J Jx W (hW.trans (hWW.mono hW.size)) hJ (hC.kept ⟨hWW.mono hW.size, hWW.block _ hC.lt.1, hWW.block _ hC.lt.2⟩) hY h0
/-- sharing: two boxes, one function that has captured them -/
theorem shar_in {n : Nat} (a : Option Addr) (m cap : Nat) (q g : Int) (w : World) : CallsIn Fence.wide n Try.prog 90 #[.agg #[.slice a m cap, .int .i64 q], .int .i64 g] w fun e w' =>
    e = .returned (.func (.func 101) #[] #[.pointer (some ⟨w.heap.size, 0, none⟩), .pointer (some ⟨w.heap.size + 1, 0, none⟩)]) ∧ w' = (w.alloc (.cells #[.slice a m cap, .int .i64 q] 108)).alloc (.cells #[.int .i64 g] 3) := by
  refine callsIn_of_wp Try.func90 rfl trivial ?_ rfl
  simp only [Try.ntmps90, List.size_toArray, List.length_cons, List.length_nil, Nat.reduceAdd, Nat.reduceSub, Array.replicate_succ, Array.replicate_zero, List.push_toArray, List.append_toArray, List.nil_append, List.cons_append]
  gi_wp2
  go_ret
  exact ⟨rfl, rfl⟩
/-- a partition that is looked at, by value, and its box -/
abbrev lv (per bud : Int) (ta : Option Addr) (n tcap : Nat) (a : Option Addr) (m cap : Nat) (q : Int) : Value := .agg #[.int .i64 per, .int .i64 bud, .slice ta n tcap, .slice a m cap, .int .i64 q]
def lvo (per bud : Int) (ta : Option Addr) (n tcap : Nat) (a : Option Addr) (m cap : Nat) (q : Int) : Obj := .cells #[.int .i64 per, .int .i64 bud, .slice ta n tcap, .slice a m cap, .int .i64 q] 110
/-- the world at the loop's head -/
theorem wait_start (w : World) (per bud : Int) (ta : Option Addr) (n tcap : Nat) (a : Option Addr) (m cap q : Nat) (t : Nat → Int) (W0 : World)
    (h : W0 = ((((w.alloc (lvo per bud ta n tcap a m cap q)).alloc (tko t)).alloc (.cells #[.int .i64 0] 3)).alloc (.cells #[.slice a m cap, .int .i64 q] 108)).alloc (.cells #[.int .i64 (t 5)] 3)) :
    Boxed W0 (w.heap.size + 1 + 1) 3 (.int .i64 0) ∧ Cap W0 (w.heap.size + 1 + 1 + 1) (w.heap.size + 1 + 1 + 1 + 1) a m cap q (t 5) ∧ Below w.heap.size w W0 ∧ W0.heap.size = w.heap.size + 5 := by
  subst h
  have bS := ((Boxed.new ((w.alloc (lvo per bud ta n tcap a m cap q)).alloc (tko t)) 3 (.int .i64 0)).alloc (.cells #[.slice a m cap, .int .i64 q] 108)).alloc (.cells #[.int .i64 (t 5)] 3)
  have bO := heap_alloc_new (((w.alloc (lvo per bud ta n tcap a m cap q)).alloc (tko t)).alloc (.cells #[.int .i64 0] 3)) (.cells #[.slice a m cap, .int .i64 q] 108)
  have bO2 := (Below.heap_alloc _ (.cells #[.int .i64 (t 5)] 3) _ (lt_of_block bO)).trans bO
  have bG := heap_alloc_new ((((w.alloc (lvo per bud ta n tcap a m cap q)).alloc (tko t)).alloc (.cells #[.int .i64 0] 3)).alloc (.cells #[.slice a m cap, .int .i64 q] 108)) (.cells #[.int .i64 (t 5)] 3)
  simp only [World.size_alloc] at bS bO2 bG
  refine ⟨bS, ⟨bO2, bG⟩, (((((Below.refl _ w).alloc (Nat.le_refl _) _).alloc (by simp) _).alloc (by simp; omega) _).alloc (by simp; omega) _).alloc (by simp; omega) _, by simp⟩
set_option maxRecDepth 100000 in
set_option maxHeartbeats 4000000 in
theorem wait_any {w : World} {per bud : Int} {ta : Option Addr} {n tcap : Nat} {a : Option Addr} {m cap q : Nat} {t : Nat → Int} {ps : List Pn} (hP : PS w (.slice a m cap) ps) (hok : chkP ps = true) (h5 : 0 ≤ t 5) :
    Calls Try.prog 77 #[lv per bud ta n tcap a m cap q, tv t] w (YI (wait ps q t) w) := by
  have hml := hP.len
  have hm4 : m ≤ 4 := by rw [hml]; exact chkP_len hok
  obtain ⟨R, hR⟩ : ∃ R, R = wait ps q t := ⟨_, rfl⟩
  have HR : Hid (R = wt ps q (t 5) m) := by unfold Hid; rw [hR, hml]; rfl
  clear hml
  rw [← hR]
  clear hR
  cases h0 : t 5 == 0 with
  | true =>
    have e5 : t 5 = 0 := by simpa using h0
    have HE : Hid (R = 0) := by
      have : ∀ i, wt ps q (t 5) i = 0 := fun i => by
        induction i with
        | zero => rfl
        | succ i ih => rw [wt, ih, add1, if_neg (fun hc => by have := hc.1; omega)]; rfl
      exact HR.out.trans (this m)
    have HB : Hid (Below w.heap.size w ((w.alloc (lvo per bud ta n tcap a m cap q)).alloc (tko t))) := ((Below.refl _ w).alloc (Nat.le_refl _) _).alloc (by simp) _
    unfold lvo tko at HB
    clear e5 HR hP
    unfold tv
    go_enter Try.func77, Try.ntmps77
    go_wp2_with fail
    go_ret
    exact ⟨by rw [HE.out]; rfl, HB.out⟩
  | false =>
    have hg : 0 < t 5 := by have : t 5 ≠ 0 := by simpa using h0
                            omega
    unfold tv
    refine (callsIn_wide (n := 6)).1 ?_
    refine callsIn_of_wp_marks Try.func77 rfl trivial ?_ rfl
    simp only [Try.ntmps77, List.size_toArray, List.length_cons, List.length_nil, Nat.reduceAdd, Nat.reduceSub, Array.replicate_succ, Array.replicate_zero, List.push_toArray, List.append_toArray, List.nil_append, List.cons_append]
    gi_wp2_with (refine ⟨trivial, ?_⟩; gi_at_call 90; refine (shar_in _ _ _ _ _ _).mono ?_; rintro e w' ⟨rfl, rfl⟩)
    obtain ⟨W0, hW0⟩ : ∃ W0, W0 = ((((w.alloc (lvo per bud ta n tcap a m cap q)).alloc (tko t)).alloc (.cells #[.int .i64 0] 3)).alloc (.cells #[.slice a m cap, .int .i64 q] 108)).alloc (.cells #[.int .i64 (t 5)] 3) := ⟨_, rfl⟩
    obtain ⟨b0, hC0, hB0, hsz⟩ := wait_start w per bud ta n tcap a m cap q t W0 hW0
    unfold lvo tko at hW0
    rw [← hW0]
    clear hW0
    unfold lv
    refine wpIn_rangeFunc_ownH rfl (by omega) (gf := 101) (lb := #[.pointer (some ⟨w.heap.size + 1 + 1 + 1, 0, none⟩), .pointer (some ⟨w.heap.size + 1 + 1 + 1 + 1, 0, none⟩)]) rfl trivial (enters_of Try.func101 (by kernel_rfl) rfl)
      (shar_stops (n := 5) (by omega) hg hP hok W0 hB0 hC0) (fun h k => h.t k) (Kx.b (by omega) (by omega) (by omega)) (Below.refl _ _) (fun _ => rfl)
      (fun pre W => Boxed W (w.heap.size + 1 + 1) 3 (.int .i64 (tw pre)) ∧ Below w.heap.size w W ∧ W0.heap.size ≤ W.heap.size)
      (fun _ _ _ => False)
      (OwnFrom.and (Own.from (boxed_own _ _ fun pre => .int .i64 (tw pre)) _) (OwnFrom.and (ownFrom_below (Nat.le_refl _) (by omega)) (fun _ _ _ _ hs hg _ => Nat.le_trans hs hg.size)))
      (fun _ => fun _ _ _ _ hs _ _ => hs)
      ⟨b0, hB0, Nat.le_refl _⟩
      (fun x a' W => ∃ Bx, W.heap[Bx]? = some (.cells #[.int .i64 x.per, .int .i64 x.bud, .slice x.a x.n x.cap] 43 (0, 0)) ∧ a' = { tmps := #[.agg #[.int .i64 per, .int .i64 bud, .slice ta n tcap, .slice a m cap, .int .i64 q], .agg #[.int .i64 (t 0), .int .i64 (t 1), .int .i64 (t 2), .int .i64 (t 3), .int .i64 (t 4), .int .i64 (t 5), .int .i64 (t 6), .int .i64 (t 7)], .pointer (some ⟨w.heap.size, 0, none⟩), .pointer (some ⟨w.heap.size + 1, 0, none⟩), .int .i64 0, .pointer (some ⟨w.heap.size + 1 + 1, 0, none⟩), .pointer (some ⟨Bx, 0, none⟩), .pointer (some ⟨w.heap.size + 1, 5, none⟩), .int .i64 (t 5), .bool false, .pointer (some ⟨w.heap.size, 3, none⟩), .agg #[.slice a m cap, .int .i64 q], .pointer (some ⟨w.heap.size + 1, 5, none⟩), .int .i64 (t 5), .func (.func 101) #[] #[.pointer (some ⟨w.heap.size + 1 + 1 + 1, 0, none⟩), .pointer (some ⟨w.heap.size + 1 + 1 + 1 + 1, 0, none⟩)], .agg #[.int .i64 x.per, .int .i64 x.bud, .slice x.a x.n x.cap], undef, undef, undef, undef, undef, undef], defers := [] })
      ?hax ?assign ?body ?done ?stop
    case hax =>
      rintro x a' s X Y row ⟨Bx, h1, h2⟩ hg hr
      exact ⟨Bx, (grownBy_keeps_cells hg (fun r e => (hr r e).2) h1 rfl).trans h1, h2⟩
    case assign =>
      rintro l pre x W K ⟨hbx, hB, hs⟩ hK
      obtain ⟨pe, bu, xa, xn, xc, q1, q2⟩ := x
      dsimp only [Pv.enc] at hK ⊢
      gi_wp2
      refine hK _ _ ((KeepsOthers.alloc _ _).from _) (Kx.below ((Below.refl _ W).alloc (Nat.le_refl _) _) (by omega) (by omega) (by omega)) ⟨hbx.alloc _, hB.alloc (by omega) _, ?_⟩ ⟨W.heap.size, heap_alloc_new W _, rfl⟩
      rw [World.size_alloc]; omega
    case body =>
      rintro l pre x a' W hl ⟨r, hr⟩ ⟨hbx, hB, hs⟩ ⟨Bx, hbX, rfl⟩ hlt
      have c0 := hbx.cell
      have f0 := hbx.frozen
      have d0 := cell_of_row _ _ 0 _ _ _ hbX
      have htb := tw_bd pre
      have HX := Lib.hid (tw_snoc pre x)
      have hp1 := x.p1; have hp2 := x.p2
      have HBX := Lib.hid hbx; have HB := Lib.hid hB; have HS := Lib.hid hs
      clear hbx hB hs hbX hr
      obtain ⟨pe, bu, xa, xn, xc, q1, q2⟩ := x
      dsimp only at d0 HX hp1 hp2 ⊢
      obtain ⟨T, hT⟩ : ∃ T, T = tw pre := ⟨_, rfl⟩
      rw [← hT] at c0 htb HX HBX
      clear hT
      have hw1 : wrap64 (2 * pe) = 2 * pe := by unfold wrap64; omega
      have hw2 : wrap64 (T + 2 * pe) = T + 2 * pe := by unfold wrap64; omega
      gi_wp2
      exact ⟨(KeepsOthers.setCell _ _ _).from _, ⟨(Below.refl _ W).setCell (p := ⟨w.heap.size + 1 + 1, 0, none⟩) (by show w.heap.size ≤ w.heap.size + 1 + 1; omega) _, Below.heap_setCell _ _ _ _ (by show w.heap.size + 1 + 1 + 1 ≠ w.heap.size + 1 + 1; omega), Below.heap_setCell _ _ _ _ (by show w.heap.size + 1 + 1 + 1 + 1 ≠ w.heap.size + 1 + 1; omega)⟩,
        by rw [HX.out]; exact HBX.out.set _, HB.out.setCell (p := ⟨w.heap.size + 1 + 1, 0, none⟩) (by show w.heap.size ≤ w.heap.size + 1 + 1; omega) _, Nat.le_trans HS.out (KeepsOthers.setCell _ _ _).size⟩
    case done =>
      rintro D xs W hD hS ⟨hbx, hB, hs⟩ hK
      have c0 := hbx.cell
      gi_wp2
      refine ⟨by simp, .inl ⟨_, _, rfl, run_takeDeferred hK, ?_⟩⟩
      exact ⟨_, results_tmp rfl _ _ _, by rw [HR.out, ← hS]; rfl, hB.trans (belowK_b (w := w) (Nat.le_refl _) W D _ _ (by omega) hK rfl rfl)⟩
    case stop =>
      rintro D c pre W _ _ h _
      exact h.elim
end Go.Proofs.Ytbdiekolkniajaa

namespace Go.Proofs.Ytbdiekolkniajaa
open Go.RowKit Tk De Dl Go.Sort
set_option linter.unusedVariables false

theorem tb_b6 {bd : Int} {t : Nat → Int} (h : TB bd t) (hg : 0 < t 5) : t 6 ≤ 64 := by
  have h0 := h.n0 hg
  have htk := tOK_iff.1 h.ok
  have : t 6 * 1 ≤ t 6 * t 7 := Int.mul_le_mul_of_nonneg_left h0.2.2.1 (by omega)
  omega
/-- partitions, one of which is looked at, as a value -/
structure LK (w : World) (ps : List Pn) (a : Option Addr) (m cap q : Nat) (ta : Option Addr) (tcap : Nat) : Prop where
  p : PS w (.slice a m cap) ps
  ok : chkP ps = true
  lt : q < m
  t : TK w (.slice ta (ps.getD q p0).n tcap) (ps.getD q p0).n (ps.getD q p0).z
  l1 : (ps.getD q p0).n ≤ tcap
  l2 : tcap ≤ maxLen
theorem LK.below {w w' : World} {ps : List Pn} {a : Option Addr} {m cap q : Nat} {ta : Option Addr} {tcap : Nat} (h : LK w ps a m cap q ta tcap) (b : Below w.heap.size w w') : LK w' ps a m cap q ta tcap :=
  ⟨h.p.below b, h.ok, h.lt, h.t.below b, h.l1, h.l2⟩
theorem LK.tb {w : World} {ps : List Pn} {a : Option Addr} {m cap q : Nat} {ta : Option Addr} {tcap : Nat} (h : LK w ps a m cap q ta tcap) : PB (ps.getD q p0) := chkP_at h.ok (by have := h.p.len; have := h.lt; omega)
/-- the value that is looked at -/
abbrev lkv (ps : List Pn) (a : Option Addr) (m cap q : Nat) (ta : Option Addr) (tcap : Nat) : Value := lv (ps.getD q p0).per (ps.getD q p0).bud ta (ps.getD q p0).n tcap a m cap q
/-- both boxes -/
theorem box_at {w : World} {per bud : Int} {ta : Option Addr} {n tcap : Nat} {a : Option Addr} {m cap q : Nat} {t : Nat → Int} (W : World) (hW : W = (w.alloc (lvo per bud ta n tcap a m cap q)).alloc (tko t)) :
    (W.cell? ⟨w.heap.size, 0, none⟩ = some (.int .i64 per) ∧ W.cell? ⟨w.heap.size, 1, none⟩ = some (.int .i64 bud) ∧ W.cell? ⟨w.heap.size, 2, none⟩ = some (.slice ta n tcap) ∧ W.cell? ⟨w.heap.size, 3, none⟩ = some (.slice a m cap) ∧ W.cell? ⟨w.heap.size, 4, none⟩ = some (.int .i64 q)) ∧
    (∀ j, j < 8 → W.cell? ⟨w.heap.size + 1, j, none⟩ = some (.int .i64 (t j))) ∧ Below w.heap.size w W := by
  subst hW
  have h1 := heap_alloc_new w (lvo per bud ta n tcap a m cap q)
  have h2 := (Below.heap_alloc _ (tko t) _ (lt_of_block h1)).trans h1
  refine ⟨⟨cell_of_row _ _ 0 _ _ _ h2, cell_of_row _ _ 1 _ _ _ h2, cell_of_row _ _ 2 _ _ _ h2, cell_of_row _ _ 3 _ _ _ h2, cell_of_row _ _ 4 _ _ _ h2⟩, fun j hj => ?_, ((Below.refl _ w).alloc (Nat.le_refl _) _).alloc (by simp) _⟩
  have := tko_at (w.alloc (lvo per bud ta n tcap a m cap q)) t hj
  rwa [World.size_alloc] at this
set_option maxRecDepth 100000 in
set_option maxHeartbeats 4000000 in
theorem more1_any {w : World} {per bud : Int} {ta : Option Addr} {n tcap : Nat} {a : Option Addr} {m cap q : Nat} {t : Nat → Int} {ps : List Pn} {bd : Int} (hP : PS w (.slice a m cap) ps) (hok : chkP ps = true) (ht : TB bd t) :
    Calls Try.prog 67 #[lv per bud ta n tcap a m cap q, tv t] w (YI (mor ps q t) w) := by
  have hwb := wait_bd hok q t
  have h5 := ht.g0
  have htk := tOK_iff.1 ht.ok
  have hn0 := ht.n0
  have hn6 := tb_b6 ht
  obtain ⟨R, hR⟩ : ∃ R, R = mor ps q t := ⟨_, rfl⟩
  have HR := Lib.hid hR
  rw [← hR]
  have HWA := Lib.hid (fun W (b : Below w.heap.size w W) => wait_any (per := per) (bud := bud) (ta := ta) (n := n) (tcap := tcap) (q := q) (hP.below b) hok h5)
  obtain ⟨W2, hW2⟩ : ∃ W2, W2 = (w.alloc (lvo per bud ta n tcap a m cap q)).alloc (tko t) := ⟨_, rfl⟩
  obtain ⟨⟨b0, b1, b2, b3, b4⟩, bt, hB⟩ := box_at W2 hW2
  have HB := Lib.hid hB
  have HMO : Hid (mor ps q t = if 0 < t 5 then t 7 * (wait ps q t + t 6 - 1) else 0) := rfl
  generalize wait ps q t = wa at *
  have c5 := bt 5 (by decide); have c6 := bt 6 (by decide); have c7 := bt 7 (by decide)
  have c0 := bt 0 (by decide); have c1 := bt 1 (by decide); have c2 := bt 2 (by decide); have c3 := bt 3 (by decide); have c4 := bt 4 (by decide)
  unfold lvo tko at hW2
  unfold lv tv at HWA ⊢
  clear hR hP hB bt ht
  generalize t 0 = t0 at *
  generalize t 1 = t1 at *
  generalize t 2 = t2 at *
  generalize t 3 = t3 at *
  generalize t 4 = t4 at *
  generalize t 5 = t5 at *
  generalize t 6 = t6 at *
  generalize t 7 = t7 at *
  have HW2 := Lib.hid hW2
  cases h0 : t5 == 0 with
  | true =>
    have HE : Hid (R = 0) := by
      have : t5 = 0 := by simpa using h0
      unfold Hid; rw [HR.out, HMO.out, if_neg (by omega)]
    rw [hW2] at HB
    clear hn0 hn6 htk hwb h5 hW2 b0 b1 b2 b3 b4 c0 c1 c2 c3 c4 c5 c6 c7
    go_enter Try.func67, Try.ntmps67
    go_wp2_with fail
    go_ret
    exact ⟨by rw [HE.out]; rfl, HB.out⟩
  | false =>
    have hg : 0 < t5 := by have : t5 ≠ 0 := by simpa using h0
                           omega
    have h0' := hn0 hg
    have h6' := hn6 hg
    have HE : Hid (R = t7 * (wa + t6 - 1)) := by unfold Hid; rw [HR.out, HMO.out, if_pos hg]
    have p1 : 0 ≤ t7 * (wa + t6 - 1) := Int.mul_nonneg (by omega) (by omega)
    have p2 : t7 * (wa + t6 - 1) ≤ 64 * 1000 := Int.mul_le_mul (by omega) (by omega) (by omega) (by decide)
    have w1 : IntKind.i64.wrap (wa + t6) = wa + t6 := IntWalk.i64_in _ (by omega)
    have w2 : IntKind.i64.wrap (wa + t6 - 1) = wa + t6 - 1 := IntWalk.i64_in _ (by omega)
    have w3 : IntKind.i64.wrap (t7 * (wa + t6 - 1)) = t7 * (wa + t6 - 1) := IntWalk.i64_in _ (by omega)
    have v1 : wrap64 (wa + t6) = wa + t6 := by unfold wrap64; omega
    have v2 : wrap64 (wa + t6 - 1) = wa + t6 - 1 := by unfold wrap64; omega
    have v3 : wrap64 (t7 * (wa + t6 - 1)) = t7 * (wa + t6 - 1) := by unfold wrap64; omega
    have k0 := cell_regrown b0; have k1 := cell_regrown b1; have k2 := cell_regrown b2; have k3 := cell_regrown b3; have k4 := cell_regrown b4
    have d0 := cell_regrown c0; have d1 := cell_regrown c1; have d2 := cell_regrown c2; have d3 := cell_regrown c3; have d4 := cell_regrown c4; have d5 := cell_regrown c5; have d6 := cell_regrown c6; have d7 := cell_regrown c7
    have cQ := Lib.hid (fun d os => Calls.regrown_of (HWA.out _ (HB.out.trans ((below_regrown W2 d os).mono HB.out.size))))
    have mixed : Try.prog.follows .mixedOrders = true := by kernel_rfl
    clear hW2 hn0 hn6 htk hwb h5 b0 b1 b2 b3 b4 c0 c1 c2 c3 c4 c5 c6 c7 HWA p1 p2 hg h0' h6'
    go_enter Try.func67, Try.ntmps67
    go_wp2_with fail
    rw [← HW2.out]
    refine wp_region_quiet_below (by assumption) (by kernel_rfl) ?_
    repeat (quiet_step (first | exact cQ.out _ _))
    refine wpQuiet_nil ?_
    intro _ hw'
    obtain ⟨⟨dq, osq⟩, hw''⟩ := hw'
    subst hw''
    have HF := Lib.hid (HB.out.trans ((below_regrown W2 dq osq).mono HB.out.size))
    clear k0 k1 k2 k3 k4 d0 d1 d2 d3 d4 d5 d6 d7 cQ
    go_wp2_with fail
    go_ret
    exact ⟨by rw [HE.out]; first | rfl | simp [w1, w2, w3, v1, v2, v3], HF.out⟩
set_option maxRecDepth 100000 in
set_option maxHeartbeats 4000000 in
theorem by_any {w : World} {per bud : Int} {ta : Option Addr} {n tcap : Nat} {a : Option Addr} {m cap q : Nat} {t : Nat → Int} {ps : List Pn} {bd : Int} (hP : PS w (.slice a m cap) ps) (hok : chkP ps = true) (ht : TB bd t) :
    Calls Try.prog 99 #[lv per bud ta n tcap a m cap q, tv t] w (YI (del1 ps q t) w) := by
  have hwb := wait_bd hok q t
  have h5 := ht.g0
  have htk := tOK_iff.1 ht.ok
  have hn0 := ht.n0
  have hn6 := tb_b6 ht
  obtain ⟨R, hR⟩ : ∃ R, R = del1 ps q t := ⟨_, rfl⟩
  have HR := Lib.hid hR
  rw [← hR]
  have HWA := Lib.hid (fun W (b : Below w.heap.size w W) => wait_any (per := per) (bud := bud) (ta := ta) (n := n) (tcap := tcap) (q := q) (hP.below b) hok h5)
  obtain ⟨W2, hW2⟩ : ∃ W2, W2 = (w.alloc (lvo per bud ta n tcap a m cap q)).alloc (tko t) := ⟨_, rfl⟩
  obtain ⟨⟨b0, b1, b2, b3, b4⟩, bt, hB⟩ := box_at W2 hW2
  have HB := Lib.hid hB
  have HMO : Hid (del1 ps q t = if 0 < t 5 then max (t 4) (wait ps q t + 2 * t 6 - 1) else t 4) := rfl
  have h4 := ht.l0; have h4' := ht.l1
  generalize wait ps q t = wa at *
  have c5 := bt 5 (by decide); have c6 := bt 6 (by decide); have c7 := bt 7 (by decide)
  have c0 := bt 0 (by decide); have c1 := bt 1 (by decide); have c2 := bt 2 (by decide); have c3 := bt 3 (by decide); have c4 := bt 4 (by decide)
  unfold lvo tko at hW2
  unfold lv tv at HWA ⊢
  clear hR hP hB bt ht
  generalize t 0 = t0 at *
  generalize t 1 = t1 at *
  generalize t 2 = t2 at *
  generalize t 3 = t3 at *
  generalize t 4 = t4 at *
  generalize t 5 = t5 at *
  generalize t 6 = t6 at *
  generalize t 7 = t7 at *
  have HW2 := Lib.hid hW2
  cases h0 : t5 == 0 with
  | true =>
    have HE : Hid (R = t4) := by
      have : t5 = 0 := by simpa using h0
      unfold Hid; rw [HR.out, HMO.out, if_neg (by omega)]
    rw [hW2] at HB
    clear hn0 hn6 htk hwb h5 hW2 h4 h4' b0 b1 b2 b3 b4 c0 c1 c2 c3 c4 c5 c6 c7
    go_enter Try.func99, Try.ntmps99
    go_wp2_with fail
    go_ret
    exact ⟨by rw [HE.out]; rfl, HB.out⟩
  | false =>
    have hg : 0 < t5 := by have : t5 ≠ 0 := by simpa using h0
                           omega
    have h0' := hn0 hg
    have h6' := hn6 hg
    have HE : Hid (R = max t4 (wa + 2 * t6 - 1)) := by unfold Hid; rw [HR.out, HMO.out, if_pos hg]
    have w0 : IntKind.i64.wrap (2 * t6) = 2 * t6 := IntWalk.i64_in _ (by omega)
    have w1 : IntKind.i64.wrap (wa + 2 * t6) = wa + 2 * t6 := IntWalk.i64_in _ (by omega)
    have w2 : IntKind.i64.wrap (wa + 2 * t6 - 1) = wa + 2 * t6 - 1 := IntWalk.i64_in _ (by omega)
    have v0 : wrap64 (2 * t6) = 2 * t6 := by unfold wrap64; omega
    have v1 : wrap64 (wa + 2 * t6) = wa + 2 * t6 := by unfold wrap64; omega
    have v2 : wrap64 (wa + 2 * t6 - 1) = wa + 2 * t6 - 1 := by unfold wrap64; omega
    have k0 := cell_regrown b0; have k1 := cell_regrown b1; have k2 := cell_regrown b2; have k3 := cell_regrown b3; have k4 := cell_regrown b4
    have d0 := cell_regrown c0; have d1 := cell_regrown c1; have d2 := cell_regrown c2; have d3 := cell_regrown c3; have d4 := cell_regrown c4; have d5 := cell_regrown c5; have d6 := cell_regrown c6; have d7 := cell_regrown c7
    have cQ := Lib.hid (fun d os => Calls.regrown_of (HWA.out _ (HB.out.trans ((below_regrown W2 d os).mono HB.out.size))))
    have mixed : Try.prog.follows .mixedOrders = true := by kernel_rfl
    clear hW2 hn0 hn6 htk hwb h5 b0 b1 b2 b3 b4 c0 c1 c2 c3 c4 c5 c6 c7 HWA hg h0' h6' h4 h4'
    go_enter Try.func99, Try.ntmps99
    go_wp2_with fail
    rw [← HW2.out]
    refine wp_region_quiet_below (by assumption) (by kernel_rfl) ?_
    repeat (quiet_step (first | exact cQ.out _ _))
    refine wpQuiet_nil ?_
    intro _ hw'
    obtain ⟨⟨dq, osq⟩, hw''⟩ := hw'
    subst hw''
    have HF := Lib.hid (HB.out.trans ((below_regrown W2 dq osq).mono HB.out.size))
    clear k0 k1 k2 k3 k4 d0 d1 d2 d3 d4 d5 d6 d7 cQ
    go_wp2_with fail
    all_goals go_ret
    all_goals exact ⟨by rw [HE.out]; exact congrArg (fun z => Ending.returned (.int .i64 z)) (by omega), HF.out⟩
set_option maxRecDepth 100000 in
set_option maxHeartbeats 4000000 in
theorem del_any {w : World} {ps : List Pn} {a : Option Addr} {m cap q : Nat} {ta : Option Addr} {tcap : Nat} (h : LK w ps a m cap q ta tcap) (T : Int) :
    Calls Try.prog 85 #[lkv ps a m cap q ta tcap, .int .i64 T] w (YI (del ps q T (ps.getD q p0).n) w) := by
  have hpb := h.tb
  obtain ⟨n, hn⟩ : ∃ n, n = (ps.getD q p0).n := ⟨_, rfl⟩
  obtain ⟨z, hz⟩ : ∃ z, z = (ps.getD q p0).z := ⟨_, rfl⟩
  have hT := h.t
  have hn4 := hpb.n4
  have htb := hpb.t
  have hl2 := h.l2
  rw [← hn, ← hz] at hT
  rw [← hn] at hn4
  rw [← hn, ← hz] at htb
  unfold lkv
  rw [← hn]
  generalize (ps.getD q p0).per = per at *
  generalize (ps.getD q p0).bud = bud at *
  have HBY := Lib.hid (fun W (b : Below w.heap.size w W) i (hi : i < n) => by_any (per := per) (bud := bud) (ta := ta) (n := n) (tcap := tcap) (q := q) (h.p.below b) h.ok (htb i hi))
  have HST : Hid (∀ i, del ps q T (i + 1) = if z i 1 ≤ T then del ps q T i else max (del ps q T i) (del1 ps q (z i))) := fun i => by rw [del, hz]
  have hk := heap_alloc_new w (lvo per bud ta n tcap a m cap q)
  have hB := (Below.refl _ w).alloc (Nat.le_refl _) (lvo per bud ta n tcap a m cap q)
  have HTK := Lib.hid hT
  have hmx : n ≤ 9223372036854775807 := by omega
  have z2 := cell_of_row _ _ 2 _ _ _ hk
  have HKK := Lib.hid hk; have HB0 := Lib.hid hB
  change _ = some (Value.slice ta n tcap) at z2
  unfold lvo at HKK HB0 z2
  unfold lv at HBY ⊢
  clear hk hB hT hn4 htb hpb hl2 h hn hz
  go_enter Try.func85, Try.ntmps85
  go_wp2_with fail
  clear z2
  go_loopw [5, 12] (fun s i wr => ∃ k : Nat, k ≤ n ∧ i = .int .i64 k ∧ s = .int .i64 (del ps q T k) ∧ Hid (wr.heap[w.heap.size]? = some (.cells #[.int .i64 per, .int .i64 bud, .slice ta n tcap, .slice a m cap, .int .i64 q] 110 (0, 0))) ∧ Hid (Below w.heap.size w wr)) (fun _ i _ => n - (intOf i).toNat)
  case atStart => exact ⟨0, by omega, rfl, rfl, HKK.out, HB0.out⟩
  case round =>
    clear HKK HB0
    obtain ⟨k, hk, rfl, rfl, HKK, HB⟩ := hrel
    by_cases hlt : k < n
    · obtain ⟨b, off, rfl, c⟩ := (HTK.out.below HB.out).at hlt
      obtain ⟨c0, c1, c2, c3, c4, c5, c6, c7⟩ := c
      have HS := Lib.hid (HST.out k)
      have hA := (Below.refl _ wr).alloc (Nat.le_refl _) (tko (z k))
      have HB2 := Lib.hid (HB.out.trans (hA.mono HB.out.size))
      have HK2 := Lib.hid ((hA.block _ (lt_of_block HKK.out)).trans HKK.out)
      have HC := Lib.hid (HBY.out _ HB2.out k hlt)
      have e0 := cell_of_row _ _ 0 _ _ _ HK2.out
      have e1 := cell_of_row _ _ 1 _ _ _ HK2.out
      have e2 := cell_of_row _ _ 2 _ _ _ HK2.out
      have e3 := cell_of_row _ _ 3 _ _ _ HK2.out
      have e4 := cell_of_row _ _ 4 _ _ _ HK2.out
      change _ = some (Value.int .i64 per) at e0
      change _ = some (Value.int .i64 bud) at e1
      change _ = some (Value.slice _ n tcap) at e2
      change _ = some (Value.slice a m cap) at e3
      change _ = some (Value.int .i64 q) at e4
      obtain ⟨X, hX⟩ : ∃ X, X = del1 ps q (z k) := ⟨_, rfl⟩
      rw [← hX] at HS HC
      obtain ⟨D, hD⟩ : ∃ D, D = del ps q T k := ⟨_, rfl⟩
      rw [← hD] at HS ⊢
      clear hX hD hA
      unfold tko at HB2 HK2 HC e0 e1 e2 e3 e4
      unfold tv at HC
      cases hd : decide (T < z k 1) with
      | false =>
        have HE : Hid (del ps q T (k + 1) = D) := HS.out.trans (if_pos (by have := of_decide_eq_false hd; omega))
        clear HS HC
        go_wp2_with fail
        go_roundw
        case rel => exact ⟨k + 1, by omega, by go_num, by rw [HE.out], HK2, HB2⟩
        case measure => simp [intOf]; omega
      | true =>
        have HE : Hid (del ps q T (k + 1) = max D X) := HS.out.trans (if_neg (by have := of_decide_eq_true hd; omega))
        clear HS
        go_wp2_with fail
        refine HC.out.mono ?_
        rintro e w1 ⟨rfl, hb⟩
        have HB3 := Lib.hid (HB2.out.trans (hb.mono HB2.out.size))
        have HK3 := Lib.hid ((hb.block _ (lt_of_block HK2.out)).trans HK2.out)
        clear hb HC HK2 HB2 e0 e1 e2 e3 e4 c0 c1 c2 c3 c4 c5 c6 c7
        go_wp2_with fail
        all_goals go_roundw
        all_goals first | (exact ⟨k + 1, by omega, by go_num, by rw [HE.out]; exact congrArg (Value.int .i64) (by omega), HK3, HB3⟩) | (simp [intOf]; omega)
    · obtain rfl : k = n := by omega
      go_wp2_with fail
      go_ret
      exact ⟨rfl, HB.out⟩
end Go.Proofs.Ytbdiekolkniajaa

namespace Go.Proofs.Ytbdiekolkniajaa
open Go.RowKit Tk De Dl Go.Sort
set_option linter.unusedVariables false

theorem heap_set_same {w : World} {b i : Nat} {c : Array Value} {t : TypeId} {v : Value} (h : w.heap[b]? = some (.cells c t (0, 0))) : (w.setCell ⟨b, i, none⟩ v).heap[b]? = some (.cells (c.setIfInBounds i v) t (0, 0)) := heap_setCell_same _ _ _ _ _ _ h
/-- five cells are written -/
theorem five_end {W : World} {b : Nat} {x0 x1 x2 x3 x4 : Value} {t : TypeId} (v0 v1 v2 v3 v4 : Value) (h : W.heap[b]? = some (.cells #[x0, x1, x2, x3, x4] t (0, 0))) (W' : World)
    (hW : W' = ((((W.setCell ⟨b, 0, none⟩ v0).setCell ⟨b, 1, none⟩ v1).setCell ⟨b, 2, none⟩ v2).setCell ⟨b, 3, none⟩ v3).setCell ⟨b, 4, none⟩ v4) :
    (W'.cell? ⟨b, 0, none⟩ = some v0 ∧ W'.cell? ⟨b, 1, none⟩ = some v1 ∧ W'.cell? ⟨b, 2, none⟩ = some v2 ∧ W'.cell? ⟨b, 3, none⟩ = some v3 ∧ W'.cell? ⟨b, 4, none⟩ = some v4) ∧ Below b W W' := by
  subst hW
  have hk := heap_set_same (i := 4) (v := v4) (heap_set_same (i := 3) (v := v3) (heap_set_same (i := 2) (v := v2) (heap_set_same (i := 1) (v := v1) (heap_set_same (i := 0) (v := v0) h))))
  have hk2 : (((((W.setCell ⟨b, 0, none⟩ v0).setCell ⟨b, 1, none⟩ v1).setCell ⟨b, 2, none⟩ v2).setCell ⟨b, 3, none⟩ v3).setCell ⟨b, 4, none⟩ v4).heap[b]? = some (.cells #[v0, v1, v2, v3, v4] t (0, 0)) := hk
  exact ⟨⟨cell_of_row _ _ 0 _ _ _ hk2, cell_of_row _ _ 1 _ _ _ hk2, cell_of_row _ _ 2 _ _ _ hk2, cell_of_row _ _ 3 _ _ _ hk2, cell_of_row _ _ 4 _ _ _ hk2⟩,
    (((((Below.refl b W).setCell (p := ⟨b, 0, none⟩) (Nat.le_refl _) _).setCell (p := ⟨b, 1, none⟩) (Nat.le_refl _) _).setCell (p := ⟨b, 2, none⟩) (Nat.le_refl _) _).setCell (p := ⟨b, 3, none⟩) (Nat.le_refl _) _).setCell (p := ⟨b, 4, none⟩) (Nat.le_refl _) _⟩
abbrev lz0 : Value := .agg #[.int .i64 0, .int .i64 0, .slice none 0 0, .slice none 0 0, .int .i64 0]
def lzo : Obj := .cells #[.int .i64 0, .int .i64 0, .slice none 0 0, .slice none 0 0, .int .i64 0] 110
/-- the result's box, ahead of the store -/
structure RB (w W : World) : Prop where
  k : W.heap[w.heap.size]? = some (.cells #[.int .i64 0, .int .i64 0, .slice none 0 0, .slice none 0 0, .int .i64 0] 110 (0, 0))
  b : Below w.heap.size w W
theorem RB.start (w : World) : RB w (w.alloc lzo) := ⟨heap_alloc_new w lzo, (Below.refl _ w).alloc (Nat.le_refl _) _⟩
theorem RB.below {w W W' : World} (h : RB w W) (b : Below W.heap.size W W') : RB w W' := ⟨(b.block _ (lt_of_block h.k)).trans h.k, chn h.b b⟩
theorem RB.c {w W : World} (h : RB w W) : W.cell? ⟨w.heap.size, 0, none⟩ = some (.int .i64 0) ∧ W.cell? ⟨w.heap.size, 1, none⟩ = some (.int .i64 0) ∧ W.cell? ⟨w.heap.size, 2, none⟩ = some (.slice none 0 0) ∧ W.cell? ⟨w.heap.size, 3, none⟩ = some (.slice none 0 0) ∧ W.cell? ⟨w.heap.size, 4, none⟩ = some (.int .i64 0) :=
  ⟨cell_of_row _ _ 0 _ _ _ h.k, cell_of_row _ _ 1 _ _ _ h.k, cell_of_row _ _ 2 _ _ _ h.k, cell_of_row _ _ 3 _ _ _ h.k, cell_of_row _ _ 4 _ _ _ h.k⟩
theorem RB.f {w W : World} (h : RB w W) : W.frozen? ⟨w.heap.size, 0, none⟩ = false ∧ W.frozen? ⟨w.heap.size, 1, none⟩ = false ∧ W.frozen? ⟨w.heap.size, 2, none⟩ = false ∧ W.frozen? ⟨w.heap.size, 3, none⟩ = false ∧ W.frozen? ⟨w.heap.size, 4, none⟩ = false :=
  ⟨frozen_of_row _ _ 0 _ _ h.k, frozen_of_row _ _ 1 _ _ h.k, frozen_of_row _ _ 2 _ _ h.k, frozen_of_row _ _ 3 _ _ h.k, frozen_of_row _ _ 4 _ _ h.k⟩
theorem checkp_fit {w : World} {v : Value} {ps : List Pn} {E : Int} (hE : chkPE ps = E) (h : PS w v ps) : Calls Try.prog 75 #[v] w (YI E w) := by subst hE; exact checkp_any h
set_option maxRecDepth 100000 in
set_option maxHeartbeats 4000000 in
theorem look_bad {w : World} {a : Option Addr} {m cap : Nat} {ps : List Pn} (hP : PS w (.slice a m cap) ps) (hok : chkP ps = false) (q : Int) :
    Calls Try.prog 66 #[.slice a m cap, .int .i64 q] w (fun e w' => e = .returned (.tuple #[lz0, .int .i64 2]) ∧ Below w.heap.size w w') := by
  have HR := Lib.hid (RB.start w)
  have HC := Lib.hid (checkp_fit (E := 2) (by unfold chkPE; rw [hok]; rfl) (hP.below HR.out.b))
  unfold lzo at HR HC
  clear hP hok
  go_enter Try.func66, Try.ntmps66
  go_wp2_with fail
  refine HC.out.mono ?_
  rintro e w1 ⟨rfl, hb⟩
  have HR1 := Lib.hid (HR.out.below hb)
  obtain ⟨c0, c1, c2, c3, c4⟩ := HR1.out.c
  obtain ⟨g0, g1, g2, g3, g4⟩ := HR1.out.f
  clear hb HC
  go_wp2_with fail
  clear c0 c1 c2 c3 c4 g0 g1 g2 g3 g4
  obtain ⟨⟨e0, e1, e2, e3, e4⟩, eb⟩ := five_end (.int .i64 0) (.int .i64 0) (.slice none 0 0) (.slice none 0 0) (.int .i64 0) HR1.out.k _ rfl
  refine bodyPost_ret (v := .tuple #[lz0, .int .i64 2]) (by simp [results, Try.results66, go_sem, e0, e1, e2, e3, e4]) rfl ?_
  exact ⟨rfl, HR1.out.b.trans eb⟩
set_option maxRecDepth 100000 in
set_option maxHeartbeats 4000000 in
theorem look_far {w : World} {a : Option Addr} {m cap : Nat} {ps : List Pn} (hP : PS w (.slice a m cap) ps) (hok : chkP ps = true) {q : Int} (hq : one m q = false) :
    Calls Try.prog 66 #[.slice a m cap, .int .i64 q] w (fun e w' => e = .returned (.tuple #[lz0, .int .i64 9]) ∧ Below w.heap.size w w') := by
  have HR := Lib.hid (RB.start w)
  have HC := Lib.hid (checkp_fit (E := 0) (by unfold chkPE; rw [hok]; rfl) (hP.below HR.out.b))
  have HO := Lib.hid (fun W => one_fit hq W (by have := hP.len; have := chkP_len hok; unfold maxLen; omega))
  unfold lzo at HR HC
  clear hP hok hq
  go_enter Try.func66, Try.ntmps66
  go_wp2_with fail
  refine HC.out.mono ?_
  rintro e w1 ⟨rfl, hb⟩
  have HR1 := Lib.hid (HR.out.below hb)
  clear hb HC HR
  go_wp2_with fail
  refine (HO.out _).mono ?_
  rintro e w2 ⟨rfl, rfl⟩
  obtain ⟨c0, c1, c2, c3, c4⟩ := HR1.out.c
  obtain ⟨g0, g1, g2, g3, g4⟩ := HR1.out.f
  go_wp2_with fail
  clear c0 c1 c2 c3 c4 g0 g1 g2 g3 g4
  obtain ⟨⟨e0, e1, e2, e3, e4⟩, eb⟩ := five_end (.int .i64 0) (.int .i64 0) (.slice none 0 0) (.slice none 0 0) (.int .i64 0) HR1.out.k _ rfl
  refine bodyPost_ret (v := .tuple #[lz0, .int .i64 9]) (by simp [results, Try.results66, go_sem, e0, e1, e2, e3, e4]) rfl ?_
  exact ⟨rfl, HR1.out.b.trans eb⟩
set_option maxRecDepth 100000 in
set_option maxHeartbeats 4000000 in
theorem look_yes {w : World} {a : Option Addr} {m cap : Nat} {ps : List Pn} (hP : PS w (.slice a m cap) ps) (hok : chkP ps = true) {q : Nat} (hq : q < m) :
    Calls Try.prog 66 #[.slice a m cap, .int .i64 q] w (fun e w' => ∃ ta tcap, e = .returned (.tuple #[lkv ps a m cap q ta tcap, .int .i64 0]) ∧ LK w' ps a m cap q ta tcap ∧ Below w.heap.size w w') := by
  have HR := Lib.hid (RB.start w)
  have HP := Lib.hid hP
  have HC := Lib.hid (checkp_fit (E := 0) (by unfold chkPE; rw [hok]; rfl) (hP.below HR.out.b))
  have HO := Lib.hid (fun W => one_fit (R := true) (one_iff.2 ⟨Int.natCast_nonneg q, by omega⟩) W (by have := hP.len; have := chkP_len hok; unfold maxLen; omega : m ≤ maxLen))
  have HOK := Lib.hid hok
  unfold lzo at HR HC
  clear hP hok
  go_enter Try.func66, Try.ntmps66
  go_wp2_with fail
  refine HC.out.mono ?_
  rintro e w1 ⟨rfl, hb⟩
  have HR1 := Lib.hid (HR.out.below hb)
  clear hb HC HR
  go_wp2_with fail
  refine (HO.out _).mono ?_
  rintro e w2 ⟨rfl, rfl⟩
  obtain ⟨b, off, ta, tcap, rfl, d0, d1, d2, hT, l1, l2, l3⟩ := HP.out.at hq
  have HLK : Hid (∀ W, Below w.heap.size w W → LK W ps (some ⟨b, off, none⟩) m cap q ta tcap) := fun W hW => ⟨HP.out.below hW, HOK.out, hq, hT.below hW, l1, l2⟩
  have d0 := (HR1.out.b.cell (World.block_lt_of_cell? _ _ d0)).trans d0
  have d1 := (HR1.out.b.cell (World.block_lt_of_cell? _ _ d1)).trans d1
  have d2 := (HR1.out.b.cell (World.block_lt_of_cell? _ _ d2)).trans d2
  obtain ⟨p, hp⟩ : ∃ p, p = ps.getD q p0 := ⟨_, rfl⟩
  rw [← hp] at d0 d1 d2
  have HPP := Lib.hid hp
  have hqm : (q : Int) < m := by omega
  have hq0 : (0 : Int) ≤ q := by omega
  clear hp hT l1 l2 l3
  obtain ⟨per, bud, n, z⟩ := p
  dsimp only at d0 d1 d2
  obtain ⟨c0, c1, c2, c3, c4⟩ := HR1.out.c
  obtain ⟨g0, g1, g2, g3, g4⟩ := HR1.out.f
  go_wp2_with fail
  clear c0 c1 c2 c3 c4 g0 g1 g2 g3 g4 d0 d1 d2
  obtain ⟨⟨e0, e1, e2, e3, e4⟩, eb⟩ := five_end (.int .i64 per) (.int .i64 bud) (.slice ta n tcap) (.slice (some ⟨b, off, none⟩) m cap) (.int .i64 q) HR1.out.k _ rfl
  refine bodyPost_ret (v := .tuple #[lv per bud ta n tcap (some ⟨b, off, none⟩) m cap q, .int .i64 0]) (by simp [results, Try.results66, go_sem, e0, e1, e2, e3, e4]) rfl ?_
  have hB := HR1.out.b.trans eb
  exact ⟨ta, tcap, by unfold lkv; rw [← HPP.out], HLK.out _ hB, hB⟩
theorem look_no {w : World} {a : Option Addr} {m cap : Nat} {ps : List Pn} (hP : PS w (.slice a m cap) ps) {q E : Int} (h : (chkP ps = false ∧ E = 2) ∨ (chkP ps = true ∧ one m q = false ∧ E = 9)) :
    Calls Try.prog 66 #[.slice a m cap, .int .i64 q] w (fun e w' => e = .returned (.tuple #[lz0, .int .i64 E]) ∧ Below w.heap.size w w') := by
  rcases h with ⟨h, rfl⟩ | ⟨h, h2, rfl⟩
  · exact look_bad hP h q
  · exact look_far hP h h2
/-- what stands between a call and its answer: refused, with which error; or it is one of them -/
theorem look_cases {ps : List Pn} {m : Nat} (hm : m = ps.length) (q : Int) : (∃ E : Int, ((chkP ps = false ∧ E = 2) ∨ (chkP ps = true ∧ one m q = false ∧ E = 9)) ∧ (E != 0) = true) ∨ ∃ k : Nat, q = k ∧ k < m ∧ chkP ps = true := by
  cases h : chkP ps with
  | false => exact Or.inl ⟨2, Or.inl ⟨rfl, rfl⟩, by decide⟩
  | true =>
    cases h2 : one m q with
    | false => exact Or.inl ⟨9, Or.inr ⟨rfl, rfl, rfl⟩, by decide⟩
    | true =>
      have := one_iff.1 h2
      exact Or.inr ⟨q.toNat, by omega, by omega, rfl⟩
theorem waR_no {ps : List Pn} {m : Nat} (hm : m = ps.length) {q E : Int} (k : Int) (h : (chkP ps = false ∧ E = 2) ∨ (chkP ps = true ∧ one m q = false ∧ E = 9)) : waR ps q k = (0, E) := by
  unfold waR
  rcases h with ⟨h, rfl⟩ | ⟨h, h2, rfl⟩
  · rw [h]; rfl
  · rw [h, if_pos rfl, if_neg (fun hc => by rw [one_iff.2 ⟨hc.1, by omega⟩] at h2; cases h2)]
theorem moR_no {ps : List Pn} {m : Nat} (hm : m = ps.length) {q E : Int} (h : (chkP ps = false ∧ E = 2) ∨ (chkP ps = true ∧ one m q = false ∧ E = 9)) : moR ps q = ([], E) := by
  unfold moR
  rcases h with ⟨h, rfl⟩ | ⟨h, h2, rfl⟩
  · rw [h]; rfl
  · rw [h, if_pos rfl, if_neg (fun hc => by rw [one_iff.2 ⟨hc.1, by omega⟩] at h2; cases h2)]
theorem deR_no {ps : List Pn} {m : Nat} (hm : m = ps.length) {q E : Int} (T : Int) (h : (chkP ps = false ∧ E = 2) ∨ (chkP ps = true ∧ one m q = false ∧ E = 9)) : deR ps q T = (0, E) := by
  unfold deR
  rcases h with ⟨h, rfl⟩ | ⟨h, h2, rfl⟩
  · rw [h]; rfl
  · rw [h, if_pos rfl, if_neg (fun hc => by rw [one_iff.2 ⟨hc.1, by omega⟩] at h2; cases h2)]
/-- the box of the one that is looked at -/
structure LB (w W : World) (per bud : Int) (ta : Option Addr) (n tcap : Nat) (a : Option Addr) (m cap q : Nat) : Prop where
  k : W.heap[w.heap.size]? = some (lvo per bud ta n tcap a m cap q)
  b : Below w.heap.size w W
theorem LB.start (w : World) (per bud : Int) (ta : Option Addr) (n tcap : Nat) (a : Option Addr) (m cap q : Nat) : LB w (w.alloc (lvo per bud ta n tcap a m cap q)) per bud ta n tcap a m cap q := ⟨heap_alloc_new w _, (Below.refl _ w).alloc (Nat.le_refl _) _⟩
theorem LB.below {w W W' : World} {per bud : Int} {ta : Option Addr} {n tcap : Nat} {a : Option Addr} {m cap q : Nat} (h : LB w W per bud ta n tcap a m cap q) (b : Below W.heap.size W W') : LB w W' per bud ta n tcap a m cap q := ⟨(b.block _ (lt_of_block h.k)).trans h.k, chn h.b b⟩
theorem LB.c {w W : World} {per bud : Int} {ta : Option Addr} {n tcap : Nat} {a : Option Addr} {m cap q : Nat} (h : LB w W per bud ta n tcap a m cap q) :
    W.cell? ⟨w.heap.size, 0, none⟩ = some (.int .i64 per) ∧ W.cell? ⟨w.heap.size, 1, none⟩ = some (.int .i64 bud) ∧ W.cell? ⟨w.heap.size, 2, none⟩ = some (.slice ta n tcap) ∧ W.cell? ⟨w.heap.size, 3, none⟩ = some (.slice a m cap) ∧ W.cell? ⟨w.heap.size, 4, none⟩ = some (.int .i64 q) := by
  have hk := h.k
  unfold lvo at hk
  exact ⟨cell_of_row _ _ 0 _ _ _ hk, cell_of_row _ _ 1 _ _ _ hk, cell_of_row _ _ 2 _ _ _ hk, cell_of_row _ _ 3 _ _ _ hk, cell_of_row _ _ 4 _ _ _ hk⟩
end Go.Proofs.Ytbdiekolkniajaa

namespace Go.Proofs.Ytbdiekolkniajaa
open Go.RowKit Tk De Dl
set_option linter.unusedVariables false

/-- the first k numbers are written, the rest are nothing -/
def FI (cur : Array Value) (F : Nat → Int) (k n : Nat) : Prop := cur = (((List.range k).map fun i => Value.int .i64 (F i)) ++ List.replicate (n - k) (Value.int .i64 0)).toArray
theorem FI.start (F : Nat → Int) (n : Nat) : FI (madeCells #[.int .i64 0] n) F 0 n := by
  unfold FI madeCells
  apply Array.ext_getElem?
  intro i
  simp only [Array.getElem?_map, List.range_zero, List.map_nil, List.nil_append, Nat.sub_zero, List.getElem?_toArray]
  by_cases h : i < n
  · rw [Array.getElem?_eq_getElem (by simpa using h), List.getElem?_eq_getElem (by simpa using h)]
    simp [Nat.mod_one]
  · rw [Array.getElem?_eq_none (by simpa using h), List.getElem?_eq_none (by simpa using h)]
    rfl
theorem FI.size {cur : Array Value} {F : Nat → Int} {k n : Nat} (h : FI cur F k n) (hk : k ≤ n) : cur.size = n := by rw [h]; simp; omega
theorem FI.step {cur : Array Value} {F : Nat → Int} {k n : Nat} (h : FI cur F k n) (hk : k < n) : FI (cur.setIfInBounds k (.int .i64 (F k))) F (k + 1) n := by
  have hs := h.size (by omega)
  unfold FI at h ⊢
  apply Array.ext_getElem?
  intro i
  rw [Array.getElem?_setIfInBounds, h]
  simp only [List.getElem?_toArray, List.size_toArray, List.length_append, List.length_map, List.length_range, List.length_replicate]
  by_cases e : k = i
  · subst e
    rw [if_pos rfl, if_pos (by omega), List.getElem?_append_left (by simp)]
    simp
  · rw [if_neg e]
    by_cases hl : i < k
    · rw [List.getElem?_append_left (by simpa using hl), List.getElem?_append_left (by simp; omega)]
      rw [List.getElem?_map, List.getElem?_map, List.getElem?_range (by omega), List.getElem?_range (by omega)]
    · rw [List.getElem?_append_right (by simp; omega), List.getElem?_append_right (by simp; omega)]
      simp only [List.length_map, List.length_range]
      by_cases hn : i < n
      · rw [List.getElem?_replicate, List.getElem?_replicate, if_pos (by omega), if_pos (by omega)]
      · rw [List.getElem?_replicate, List.getElem?_replicate, if_neg (by omega), if_neg (by omega)]
theorem fi_row {w : World} {g n : Nat} {F : Nat → Int} {cur : Array Value} (h : w.heap[g]? = some (.cells cur 3 (0, 0))) (hF : FI cur F n n) (hn : n ≤ maxLen) : IS w (.slice (some ⟨g, 0, none⟩) n n) ((List.range n).map F) := by
  have hl : ((List.range n).map F).length = n := by simp
  refine ⟨_, _, by rw [hl], by rw [hl]; exact Nat.le_refl _, hn, (fun h => by cases h), fun hp => ⟨g, 0, rfl, fun i hi => ?_⟩⟩
  rw [hl] at hi
  rw [cell_of_row w g (0 + i) _ _ _ h, Nat.zero_add, hF, Nat.sub_self]
  simp [List.getD, hi]
set_option maxRecDepth 100000 in
set_option maxHeartbeats 4000000 in
theorem Of_any {w : World} {v : Value} {ps : List Pn} (h : PS w v ps) (q T : Int) : Calls Try.prog 72 #[v, .int .i64 q, .int .i64 T] w (TwoB (deR ps q T).1 (deR ps q T).2 w) := by
  obtain ⟨a, cap, rfl, hn1, hn2⟩ := h.slice
  obtain ⟨m, hm⟩ : ∃ m, m = ps.length := ⟨_, rfl⟩
  rw [← hm] at h hn1 ⊢
  clear hn1 hn2
  rcases look_cases hm q with ⟨E, hE, hne⟩ | ⟨q, rfl, hq, hok⟩
  · rw [deR_no hm T hE]
    have HL := Lib.hid (look_no h hE)
    clear hE hm h
    go_enter Try.func72, Try.ntmps72
    go_wp2_with fail
    refine HL.out.mono ?_
    rintro e w1 ⟨rfl, hb⟩
    have HB : Hid (Below w.heap.size w (w1.alloc lzo)) := chn hb ((Below.refl _ w1).alloc (Nat.le_refl _) lzo)
    unfold lzo at HB
    clear hb HL
    go_wp2_with fail
    go_ret2
    exact ⟨rfl, HB.out⟩
  · have HL := Lib.hid (look_yes h hok hq)
    have HR : Hid (deR ps q T = if T < 0 then (0, 2) else (del ps q T (ps.getD q p0).n, 0)) := by
      unfold Hid deR
      have e : ((q : Int)).toNat = q := by omega
      rw [hok, if_pos rfl, if_pos (by omega), e]
    obtain ⟨X, hX⟩ : ∃ X, X = deR ps q T := ⟨_, rfl⟩
    rw [← hX]
    have HX : Hid (X = if T < 0 then (0, 2) else (del ps q T (ps.getD q p0).n, 0)) := hX.trans HR.out
    clear h hm hok HR hX
    go_enter Try.func72, Try.ntmps72
    go_wp2_with fail
    refine HL.out.mono ?_
    rintro e w1 ⟨ta, tcap, rfl, hL, hb⟩
    have HLB := Lib.hid (LB.start w1 (ps.getD q p0).per (ps.getD q p0).bud ta (ps.getD q p0).n tcap a m cap q)
    have HB := Lib.hid (chn hb HLB.out.b)
    have HD := Lib.hid (del_any (hL.below HLB.out.b) T)
    unfold lkv at HD ⊢
    clear HL hb hL
    generalize (ps.getD q p0).n = n at *
    generalize (ps.getD q p0).per = per at *
    generalize (ps.getD q p0).bud = bud at *
    unfold lv at HD ⊢
    obtain ⟨c0, c1, c2, c3, c4⟩ := HLB.out.c
    unfold lvo at c0 c1 c2 c3 c4 HLB HB HD
    cases ht : decide (T < 0) with
    | true =>
      have HE : Hid (X = (0, 2)) := HX.out.trans (if_pos (of_decide_eq_true ht))
      clear HD HX
      go_wp2_with fail
      go_ret2
      exact ⟨by rw [HE.out]; rfl, HB.out⟩
    | false =>
      have HE : Hid (X = (del ps q T n, 0)) := HX.out.trans (if_neg (of_decide_eq_false ht))
      clear HX
      generalize del ps q T n = D at *
      go_wp2_with fail
      refine HD.out.mono ?_
      rintro e w2 ⟨rfl, hb⟩
      have HB2 := Lib.hid (chn HB.out hb)
      clear hb HD c0 c1 c2 c3 c4
      go_wp2_with fail
      go_ret2
      exact ⟨by rw [HE.out]; rfl, HB2.out⟩
theorem cell_at {w : World} {g i : Nat} {c : Array Value} {t : TypeId} (h : w.heap[g]? = some (.cells c t (0, 0))) (hi : i < c.size) : ∃ u, w.cell? ⟨g, i, none⟩ = some u :=
  ⟨c[i], cell_of_row _ _ i _ _ _ h |>.trans (Array.getElem?_eq_getElem hi)⟩
/-- numbers and an error are answered -/
def MoP (x : List Int × Int) (w : World) (e : Ending) (w' : World) : Prop := ∃ v, e = .returned (.tuple #[v, .int .i64 x.2]) ∧ IS w' v x.1 ∧ Below w.heap.size w w'
/-- they lie in a row that is new -/
def MoQ (x : List Int × Int) (w : World) (e : Ending) (w' : World) : Prop := ∃ v, e = .returned (.tuple #[v, .int .i64 x.2]) ∧ IS w' v x.1 ∧ Below w.heap.size w w' ∧ ∀ b, v.ownBlock = some b → w.heap.size ≤ b
theorem more_start {w V : World} {o : Obj} {n : Nat} (F : Nat → Int)
    (hown : V.ownsRow (w.alloc o).heap.size 3 1 (.slice (some ⟨(w.alloc o).heap.size, 0, none⟩) n n) n (madeCells (Value.int .i64 0).cells (n * 1)).toList)
    (hgrow : (w.alloc o).grownBy V none) : Hid (V.heap[w.heap.size + 1]? = some (.cells (madeCells (Value.int .i64 0).cells (n * 1)) 3 (0, 0))) ∧ Hid (Below (w.heap.size + 1) (w.alloc o) V) ∧ Hid (FI (madeCells (Value.int .i64 0).cells (n * 1)) F 0 n) := by
  have hk := (own_full hown).1
  rw [World.size_alloc] at hk
  refine ⟨hk, (Below.refl _ _).grown hgrow (by rw [World.size_alloc]; exact Nat.le_refl _) (fun k hk => by cases hk), ?_⟩
  unfold Hid
  rw [Nat.mul_one]
  exact FI.start F n
set_option maxRecDepth 100000 in
set_option maxHeartbeats 4000000 in
theorem More_new {w : World} {v : Value} {ps : List Pn} (h : PS w v ps) (q : Int) : Calls Try.prog 49 #[v, .int .i64 q] w (MoQ (moR ps q) w) := by
  obtain ⟨a, cap, rfl, hn1, hn2⟩ := h.slice
  obtain ⟨m, hm⟩ : ∃ m, m = ps.length := ⟨_, rfl⟩
  rw [← hm] at h hn1 ⊢
  clear hn1 hn2
  rcases look_cases hm q with ⟨E, hE, hne⟩ | ⟨q, rfl, hq, hok⟩
  · rw [moR_no hm hE]
    have HL := Lib.hid (look_no h hE)
    clear hE hm h
    go_enter Try.func49, Try.ntmps49
    go_wp2_with fail
    refine HL.out.mono ?_
    rintro e w1 ⟨rfl, hb⟩
    have HB : Hid (Below w.heap.size w (w1.alloc lzo)) := chn hb ((Below.refl _ w1).alloc (Nat.le_refl _) lzo)
    unfold lzo at HB
    clear hb HL
    go_wp2_with fail
    go_ret2
    exact ⟨_, rfl, IS.nil _, HB.out, fun b h => by cases h⟩
  · obtain ⟨i0, hi, hz0, hz1, hz2⟩ := info_parts infoIn
    have HL := Lib.hid (look_yes h hok hq)
    obtain ⟨X, hX⟩ : ∃ X, X = moR ps q := ⟨_, rfl⟩
    have HX : Hid (X = (mors ps q, 0)) := by
      unfold Hid
      rw [hX]
      unfold moR
      have e : ((q : Int)).toNat = q := by omega
      rw [hok, if_pos rfl, if_pos (by omega), e]
    rw [← hX]
    clear h hm hok hX
    go_enter Try.func49, Try.ntmps49
    go_wp2_with fail
    refine HL.out.mono ?_
    rintro e w1 ⟨ta, tcap, rfl, hL, hb⟩
    have hpb := hL.tb
    have hn4 := hpb.n4
    have HTB := Lib.hid hpb.t
    have HLB := Lib.hid (LB.start w1 (ps.getD q p0).per (ps.getD q p0).bud ta (ps.getD q p0).n tcap a m cap q)
    have HB := Lib.hid (chn hb HLB.out.b)
    have HPS := Lib.hid (hL.p.below HLB.out.b)
    have HTK := Lib.hid (hL.t.below HLB.out.b)
    have HOK := Lib.hid hL.ok
    have HMS : Hid (mors ps q = (List.range (ps.getD q p0).n).map fun i => mor ps q ((ps.getD q p0).z i)) := rfl
    unfold lkv
    clear HL hb hL hpb
    generalize (ps.getD q p0).n = n at *
    generalize (ps.getD q p0).z = z at *
    generalize (ps.getD q p0).per = per at *
    generalize (ps.getD q p0).bud = bud at *
    unfold lv
    have hml : n ≤ maxLen := by unfold maxLen; omega
    have hmx : n ≤ 9223372036854775807 := by omega
    have HM1 := Lib.hid (fun W (b : Below (w1.alloc (lvo per bud ta n tcap a m cap q)).heap.size (w1.alloc (lvo per bud ta n tcap a m cap q)) W) i (hi : i < n) => more1_any (per := per) (bud := bud) (ta := ta) (n := n) (tcap := tcap) (q := q) (HPS.out.below b) HOK.out (HTB.out i hi))
    obtain ⟨c0, c1, c2, c3, c4⟩ := HLB.out.c
    unfold lv tv at HM1
    unfold lvo at c0 c1 c2 c3 c4 HLB HB HPS HTK HM1
    go_wp2_with (at_make; refine wpList_make_full _ rfl _ _ 50 rfl (w1.alloc (.cells #[.int .i64 per, .int .i64 bud, .slice ta n tcap, .slice a m cap, .int .i64 q] 110)).heap.size 3 i0 _ 1 Try.underlying50 hi hz0 hz1 .i64 .i64 _ _ n rfl rfl rfl rfl (by rw [hz2]; omega) hml (Nat.le_refl _) ?_; intro V hown hgrow; obtain ⟨HG0, HV0, HF0⟩ := more_start (fun i => mor ps q (z i)) hown hgrow; clear hown hgrow; have c2 := (HV0.out.cell (p := ⟨w1.heap.size, 2, none⟩) (Nat.lt_succ_self _)).trans c2)
    have HS1 : Hid ((w1.alloc (.cells #[.int .i64 per, .int .i64 bud, .slice ta n tcap, .slice a m cap, .int .i64 q] 110)).heap.size = w1.heap.size + 1) := World.size_alloc _ _
    have HK := Lib.hid HLB.out.k
    unfold lvo at HK
    clear c0 c1 c2 c3 c4 HLB hi hz0 hz1 hz2
    generalize w1.alloc (.cells #[.int .i64 per, .int .i64 bud, .slice ta n tcap, .slice a m cap, .int .i64 q] 110) = W1 at *
    generalize madeCells (Value.int .i64 0).cells (n * 1) = cur0 at *
    obtain ⟨b1, hb1⟩ : ∃ b1, b1 = w1.heap.size := ⟨_, rfl⟩
    rw [← hb1] at HG0 HV0 HS1 HK ⊢
    have HB1 := Lib.hid hb1
    clear hb1
    go_wp2_with fail
    go_loopw [29] (fun i wr => ∃ (k : Nat) (cur : Array Value), k ≤ n ∧ i = .int .i64 k ∧ Hid (FI cur (fun i => mor ps q (z i)) k n) ∧ Hid (wr.heap[b1 + 1]? = some (.cells cur 3 (0, 0))) ∧ Hid (Below (b1 + 1) W1 wr)) (fun i _ => n - (intOf i).toNat)
    case atStart => exact ⟨0, cur0, by omega, rfl, HF0, HG0, HV0⟩
    case round =>
      clear HG0 HV0 HF0
      obtain ⟨k, cur, hk, rfl, HF, HGc, HV⟩ := hrel
      by_cases hlt : k < n
      · have hV : Below W1.heap.size W1 wr := by rw [HS1.out]; exact HV.out
        obtain ⟨tb, off, rfl, t0, t1, t2, t3, t4, t5, t6, t7⟩ := (HTK.out.below hV).at hlt
        have hA := (Below.refl wr.heap.size wr).alloc (Nat.le_refl _) (tko (z k))
        have hsz : b1 + 1 ≤ wr.heap.size := Nat.le_of_lt (lt_of_block HGc.out)
        have hV2 := HV.out.alloc hsz (tko (z k))
        have hC := HM1.out _ (by rw [HS1.out]; exact hV2) k hlt
        have hK2 := (hV2.block b1 (Nat.lt_succ_self _)).trans HK.out
        have e0 := cell_of_row _ _ 0 _ _ _ hK2
        have e1 := cell_of_row _ _ 1 _ _ _ hK2
        have e2 := cell_of_row _ _ 2 _ _ _ hK2
        have e3 := cell_of_row _ _ 3 _ _ _ hK2
        have e4 := cell_of_row _ _ 4 _ _ _ hK2
        change _ = some (Value.int .i64 per) at e0
        change _ = some (Value.int .i64 bud) at e1
        change _ = some (Value.slice _ n tcap) at e2
        change _ = some (Value.slice a m cap) at e3
        change _ = some (Value.int .i64 q) at e4
        have hG2 := (hA.block _ (lt_of_block HGc.out)).trans HGc.out
        have HF2 := Lib.hid (HF.out.step hlt)
        have hcs := HF.out.size hk
        have HC := Lib.hid hC; have HV2 := Lib.hid hV2; have HG2 := Lib.hid hG2; have HSZ := Lib.hid hsz
        clear hA hC hV hV2 hK2 hG2 hsz HF HGc HV
        generalize mor ps q (z k) = X at *
        unfold tko at HC HV2 HG2 e0 e1 e2 e3 e4
        go_wp2_with fail
        refine HC.out.mono ?_
        rintro e w2 ⟨rfl, hb⟩
        have HG3 := Lib.hid ((hb.block _ (lt_of_block HG2.out)).trans HG2.out)
        have HV3 := Lib.hid (HV2.out.trans (hb.mono (Nat.le_of_lt (lt_of_block HG2.out))))
        obtain ⟨q0, f0⟩ : ∃ u, w2.cell? ⟨b1 + 1, k, none⟩ = some u := cell_at HG3.out (i := k) (by omega)
        have g0 : w2.frozen? ⟨b1 + 1, k, none⟩ = false := frozen_of_row _ _ k _ _ HG3.out
        clear hb HC HG2 HV2 e0 e1 e2 e3 e4 t0 t1 t2 t3 t4 t5 t6 t7
        go_wp2_with fail
        go_roundw
        case rel => exact ⟨k + 1, _, by omega, by go_num, HF2, heap_set_same HG3.out, HV3.out.setCell (p := ⟨b1 + 1, k, none⟩) (Nat.le_refl _) _⟩
        case measure => simp [intOf]; omega
      · obtain rfl : k = n := by omega
        go_wp2_with fail
        go_ret2
        refine ⟨_, by rw [HX.out]; rfl, ?_, HB.out.trans (HV.out.mono (by have h1 := HB.out.size; have h2 := HS1.out; omega)), fun b h => by
          have e1 : b1 + 1 = b := Option.some.inj h
          have h1 := HB.out.size; have h2 := HS1.out; omega⟩
        rw [HX.out]
        show IS _ _ (mors ps q)
        rw [HMS.out]
        exact fi_row HGc.out HF.out hml
theorem More_any {w : World} {v : Value} {ps : List Pn} (h : PS w v ps) (q : Int) : Calls Try.prog 49 #[v, .int .i64 q] w (MoP (moR ps q) w) :=
  (More_new h q).mono fun _ _ ⟨v, h1, h2, h3, _⟩ => ⟨v, h1, h2, h3⟩
end Go.Proofs.Ytbdiekolkniajaa
