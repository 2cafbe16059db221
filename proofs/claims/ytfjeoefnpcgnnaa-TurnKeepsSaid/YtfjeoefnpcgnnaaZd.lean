/- Check, the program's. -/
import Derived.Test.YtfjeoefnpcgnnaaDelA
import Derived.OwnWalk
import Derived.RangeFuncNested
import Derived.RangeFuncBound
import Derived.RangeFuncCalls
import Derived.RangeFuncLeaves
import Derived.Shelf.Abstract
import Derived.Shelf.RegionOpen
import Derived.WalkKit
import Derived.OwnWalkIn
import Derived.TacticsInMore
import Derived.LoopNIn
import Derived.LoopIn
import Derived.Lib.QuietBelow
import Derived.IntWalk
namespace Go.Proofs.Ytfjeoefnpcgnnaa
open Go.RowKit Tk De Dl
set_option linter.unusedVariables false

/-- a row that was made whole -/
theorem own_full {w : World} {B e size n g : Nat} {xs : Array Value} (h : w.ownsRow B e size (.slice (some ⟨g, 0, none⟩) n n) n xs.toList) : w.heap[g]? = some (.cells xs e (0, 0)) ∧ xs.size = n * size := by
  have hl : xs.size = n * size := by have := h.1; rwa [Array.length_toList] at this
  rcases h.2 with ⟨h0, _⟩ | ⟨g', cap, cur, hv, _, hg, h1, h2, h3, h4⟩
  · cases h0
  · obtain ⟨rfl, rfl⟩ : g = g' ∧ n = cap := by simpa using hv
    have : cur = xs := by
      apply Array.toList_inj.1
      rw [← h4, List.take_of_length_le (by rw [Array.length_toList, h3]; exact Nat.le_refl _)]
    rw [← this]
    exact ⟨hg, h3⟩
theorem infoIn : (Try.prog.info? 3).map (fun i => (i.zero, i.size, i.bytes)) = some (some (.int .i64 0), 1, 8) := by kernel_rfl
/-- so many nothings, that can be read -/
def noughts (n : Nat) : List Int := List.replicate n 0
theorem made_at {n i : Nat} (h : i < n) : (madeCells #[.int .i64 0] n)[i]? = some (.int .i64 0) := by
  unfold madeCells
  rw [Array.getElem?_map, Array.getElem?_eq_getElem (by simpa using h)]
  simp [Nat.mod_one]
theorem is_made {w : World} {g n : Nat} (h : w.heap[g]? = some (.cells (madeCells (Value.int .i64 0).cells (n * 1)) 3 (0, 0))) (hn : n ≤ maxLen) : IS w (.slice (some ⟨g, 0, none⟩) n n) (noughts n) := by
  have hl : (noughts n).length = n := by simp [noughts]
  refine ⟨_, _, by rw [hl], by rw [hl]; exact Nat.le_refl _, hn, (fun h => by cases h), fun hp => ⟨g, 0, rfl, fun i hi => ?_⟩⟩
  rw [hl] at hi
  rw [cell_of_row w g (0 + i) _ _ _ h, Nat.zero_add, Nat.mul_one]
  refine (made_at hi).trans ?_
  simp [noughts, List.getD, hi]
theorem noughts_ok (n : Nat) (z : Nat → Nat → Int) : chkE n z (noughts n) = if tasksOK n z then 0 else 2 := by
  have h : moreOK (noughts n) = true := by
    rw [moreOK, List.all_eq_true]
    intro x hx
    rw [List.eq_of_mem_replicate hx]
    rfl
  have hl : (noughts n).length = n := by simp [noughts]
  unfold chkE chk
  rw [h, hl, decide_eq_true rfl, Bool.and_true, Bool.and_true]
/-- the program's test on a task of tasks that may be asked -/
theorem okTs_next {bud : Int} {z : Nat → Nat → Int} {k : Nat} {R : Bool} (h : okTs bud z k = true) (hk : okT bud (z k) = R) : okTs bud z (k + 1) = R := by unfold okTs; rw [h, hk]; rfl
/-- a partition by value, and its box -/
abbrev pv (per bud : Int) (a : Option Addr) (n cap : Nat) : Value := .agg #[.int .i64 per, .int .i64 bud, .slice a n cap]
def pvo (per bud : Int) (a : Option Addr) (n cap : Nat) : Obj := .cells #[.int .i64 per, .int .i64 bud, .slice a n cap] 53
/-- the box of a partition, and all that was there, are kept -/
structure KB (w W : World) (per bud : Int) (a : Option Addr) (n cap : Nat) : Prop where
  c0 : W.cell? ⟨w.heap.size, 0, none⟩ = some (.int .i64 per)
  c1 : W.cell? ⟨w.heap.size, 1, none⟩ = some (.int .i64 bud)
  c2 : W.cell? ⟨w.heap.size, 2, none⟩ = some (.slice a n cap)
  b : Below w.heap.size w W
theorem KB.made (w : World) (per bud : Int) (a : Option Addr) (n cap : Nat) : KB w (w.alloc (pvo per bud a n cap)) per bud a n cap :=
  ⟨cell_of_row _ _ 0 _ _ _ (heap_alloc_new w _), cell_of_row _ _ 1 _ _ _ (heap_alloc_new w _), cell_of_row _ _ 2 _ _ _ (heap_alloc_new w _), (Below.refl _ w).alloc (Nat.le_refl _) _⟩
theorem KB.below {w W W' : World} {per bud : Int} {a : Option Addr} {n cap : Nat} (h : KB w W per bud a n cap) (q : Below W.heap.size W W') : KB w W' per bud a n cap :=
  ⟨(q.cell (World.block_lt_of_cell? _ _ h.c0)).trans h.c0, (q.cell (World.block_lt_of_cell? _ _ h.c1)).trans h.c1, (q.cell (World.block_lt_of_cell? _ _ h.c2)).trans h.c2, chn h.b q⟩
theorem KB.alloc {w W : World} {per bud : Int} {a : Option Addr} {n cap : Nat} (h : KB w W per bud a n cap) (o : Obj) : KB w (W.alloc o) per bud a n cap := h.below ((Below.refl _ _).alloc (Nat.le_refl _) o)
theorem nought_facts {w V : World} {per bud : Int} {a : Option Addr} {n cap : Nat} (hn : n ≤ maxLen)
    (hown : V.ownsRow (w.alloc (pvo per bud a n cap)).heap.size 3 1 (.slice (some ⟨(w.alloc (pvo per bud a n cap)).heap.size, 0, none⟩) n n) n (madeCells (Value.int .i64 0).cells (n * 1)).toList)
    (hgrow : (w.alloc (pvo per bud a n cap)).grownBy V none) :
    V.cell? ⟨w.heap.size, 2, none⟩ = some (.slice a n cap) ∧ Hid (KB w V per bud a n cap) ∧ Hid (IS V (.slice (some ⟨w.heap.size + 1, 0, none⟩) n n) (noughts n)) := by
  have hb := (Below.refl (w.alloc (pvo per bud a n cap)).heap.size (w.alloc (pvo per bud a n cap))).grown hgrow (Nat.le_refl _) (fun k hk => by cases hk)
  have hk := (KB.made w per bud a n cap).below hb
  have hi := is_made (own_full hown).1 hn
  rw [World.size_alloc] at hi
  exact ⟨hk.c2, hk, hi⟩
/-- of the first k of them each may be asked -/
def okK (l : List Pn) : Nat → Bool
  | 0 => true
  | k + 1 => okK l k && okP (l.getD k p0)
theorem okK_all {l : List Pn} : ∀ {k : Nat}, okK l k = true ↔ ∀ i, i < k → okP (l.getD i p0) = true
  | 0 => by simp [okK]
  | k + 1 => by
    rw [okK, Bool.and_eq_true, okK_all]
    exact ⟨fun h i hi => by
      by_cases e : i = k
      · subst e; exact h.2
      · exact h.1 i (by omega), fun h => ⟨fun i hi => h i (by omega), h k (by omega)⟩⟩
theorem okK_chk {l : List Pn} (h : okK l l.length = true) (hl : l.length ≤ 4) : chkP l = true := okP_all (okK_all.1 h) hl
theorem okP_three (p : Pn) : okP p = (inn 1 64 p.per && (inn 1 p.per p.bud && (tasksOK p.n p.z && okTs p.bud p.z p.n))) := by
  unfold okP inn
  simp only [Bool.and_assoc]
end Go.Proofs.Ytfjeoefnpcgnnaa

namespace Go.Proofs.Ytfjeoefnpcgnnaa
open Go.RowKit Go.Shelf Tk De Dl
set_option linter.unusedVariables false
attribute [local go_sem] Oper.semAt_some

/-- a partition that is handed to a round: its period is one that may be -/
structure Pv where
  per : Int
  bud : Int
  a : Option Addr
  n : Nat
  cap : Nat
  p1 : 1 ≤ per
  p2 : per ≤ 64
def Pv.enc (x : Pv) : Array Value := #[.agg #[.int .i64 x.per, .int .i64 x.bud, .slice x.a x.n x.cap]]
/-- what they add to a wait -/
def tw (l : List Pv) : Int := (l.map fun x => 2 * x.per).sum
theorem tw_snoc (l : List Pv) (x : Pv) : tw (l ++ [x]) = tw l + 2 * x.per := by simp [tw]
theorem tw_bd : ∀ l : List Pv, 0 ≤ tw l ∧ tw l ≤ 128 * l.length
  | [] => by simp [tw]
  | x :: r => by
    have h1 := tw_bd r
    have h2 := x.p1; have h3 := x.p2
    have : tw (x :: r) = 2 * x.per + tw r := rfl
    rw [this, List.length_cons]
    omega
theorem grown_of_below {A B : World} (h : Below A.heap.size A B) : A.grownBy B none := ⟨h.os, h.tape, h.output, h.size, fun k hk _ => h.block k hk⟩
/-- what a round keeps -/
def Kx (B Bo Bg : Nat) (W W' : World) : Prop := Below B W W' ∧ W'.heap[Bo]? = W.heap[Bo]? ∧ W'.heap[Bg]? = W.heap[Bg]?
theorem Kx.t {B Bo Bg : Nat} {X Y Z : World} (h : Kx B Bo Bg X Y) (k : Kx B Bo Bg Y Z) : Kx B Bo Bg X Z := ⟨h.1.trans k.1, k.2.1.trans h.2.1, k.2.2.trans h.2.2⟩
theorem Kx.b {B Bo Bg : Nat} {w : World} (hB : B ≤ w.heap.size) (h1 : Bo < w.heap.size) (h2 : Bg < w.heap.size) (W : World) (l : Nat) (o o' : Obj) (hl : w.heap.size ≤ l) (h : W.heap[l]? = some o) (hc : o.isCells = false) (hw : o.isWalk = false) : Kx B Bo Bg W (W.putObj l o') :=
  ⟨belowK_b hB W l o o' hl h hc hw, World.putObj_heap_other (by omega), World.putObj_heap_other (by omega)⟩
theorem Kx.below {B Bo Bg : Nat} {W W' : World} (h : Below W.heap.size W W') (hB : B ≤ W.heap.size) (h1 : Bo < W.heap.size) (h2 : Bg < W.heap.size) : Kx B Bo Bg W W' := ⟨h.mono hB, h.block _ h1, h.block _ h2⟩
theorem wt_skip {ps : List Pn} {q k : Nat} {g : Int} (h : k = q ∨ uses (ps.getD k p0) g = false) : wt ps q g (k + 1) = wt ps q g k := by
  have hn : ¬ (0 < g ∧ k ≠ q ∧ uses (ps.getD k p0) g = true) := fun hc => by
    rcases h with h | h
    · exact hc.2.1 h
    · rw [h] at hc; exact absurd hc.2.2 (by decide)
  rw [wt, add1, if_neg hn, Int.add_zero]
theorem wt_take {ps : List Pn} {q k : Nat} {g : Int} (hg : 0 < g) (h1 : k ≠ q) (h2 : uses (ps.getD k p0) g = true) : wt ps q g (k + 1) = wt ps q g k + 2 * (ps.getD k p0).per := by
  rw [wt, add1, if_pos ⟨hg, h1, h2⟩]

/-- a partition that is looked at, by value, and its box -/
abbrev lv (per bud : Int) (ta : Option Addr) (n tcap : Nat) (a : Option Addr) (m cap : Nat) (q : Int) : Value := .agg #[.int .i64 per, .int .i64 bud, .slice ta n tcap, .slice a m cap, .int .i64 q]
end Go.Proofs.Ytfjeoefnpcgnnaa

namespace Go.Proofs.Ytfjeoefnpcgnnaa
open Go.RowKit Tk De Dl Go.Sort
set_option linter.unusedVariables false

theorem tb_b6 {bd : Int} {t : Nat → Int} (h : TB bd t) (hg : 0 < t 5) : t 6 ≤ 64 := by
  have h0 := h.n0 hg
  have htk := tOK_iff.1 h.ok
  have : t 6 * 1 ≤ t 6 * t 7 := Int.mul_le_mul_of_nonneg_left h0.2.2.1 (by omega)
  omega
/-- partitions, one of which is looked at, as a value -/
structure LK (w : World) (ps : List Pn) (a : Option Addr) (m cap q : Nat) (ta : Option Addr) (tcap : Nat) : Prop where
  p : PS w (.slice a m cap) ps
  ok : chkP ps = true
  lt : q < m
  t : TK w (.slice ta (ps.getD q p0).n tcap) (ps.getD q p0).n (ps.getD q p0).z
  l1 : (ps.getD q p0).n ≤ tcap
  l2 : tcap ≤ maxLen
theorem LK.below {w w' : World} {ps : List Pn} {a : Option Addr} {m cap q : Nat} {ta : Option Addr} {tcap : Nat} (h : LK w ps a m cap q ta tcap) (b : Below w.heap.size w w') : LK w' ps a m cap q ta tcap :=
  ⟨h.p.below b, h.ok, h.lt, h.t.below b, h.l1, h.l2⟩
theorem LK.tb {w : World} {ps : List Pn} {a : Option Addr} {m cap q : Nat} {ta : Option Addr} {tcap : Nat} (h : LK w ps a m cap q ta tcap) : PB (ps.getD q p0) := chkP_at h.ok (by have := h.p.len; have := h.lt; omega)
/-- the value that is looked at -/
abbrev lkv (ps : List Pn) (a : Option Addr) (m cap q : Nat) (ta : Option Addr) (tcap : Nat) : Value := lv (ps.getD q p0).per (ps.getD q p0).bud ta (ps.getD q p0).n tcap a m cap q
end Go.Proofs.Ytfjeoefnpcgnnaa

namespace Go.Proofs.Ytfjeoefnpcgnnaa
open Go.RowKit Tk De Dl Go.Sort
set_option linter.unusedVariables false

theorem heap_set_same {w : World} {b i : Nat} {c : Array Value} {t : TypeId} {v : Value} (h : w.heap[b]? = some (.cells c t (0, 0))) : (w.setCell ⟨b, i, none⟩ v).heap[b]? = some (.cells (c.setIfInBounds i v) t (0, 0)) := heap_setCell_same _ _ _ _ _ _ h
/-- five cells are written -/
theorem five_end {W : World} {b : Nat} {x0 x1 x2 x3 x4 : Value} {t : TypeId} (v0 v1 v2 v3 v4 : Value) (h : W.heap[b]? = some (.cells #[x0, x1, x2, x3, x4] t (0, 0))) (W' : World)
    (hW : W' = ((((W.setCell ⟨b, 0, none⟩ v0).setCell ⟨b, 1, none⟩ v1).setCell ⟨b, 2, none⟩ v2).setCell ⟨b, 3, none⟩ v3).setCell ⟨b, 4, none⟩ v4) :
    (W'.cell? ⟨b, 0, none⟩ = some v0 ∧ W'.cell? ⟨b, 1, none⟩ = some v1 ∧ W'.cell? ⟨b, 2, none⟩ = some v2 ∧ W'.cell? ⟨b, 3, none⟩ = some v3 ∧ W'.cell? ⟨b, 4, none⟩ = some v4) ∧ Below b W W' := by
  subst hW
  have hk := heap_set_same (i := 4) (v := v4) (heap_set_same (i := 3) (v := v3) (heap_set_same (i := 2) (v := v2) (heap_set_same (i := 1) (v := v1) (heap_set_same (i := 0) (v := v0) h))))
  have hk2 : (((((W.setCell ⟨b, 0, none⟩ v0).setCell ⟨b, 1, none⟩ v1).setCell ⟨b, 2, none⟩ v2).setCell ⟨b, 3, none⟩ v3).setCell ⟨b, 4, none⟩ v4).heap[b]? = some (.cells #[v0, v1, v2, v3, v4] t (0, 0)) := hk
  exact ⟨⟨cell_of_row _ _ 0 _ _ _ hk2, cell_of_row _ _ 1 _ _ _ hk2, cell_of_row _ _ 2 _ _ _ hk2, cell_of_row _ _ 3 _ _ _ hk2, cell_of_row _ _ 4 _ _ _ hk2⟩,
    (((((Below.refl b W).setCell (p := ⟨b, 0, none⟩) (Nat.le_refl _) _).setCell (p := ⟨b, 1, none⟩) (Nat.le_refl _) _).setCell (p := ⟨b, 2, none⟩) (Nat.le_refl _) _).setCell (p := ⟨b, 3, none⟩) (Nat.le_refl _) _).setCell (p := ⟨b, 4, none⟩) (Nat.le_refl _) _⟩
abbrev lz0 : Value := .agg #[.int .i64 0, .int .i64 0, .slice none 0 0, .slice none 0 0, .int .i64 0]
/-- what stands between a call and its answer: refused, with which error; or it is one of them -/
theorem look_cases {ps : List Pn} {m : Nat} (hm : m = ps.length) (q : Int) : (∃ E : Int, ((chkP ps = false ∧ E = 2) ∨ (chkP ps = true ∧ one m q = false ∧ E = 9)) ∧ (E != 0) = true) ∨ ∃ k : Nat, q = k ∧ k < m ∧ chkP ps = true := by
  cases h : chkP ps with
  | false => exact Or.inl ⟨2, Or.inl ⟨rfl, rfl⟩, by decide⟩
  | true =>
    cases h2 : one m q with
    | false => exact Or.inl ⟨9, Or.inr ⟨rfl, rfl, rfl⟩, by decide⟩
    | true =>
      have := one_iff.1 h2
      exact Or.inr ⟨q.toNat, by omega, by omega, rfl⟩
theorem waR_no {ps : List Pn} {m : Nat} (hm : m = ps.length) {q E : Int} (k : Int) (h : (chkP ps = false ∧ E = 2) ∨ (chkP ps = true ∧ one m q = false ∧ E = 9)) : waR ps q k = (0, E) := by
  unfold waR
  rcases h with ⟨h, rfl⟩ | ⟨h, h2, rfl⟩
  · rw [h]; rfl
  · rw [h, if_pos rfl, if_neg (fun hc => by rw [one_iff.2 ⟨hc.1, by omega⟩] at h2; cases h2)]
theorem moR_no {ps : List Pn} {m : Nat} (hm : m = ps.length) {q E : Int} (h : (chkP ps = false ∧ E = 2) ∨ (chkP ps = true ∧ one m q = false ∧ E = 9)) : moR ps q = ([], E) := by
  unfold moR
  rcases h with ⟨h, rfl⟩ | ⟨h, h2, rfl⟩
  · rw [h]; rfl
  · rw [h, if_pos rfl, if_neg (fun hc => by rw [one_iff.2 ⟨hc.1, by omega⟩] at h2; cases h2)]
theorem deR_no {ps : List Pn} {m : Nat} (hm : m = ps.length) {q E : Int} (T : Int) (h : (chkP ps = false ∧ E = 2) ∨ (chkP ps = true ∧ one m q = false ∧ E = 9)) : deR ps q T = (0, E) := by
  unfold deR
  rcases h with ⟨h, rfl⟩ | ⟨h, h2, rfl⟩
  · rw [h]; rfl
  · rw [h, if_pos rfl, if_neg (fun hc => by rw [one_iff.2 ⟨hc.1, by omega⟩] at h2; cases h2)]
end Go.Proofs.Ytfjeoefnpcgnnaa

namespace Go.Proofs.Ytfjeoefnpcgnnaa
open Go.RowKit Tk De Dl
set_option linter.unusedVariables false

/-- the first k numbers are written, the rest are nothing -/
def FI (cur : Array Value) (F : Nat → Int) (k n : Nat) : Prop := cur = (((List.range k).map fun i => Value.int .i64 (F i)) ++ List.replicate (n - k) (Value.int .i64 0)).toArray
theorem FI.start (F : Nat → Int) (n : Nat) : FI (madeCells #[.int .i64 0] n) F 0 n := by
  unfold FI madeCells
  apply Array.ext_getElem?
  intro i
  simp only [Array.getElem?_map, List.range_zero, List.map_nil, List.nil_append, Nat.sub_zero, List.getElem?_toArray]
  by_cases h : i < n
  · rw [Array.getElem?_eq_getElem (by simpa using h), List.getElem?_eq_getElem (by simpa using h)]
    simp [Nat.mod_one]
  · rw [Array.getElem?_eq_none (by simpa using h), List.getElem?_eq_none (by simpa using h)]
    rfl
theorem FI.size {cur : Array Value} {F : Nat → Int} {k n : Nat} (h : FI cur F k n) (hk : k ≤ n) : cur.size = n := by rw [h]; simp; omega
theorem FI.step {cur : Array Value} {F : Nat → Int} {k n : Nat} (h : FI cur F k n) (hk : k < n) : FI (cur.setIfInBounds k (.int .i64 (F k))) F (k + 1) n := by
  have hs := h.size (by omega)
  unfold FI at h ⊢
  apply Array.ext_getElem?
  intro i
  rw [Array.getElem?_setIfInBounds, h]
  simp only [List.getElem?_toArray, List.size_toArray, List.length_append, List.length_map, List.length_range, List.length_replicate]
  by_cases e : k = i
  · subst e
    rw [if_pos rfl, if_pos (by omega), List.getElem?_append_left (by simp)]
    simp
  · rw [if_neg e]
    by_cases hl : i < k
    · rw [List.getElem?_append_left (by simpa using hl), List.getElem?_append_left (by simp; omega)]
      rw [List.getElem?_map, List.getElem?_map, List.getElem?_range (by omega), List.getElem?_range (by omega)]
    · rw [List.getElem?_append_right (by simp; omega), List.getElem?_append_right (by simp; omega)]
      simp only [List.length_map, List.length_range]
      by_cases hn : i < n
      · rw [List.getElem?_replicate, List.getElem?_replicate, if_pos (by omega), if_pos (by omega)]
      · rw [List.getElem?_replicate, List.getElem?_replicate, if_neg (by omega), if_neg (by omega)]
theorem fi_row {w : World} {g n : Nat} {F : Nat → Int} {cur : Array Value} (h : w.heap[g]? = some (.cells cur 3 (0, 0))) (hF : FI cur F n n) (hn : n ≤ maxLen) : IS w (.slice (some ⟨g, 0, none⟩) n n) ((List.range n).map F) := by
  have hl : ((List.range n).map F).length = n := by simp
  refine ⟨_, _, by rw [hl], by rw [hl]; exact Nat.le_refl _, hn, (fun h => by cases h), fun hp => ⟨g, 0, rfl, fun i hi => ?_⟩⟩
  rw [hl] at hi
  rw [cell_of_row w g (0 + i) _ _ _ h, Nat.zero_add, hF, Nat.sub_self]
  simp [List.getD, hi]
theorem cell_at {w : World} {g i : Nat} {c : Array Value} {t : TypeId} (h : w.heap[g]? = some (.cells c t (0, 0))) (hi : i < c.size) : ∃ u, w.cell? ⟨g, i, none⟩ = some u :=
  ⟨c[i], cell_of_row _ _ i _ _ _ h |>.trans (Array.getElem?_eq_getElem hi)⟩
/-- numbers and an error are answered -/
def MoP (x : List Int × Int) (w : World) (e : Ending) (w' : World) : Prop := ∃ v, e = .returned (.tuple #[v, .int .i64 x.2]) ∧ IS w' v x.1 ∧ Below w.heap.size w w'
/-- they lie in a row that is new -/
def MoQ (x : List Int × Int) (w : World) (e : Ending) (w' : World) : Prop := ∃ v, e = .returned (.tuple #[v, .int .i64 x.2]) ∧ IS w' v x.1 ∧ Below w.heap.size w w' ∧ ∀ b, v.ownBlock = some b → w.heap.size ≤ b
theorem more_start {w V : World} {o : Obj} {n : Nat} (F : Nat → Int)
    (hown : V.ownsRow (w.alloc o).heap.size 3 1 (.slice (some ⟨(w.alloc o).heap.size, 0, none⟩) n n) n (madeCells (Value.int .i64 0).cells (n * 1)).toList)
    (hgrow : (w.alloc o).grownBy V none) : Hid (V.heap[w.heap.size + 1]? = some (.cells (madeCells (Value.int .i64 0).cells (n * 1)) 3 (0, 0))) ∧ Hid (Below (w.heap.size + 1) (w.alloc o) V) ∧ Hid (FI (madeCells (Value.int .i64 0).cells (n * 1)) F 0 n) := by
  have hk := (own_full hown).1
  rw [World.size_alloc] at hk
  refine ⟨hk, (Below.refl _ _).grown hgrow (by rw [World.size_alloc]; exact Nat.le_refl _) (fun k hk => by cases hk), ?_⟩
  unfold Hid
  rw [Nat.mul_one]
  exact FI.start F n
end Go.Proofs.Ytfjeoefnpcgnnaa

namespace Go.Proofs.Ytfjeoefnpcgnnaa
open Go.RowKit Tk De Dl Go.Sort
set_option linter.unusedVariables false

theorem IS.row {w : World} {a : Option Addr} {n cap : Nat} {xs : List Int} (h : IS w (.slice a n cap) xs) : Row w a xs := by
  obtain ⟨a', cap', e, h1, h2, h3, h4⟩ := h
  obtain ⟨rfl, rfl, rfl⟩ : a = a' ∧ n = xs.length ∧ cap = cap' := by simpa using e
  by_cases h0 : 0 < xs.length
  · obtain ⟨b, off, rfl, hc⟩ := h4 h0
    exact Or.inr ⟨b, off, rfl, hc⟩
  · exact Or.inl (List.eq_nil_of_length_eq_zero (by omega))
theorem is_of_own {n : Nat} {zs : List Int} {w' : World} {base : Nat} {v : Value} (hn : n = zs.length) (h : w'.ownsRow base 3 1 v n (zs.map (Value.int .i64))) : IS w' v zs := by
  have hc := h
  subst hn
  rcases h.2 with ⟨rfl, h0⟩ | ⟨g, cap, cur, rfl, hg, hh, hnc, hcm, _⟩
  · obtain rfl : zs = [] := List.eq_nil_of_length_eq_zero h0
    exact IS.nil _
  · refine ⟨some ⟨g, 0, none⟩, cap, rfl, hnc, hcm, (fun h => by cases h), fun _ => ⟨g, 0, rfl, fun i hi => ?_⟩⟩
    have := hc.cells (g := g) rfl i (.int .i64 (zs.getD i 0)) (by simp [List.getElem?_eq_getElem hi, List.getD])
    rw [Addr.add_lit] at this; exact this
theorem lit_add {W : World} {s : Nat} (hs : W.heap.size = s) (l : List Value) (t : TypeId) : ∀ j u, l[j]? = some u → (W.alloc (.cells l.toArray t)).cell? ((⟨s, 0, none⟩ : Addr).add j) = some u := by
  intro j u hj
  subst hs
  rw [Addr.add_lit, cell_of_row _ _ _ _ _ _ (heap_alloc_new W _)]
  simpa using hj
theorem lit_one (W : World) (x : Value) (t : TypeId) : ∀ j u, ([x] : List Value)[j]? = some u → (W.alloc (.cells #[x] t)).cell? ((⟨W.heap.size, 0, none⟩ : Addr).add j) = some u := by
  intro j u hj
  rw [Addr.add_lit, cell_of_row _ _ _ _ _ _ (heap_alloc_new W _)]
  rw [← List.getElem?_toArray] at hj
  rw [Nat.zero_add]
  exact hj
theorem one_one (x : Int) : ∀ u ∈ ([.int .i64 x] : List Value), u.oneCell' = true := by
  intro u hu
  rw [List.mem_singleton.1 hu]
  rfl
theorem own_slice {w : World} {B k : Nat} {v : Value} {xs : List Value} (h : w.ownsRow B 3 1 v k xs) : ∃ a cap, v = .slice a k cap := by
  rcases h.2 with ⟨rfl, rfl⟩ | ⟨g, cap, cur, rfl, _⟩
  · exact ⟨_, _, rfl⟩
  · exact ⟨_, _, rfl⟩
theorem own_below {w w' : World} {B k : Nat} {v : Value} {xs : List Value} (h : w.ownsRow B 3 1 v k xs) (b : Below w.heap.size w w') : w'.ownsRow B 3 1 v k xs := by
  refine h.kept (grown_of_below b) ?_
  cases e : v.ownBlock with
  | none => exact Or.inl rfl
  | some b => exact Or.inr (by simp)
/-- what is more of the first k tasks -/
def msv (F : Nat → Int) (k : Nat) : List Value := (List.range k).map fun i => Value.int .i64 (F i)
theorem msv_snoc (F : Nat → Int) (k : Nat) : msv F (k + 1) = msv F k ++ [.int .i64 (F k)] := by simp [msv, List.range_succ]
end Go.Proofs.Ytfjeoefnpcgnnaa

namespace Go.Proofs.Ytfjeoefnpcgnnaa
open Go.RowKit Tk De Dl
set_option linter.unusedVariables false

/-- a literal's rows -/
def lz (l : List (List Int)) : Nat → Nat → Int := fun i j => (l.getD i []).getD j 0
/-- tasks, one behind the other, in a block -/
def tcells (l : List (List Int)) : List Value := l.flatten.map (Value.int .i64)
theorem tcells_at : ∀ {l : List (List Int)}, (∀ x ∈ l, x.length = 8) → ∀ i, i < l.length → ∀ j, j < 8 → (tcells l)[i * 8 + j]? = some (.int .i64 (lz l i j)) := by
  have key : ∀ (l : List (List Int)), (∀ x ∈ l, x.length = 8) → ∀ i, i < l.length → ∀ j, j < 8 → l.flatten[i * 8 + j]? = some (lz l i j) := by
    intro l
    induction l with
    | nil => intro _ i hi; cases hi
    | cons x r ih =>
      intro hx i hi j hj
      have h8 := hx x (by simp)
      cases i with
      | zero =>
        simp only [List.flatten_cons, Nat.zero_mul, Nat.zero_add]
        rw [List.getElem?_append_left (by omega)]
        simp [lz, List.getElem?_eq_getElem (show j < x.length by omega)]
      | succ i =>
        simp only [List.flatten_cons]
        rw [List.getElem?_append_right (by omega)]
        have := ih (fun y hy => hx y (by simp [hy])) i (by simpa using hi) j hj
        rw [show (i + 1) * 8 + j - x.length = i * 8 + j by omega, this]
        simp [lz]
  intro l hl i hi j hj
  rw [tcells, List.getElem?_map, key l hl i hi j hj]
  rfl
theorem tk_of {W : World} {g cap : Nat} {l : List (List Int)} (hl : ∀ x ∈ l, x.length = 8) (h : ∀ (j : Nat) u, (tcells l)[j]? = some u → W.cell? ⟨g, j, none⟩ = some u) (hc : l.length ≤ cap) (hm : cap ≤ maxLen) :
    TK W (.slice (some ⟨g, 0, none⟩) l.length cap) l.length (lz l) :=
  ⟨_, _, rfl, hc, hm, (fun h => by cases h), fun _ => ⟨_, 0, rfl, fun i hi j hj => by rw [Nat.zero_add]; exact h _ _ (tcells_at hl i hi j hj)⟩⟩
/-- partitions, one behind the other, in a block -/
def pcells : List (Pn × Value) → List Value
  | [] => []
  | (p, v) :: r => .int .i64 p.per :: .int .i64 p.bud :: v :: pcells r
theorem pcells_len : ∀ l : List (Pn × Value), (pcells l).length = l.length * 3
  | [] => rfl
  | (p, v) :: r => by simp only [pcells, List.length_cons, pcells_len r]; omega
theorem pcells_app : ∀ l m : List (Pn × Value), pcells (l ++ m) = pcells l ++ pcells m
  | [], _ => rfl
  | (p, v) :: r, m => by simp only [List.cons_append, pcells, pcells_app r m]
def pr0 : Pn × Value := (p0, .bool false)
theorem pcells_at : ∀ {l : List (Pn × Value)} {i : Nat}, i < l.length → (pcells l)[i * 3]? = some (.int .i64 (l.getD i pr0).1.per) ∧ (pcells l)[i * 3 + 1]? = some (.int .i64 (l.getD i pr0).1.bud) ∧ (pcells l)[i * 3 + 2]? = some (l.getD i pr0).2
  | [], _, h => by cases h
  | (p, v) :: r, 0, _ => ⟨rfl, rfl, rfl⟩
  | (p, v) :: r, i + 1, h => by
    have := pcells_at (l := r) (i := i) (by simpa using h)
    have e : (i + 1) * 3 = i * 3 + 1 + 1 + 1 := by omega
    have e1 : (i + 1) * 3 + 1 = (i * 3 + 1) + 1 + 1 + 1 := by omega
    have e2 : (i + 1) * 3 + 2 = (i * 3 + 2) + 1 + 1 + 1 := by omega
    rw [e1, e2, e]
    simp only [pcells, List.getElem?_cons_succ, List.getD_cons_succ]
    exact this
theorem getD_map1 (l : List (Pn × Value)) (i : Nat) : (l.map (·.1)).getD i p0 = (l.getD i pr0).1 := by
  simp only [List.getD, List.getElem?_map]
  cases l[i]? <;> rfl
theorem ps_of {W : World} {g cap : Nat} {l : List (Pn × Value)} (h : ∀ (j : Nat) u, (pcells l)[j]? = some u → W.cell? ⟨g, j, none⟩ = some u) (hT : ∀ i, i < l.length → TK W (l.getD i pr0).2 (l.getD i pr0).1.n (l.getD i pr0).1.z ∧ (l.getD i pr0).1.n ≤ 2199023255552)
    (hc : l.length ≤ cap) (hm : cap ≤ maxLen) : PS W (.slice (some ⟨g, 0, none⟩) l.length cap) (l.map (·.1)) := by
  have hl : (l.map (·.1)).length = l.length := by simp
  refine ⟨_, _, by rw [hl], by rw [hl]; exact hc, hm, (fun h => by cases h), fun _ => ⟨g, 0, rfl, fun i hi => ?_⟩⟩
  rw [hl] at hi
  obtain ⟨a0, a1, a2⟩ := pcells_at hi
  rw [getD_map1, Nat.zero_add]
  exact ⟨h _ _ a0, h _ _ a1, _, h _ _ a2, (hT i hi).1, (hT i hi).2⟩
/-- the chapter's partitions -/
def exl1 : List (List Int) := [[10, 10, 4, 0, 0, 1, 2, 1]]
def exl2 : List (List Int) := [[20, 12, 3, 0, 2, 1, 1, 2]]
def exP : Pn := ⟨5, 2, 1, lz exl1⟩
def exQ : Pn := ⟨7, 3, 1, lz exl2⟩
def exR : Pn := ⟨4, 1, 0, lz []⟩
def ex3 : List Pn := [exP, exQ, exR]
def ex2 : List Pn := [exP, exR]
theorem three_facts (w W : World) (hW : W = ((w.alloc (.cells (tcells exl1).toArray 129)).alloc (.cells (tcells exl2).toArray 129)).alloc
      (.cells (pcells [(exP, .slice (some ⟨w.heap.size, 0, none⟩) 1 1), (exQ, .slice (some ⟨w.heap.size + 1, 0, none⟩) 1 1), (exR, .slice none 0 0)]).toArray 53)) :
    PS W (.slice (some ⟨w.heap.size + 1 + 1, 0, none⟩) 3 3) ex3 ∧ Below w.heap.size w W := by
  subst hW
  have h1 := heap_alloc_new w (.cells (tcells exl1).toArray 129)
  have h2 := heap_alloc_new (w.alloc (.cells (tcells exl1).toArray 129)) (.cells (tcells exl2).toArray 129)
  have h1' := (Below.heap_alloc _ (.cells (tcells exl2).toArray 129) _ (lt_of_block h1)).trans h1
  obtain ⟨o, ho⟩ : ∃ o : Obj, o = .cells (pcells [(exP, .slice (some ⟨w.heap.size, 0, none⟩) 1 1), (exQ, .slice (some ⟨w.heap.size + 1, 0, none⟩) 1 1), (exR, .slice none 0 0)]).toArray 53 := ⟨_, rfl⟩
  have h3 := heap_alloc_new ((w.alloc (.cells (tcells exl1).toArray 129)).alloc (.cells (tcells exl2).toArray 129)) o
  have h1'' := (Below.heap_alloc _ o _ (lt_of_block h1')).trans h1'
  have h2'' := (Below.heap_alloc _ o _ (lt_of_block h2)).trans h2
  rw [ho] at h3
  rw [← ho]
  simp only [World.size_alloc] at h2'' h3
  refine ⟨ps_of (l := [(exP, .slice (some ⟨w.heap.size, 0, none⟩) 1 1), (exQ, .slice (some ⟨w.heap.size + 1, 0, none⟩) 1 1), (exR, .slice none 0 0)]) (fun j u hj => ?_) (fun i hi => ?_) (Nat.le_refl 3) (by decide), (((Below.refl _ w).alloc (Nat.le_refl _) _).alloc (by simp) _).alloc (by simp; omega) _⟩
  · rw [ho]
    rw [cell_of_row _ _ j _ _ _ h3, List.getElem?_toArray]; exact hj
  · match i, hi with
    | 0, _ => exact ⟨tk_of (l := exl1) (by decide) (fun j u hj => by rw [cell_of_row _ _ j _ _ _ h1'', List.getElem?_toArray]; exact hj) (by decide) (by decide), by show 1 ≤ 2199023255552; decide⟩
    | 1, _ => exact ⟨tk_of (l := exl2) (by decide) (fun j u hj => by rw [cell_of_row _ _ j _ _ _ h2'', List.getElem?_toArray]; exact hj) (by decide) (by decide), by show 1 ≤ 2199023255552; decide⟩
    | 2, _ => exact ⟨TK.nil _ _, by show 0 ≤ 2199023255552; decide⟩
theorem eq_is {w : World} {u v : Value} {xs : List Int} (hu : IS w u xs) (hv : IS w v xs) : Calls Try.prog 11 #[u, v] w (TrueB w) := by
  obtain ⟨a, c, rfl, h1, h2⟩ := hu.slice
  obtain ⟨a', c', rfl, h3, h4⟩ := hv.slice
  exact eq_any a a' c c' xs.length xs w rfl (by unfold maxLen at h2; omega) hu.row hv.row
theorem k1 : waR ex3 0 0 = (14, 0) := by decide +kernel
theorem k2 : waR ex3 1 0 = (10, 0) := by decide +kernel
theorem k3 : waR ex2 0 0 = (0, 0) := by decide +kernel
theorem k4 : deR ex3 1 11 = (11, 0) := by decide +kernel
theorem k5 : deR ex3 1 12 = (0, 0) := by decide +kernel
theorem k6 : deR ex2 0 3 = (3, 0) := by decide +kernel
theorem k7 : moR ex3 0 = ([15], 0) := by decide +kernel
theorem k8 : moR ex3 1 = ([20], 0) := by decide +kernel
theorem k9 : moR ex3 2 = ([], 0) := by decide +kernel
end Go.Proofs.Ytfjeoefnpcgnnaa
