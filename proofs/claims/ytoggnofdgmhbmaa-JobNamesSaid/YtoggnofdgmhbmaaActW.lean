/- A row of the call's own; the chapter's row: works. -/
import Derived.Test.YtoggnofdgmhbmaaActG
namespace Go.Proofs.Ytoggnofdgmhbmaa
open Go.RowKit Ac
set_option linter.unusedVariables false

theorem as_lit {w : World} {g : Nat} {l : List Ak} (h : w.heap[g]? = some (.cells (acells l).toArray 49 (0, 0))) (hl : l.length ≤ maxLen) : AS w (.slice (some ⟨g, 0, none⟩) l.length l.length) l :=
  ⟨_, _, rfl, Nat.le_refl _, hl, (fun e => by cases e), fun _ => ⟨g, 0, rfl, fun j u hj => by rw [cell_of_row _ _ _ _ _ _ h, Nat.zero_add, List.getElem?_toArray]; exact hj⟩⟩
/-- a row of the call's own, of T's objects: its blocks are B's or above -/
structure OW (T : TypeId) (B : Nat) (W w : World) (rb g : Nat) (l : List Ak) : Prop where
  r : RW T w rb g l
  gd : Gd l
  b1 : B ≤ rb
  b2 : B ≤ g
  lt : g < w.heap.size
  sz : B ≤ W.heap.size
  bel : Below B W w
theorem OW.step {T : TypeId} {B : Nat} {W w w' : World} {rb g : Nat} {l l' : List Ak} (h : OW T B W w rb g l) (hr : RW T w' rb g l') (hg : Gd l') (o : Only (Two rb g) w w') : OW T B W w' rb g l' :=
  ⟨hr, hg, h.b1, h.b2, Nat.lt_of_lt_of_le h.lt o.size, h.sz, h.bel.trans (o.below (Nat.le_trans h.sz h.bel.size) (by rintro k (rfl | rfl); exact h.b1; exact h.b2))⟩
theorem OW.below {T : TypeId} {B : Nat} {W w w' : World} {rb g : Nat} {l : List Ak} (h : OW T B W w rb g l) (q : Below w.heap.size w w') : OW T B W w' rb g l :=
  ⟨h.r.below q, h.gd, h.b1, h.b2, Nat.lt_of_lt_of_le h.lt q.size, h.sz, h.bel.trans (q.mono (Nat.le_trans h.sz h.bel.size))⟩
/-- an answer; the row behind it -/
def OP (T : TypeId) (v : Value) (B : Nat) (W : World) (rb g : Nat) (l : List Ak) (w : World) (e : Ending) (w' : World) : Prop := e = .returned v ∧ OW T B W w' rb g l ∧ Only (Two rb g) w w'
/-- an act in a block -/
def AB (w : World) (b : Nat) (k n : Int) (s : ByteArray) : Prop := w.heap[b]? = some (.cells #[.int .i64 k, .int .i64 n, .string s] 49 (0, 0))
theorem AB.new (w : World) (k n : Int) (s : ByteArray) : AB (w.alloc (.cells #[.int .i64 k, .int .i64 n, .string s] 49)) w.heap.size k n s := heap_alloc_new w _
theorem AB.cells {w : World} {b : Nat} {k n : Int} {s : ByteArray} (h : AB w b k n s) : w.cell? ⟨b, 0, none⟩ = some (.int .i64 k) ∧ w.cell? ⟨b, 0 + 1, none⟩ = some (.int .i64 n) ∧ w.cell? ⟨b, 0 + 2, none⟩ = some (.string s) := ⟨cell_of_row _ _ 0 _ _ _ h, cell_of_row _ _ 1 _ _ _ h, cell_of_row _ _ 2 _ _ _ h⟩
theorem AB.free {w : World} {b : Nat} {k n : Int} {s : ByteArray} (h : AB w b k n s) : w.frozen? ⟨b, 0, none⟩ = false ∧ w.frozen? ⟨b, 0 + 1, none⟩ = false ∧ w.frozen? ⟨b, 0 + 2, none⟩ = false := ⟨frozen_of_row _ _ 0 _ _ h, frozen_of_row _ _ 1 _ _ h, frozen_of_row _ _ 2 _ _ h⟩
theorem AB.below {w w' : World} {b : Nat} {k n : Int} {s : ByteArray} (h : AB w b k n s) (q : Below w.heap.size w w') : AB w' b k n s := (q.block b (lt_of_block h)).trans h
theorem AB.only {w w' : World} {b rb g : Nat} {k n : Int} {s : ByteArray} (h : AB w b k n s) (q : Only (Two rb g) w w') (h1 : b ≠ rb) (h2 : b ≠ g) : AB w' b k n s := (q.block b (lt_of_block h) (by rintro (e | e); exact h1 e; exact h2 e)).trans h
theorem AB.set {w : World} {b : Nat} {k n : Int} {s : ByteArray} (h : AB w b k n s) (k' n' : Int) (s' : ByteArray) : AB (((w.setCell ⟨b, 0, none⟩ (.int .i64 k')).setCell ⟨b, 1, none⟩ (.int .i64 n')).setCell ⟨b, 2, none⟩ (.string s')) b k' n' s' :=
  heap_setCell_same _ _ 2 _ _ (.string s') (heap_setCell_same _ _ 1 _ _ (.int .i64 n') (heap_setCell_same _ _ 0 _ _ (.int .i64 k') h))
/-- a block apart is written -/
theorem set_only (w : World) (b : Nat) (x y z : Value) : Only (fun k => k = b) w (((w.setCell ⟨b, 0, none⟩ x).setCell ⟨b, 1, none⟩ y).setCell ⟨b, 2, none⟩ z) :=
  ((Only.set (S := fun k => k = b) w (b := b) 0 x rfl).trans (Only.set (S := fun k => k = b) _ (b := b) 1 y rfl)).trans (Only.set (S := fun k => k = b) _ (b := b) 2 z rfl)
theorem OW.far {T : TypeId} {B b : Nat} {W w w' : World} {rb g : Nat} {l : List Ak} (h : OW T B W w rb g l) (o : Only (fun k => k = b) w w') (hb : B ≤ b) (h1 : b ≠ rb) (h2 : b ≠ g) : OW T B W w' rb g l :=
  ⟨h.r.only o (fun e => h1 e.symm) (fun e => h2 e.symm), h.gd, h.b1, h.b2, Nat.lt_of_lt_of_le h.lt o.size, h.sz, h.bel.trans (o.below (Nat.le_trans h.sz h.bel.size) (by rintro k rfl; exact hb))⟩
abbrev PO := OW 74
abbrev DO := OW 77
section
variable {B : Nat} {W w : World} {rb g : Nat} {l : List Ak}
theorem po_did (h : PO B W w rb g l) {x : Int} {l' : List Ak} (h1 : didE l = x) (h2 : didL l = l') : Calls Try.prog 35 #[.pointer (some ⟨rb, 0, none⟩)] w (OP 74 (.int .i64 x) B W rb g l' w) := by
  subst h1; subst h2
  exact (did_any h.r h.gd.len).mono fun e w' ⟨e1, e2, e3⟩ => ⟨e1, h.step e2 (good_did h.gd) e3, e3⟩
theorem po_ran (h : PO B W w rb g l) {x : Int} {l' : List Ak} (h1 : ranE l = x) (h2 : ranL l = l') : Calls Try.prog 37 #[.pointer (some ⟨rb, 0, none⟩)] w (OP 74 (.int .i64 x) B W rb g l' w) := by
  subst h1; subst h2
  exact (ran_any h.r h.gd).mono fun e w' ⟨e1, e2, e3⟩ => ⟨e1, h.step e2 (good_ran h.gd) e3, e3⟩
theorem po_next (h : PO B W w rb g l) {k n : Int} {s : ByteArray} {b : Bool} (h1 : nxt l = ⟨k, n, s⟩) (h2 : isn l = b) : Calls Try.prog 46 #[.pointer (some ⟨rb, 0, none⟩)] w (OP 74 (.tuple #[.agg #[.int .i64 k, .int .i64 n, .string s], .bool b]) B W rb g l w) :=
  (next_any h.r).mono fun e w' ⟨e1, e2⟩ => ⟨by rw [e1]; unfold nv av; rw [h1, h2], h.below e2, Only.of_below e2⟩
theorem po_done (h : PO B W w rb g l) {b : Bool} (h1 : l.isEmpty = b) : Calls Try.prog 43 #[.pointer (some ⟨rb, 0, none⟩)] w (IsB b w) := by
  subst h1
  exact done_any h.r
theorem po_left (h : PO B W w rb g l) {x : Int} (h1 : left l = x) : Calls Try.prog 44 #[.pointer (some ⟨rb, 0, none⟩)] w (OP 74 (.int .i64 x) B W rb g l w) := by
  subst h1
  exact (left_any h.r h.gd).mono fun e w' ⟨e1, e2⟩ => ⟨e1, h.below e2, Only.of_below e2⟩
/-- a row, made -/
def MkP (B : Nat) (W : World) (l : List Ak) (w : World) (e : Ending) (w' : World) : Prop := ∃ rb g, e = .returned (.tuple #[.pointer (some ⟨rb, 0, none⟩), .int .i64 0]) ∧ PO B W w' rb g l ∧ w.heap.size ≤ rb ∧ w.heap.size ≤ g ∧ Below w.heap.size w w'
theorem po_new (hb : Below B W w) (hB : B ≤ W.heap.size) {v : Value} (h : AS w v l) (hg : Gd l) : Calls Try.prog 29 #[v] w (MkP B W l w) :=
  (new_yes h hg).mono fun e w' ⟨rb, g, e1, e2, e3, e4, e6, e5⟩ => by
    have hs := Nat.le_trans hB hb.size
    exact ⟨rb, g, e1, ⟨e2, hg, Nat.le_trans hs e3, Nat.le_trans hs e4, e6, hB, hb.trans (e5.mono hs)⟩, e3, e4, e5⟩
end
theorem make_any (w : World) : (Instr.makeSlice 24 (.int .i64 33) (.int .i64 33)).run Try.prog w = .ok (.slice (some ⟨w.heap.size, 0, none⟩) 33 33) (w.alloc (.cells (acells (List.replicate 33 o0)).toArray 49)) := by kernel_rfl
def ch1 : List Ak := [⟨1, 2, e0⟩, ⟨2, 3, e0⟩, ⟨1, 1, e0⟩]
theorem gd_ch1 : Gd ch1 := ⟨by decide, fun x hx => by simp [ch1] at hx; rcases hx with rfl | rfl | rfl <;> exact (show mayB _ = true by decide)⟩
end Go.Proofs.Ytoggnofdgmhbmaa
