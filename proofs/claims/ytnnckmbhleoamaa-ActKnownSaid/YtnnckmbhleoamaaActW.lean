/- A row of the call's own; the chapter's row: works. -/
import Derived.Test.YtnnckmbhleoamaaActG
namespace Go.Proofs.Ytnnckmbhleoamaa
open Go.RowKit Ac
set_option linter.unusedVariables false

theorem as_lit {w : World} {g : Nat} {l : List Ak} (h : w.heap[g]? = some (.cells (acells l).toArray 33 (0, 0))) (hl : l.length ≤ maxLen) : AS w (.slice (some ⟨g, 0, none⟩) l.length l.length) l :=
  ⟨_, _, rfl, Nat.le_refl _, hl, (fun e => by cases e), fun _ => ⟨g, 0, rfl, fun j u hj => by rw [cell_of_row _ _ _ _ _ _ h, Nat.zero_add, List.getElem?_toArray]; exact hj⟩⟩
/-- a row of the call's own, of T's objects: its blocks are B's or above -/
structure OW (T : TypeId) (B : Nat) (W w : World) (rb g : Nat) (l : List Ak) : Prop where
  r : RW T w rb g l
  gd : Gd l
  b1 : B ≤ rb
  b2 : B ≤ g
  lt : g < w.heap.size
  sz : B ≤ W.heap.size
  bel : Below B W w
theorem OW.step {T : TypeId} {B : Nat} {W w w' : World} {rb g : Nat} {l l' : List Ak} (h : OW T B W w rb g l) (hr : RW T w' rb g l') (hg : Gd l') (o : Only (Two rb g) w w') : OW T B W w' rb g l' :=
  ⟨hr, hg, h.b1, h.b2, Nat.lt_of_lt_of_le h.lt o.size, h.sz, h.bel.trans (o.below (Nat.le_trans h.sz h.bel.size) (by rintro k (rfl | rfl); exact h.b1; exact h.b2))⟩
theorem OW.below {T : TypeId} {B : Nat} {W w w' : World} {rb g : Nat} {l : List Ak} (h : OW T B W w rb g l) (q : Below w.heap.size w w') : OW T B W w' rb g l :=
  ⟨h.r.below q, h.gd, h.b1, h.b2, Nat.lt_of_lt_of_le h.lt q.size, h.sz, h.bel.trans (q.mono (Nat.le_trans h.sz h.bel.size))⟩
/-- an answer; the row behind it -/
def OP (T : TypeId) (v : Value) (B : Nat) (W : World) (rb g : Nat) (l : List Ak) (w : World) (e : Ending) (w' : World) : Prop := e = .returned v ∧ OW T B W w' rb g l ∧ Only (Two rb g) w w'
/-- an act in a block -/
def AB (w : World) (b : Nat) (k n : Int) (s : ByteArray) : Prop := w.heap[b]? = some (.cells #[.int .i64 k, .int .i64 n, .string s] 33 (0, 0))
theorem AB.new (w : World) (k n : Int) (s : ByteArray) : AB (w.alloc (.cells #[.int .i64 k, .int .i64 n, .string s] 33)) w.heap.size k n s := heap_alloc_new w _
theorem AB.cells {w : World} {b : Nat} {k n : Int} {s : ByteArray} (h : AB w b k n s) : w.cell? ⟨b, 0, none⟩ = some (.int .i64 k) ∧ w.cell? ⟨b, 0 + 1, none⟩ = some (.int .i64 n) ∧ w.cell? ⟨b, 0 + 2, none⟩ = some (.string s) := ⟨cell_of_row _ _ 0 _ _ _ h, cell_of_row _ _ 1 _ _ _ h, cell_of_row _ _ 2 _ _ _ h⟩
theorem AB.free {w : World} {b : Nat} {k n : Int} {s : ByteArray} (h : AB w b k n s) : w.frozen? ⟨b, 0, none⟩ = false ∧ w.frozen? ⟨b, 0 + 1, none⟩ = false ∧ w.frozen? ⟨b, 0 + 2, none⟩ = false := ⟨frozen_of_row _ _ 0 _ _ h, frozen_of_row _ _ 1 _ _ h, frozen_of_row _ _ 2 _ _ h⟩
theorem AB.below {w w' : World} {b : Nat} {k n : Int} {s : ByteArray} (h : AB w b k n s) (q : Below w.heap.size w w') : AB w' b k n s := (q.block b (lt_of_block h)).trans h
theorem AB.only {w w' : World} {b rb g : Nat} {k n : Int} {s : ByteArray} (h : AB w b k n s) (q : Only (Two rb g) w w') (h1 : b ≠ rb) (h2 : b ≠ g) : AB w' b k n s := (q.block b (lt_of_block h) (by rintro (e | e); exact h1 e; exact h2 e)).trans h
theorem AB.set {w : World} {b : Nat} {k n : Int} {s : ByteArray} (h : AB w b k n s) (k' n' : Int) (s' : ByteArray) : AB (((w.setCell ⟨b, 0, none⟩ (.int .i64 k')).setCell ⟨b, 1, none⟩ (.int .i64 n')).setCell ⟨b, 2, none⟩ (.string s')) b k' n' s' :=
  heap_setCell_same _ _ 2 _ _ (.string s') (heap_setCell_same _ _ 1 _ _ (.int .i64 n') (heap_setCell_same _ _ 0 _ _ (.int .i64 k') h))
/-- a block apart is written -/
theorem set_only (w : World) (b : Nat) (x y z : Value) : Only (fun k => k = b) w (((w.setCell ⟨b, 0, none⟩ x).setCell ⟨b, 1, none⟩ y).setCell ⟨b, 2, none⟩ z) :=
  ((Only.set (S := fun k => k = b) w (b := b) 0 x rfl).trans (Only.set (S := fun k => k = b) _ (b := b) 1 y rfl)).trans (Only.set (S := fun k => k = b) _ (b := b) 2 z rfl)
theorem OW.far {T : TypeId} {B b : Nat} {W w w' : World} {rb g : Nat} {l : List Ak} (h : OW T B W w rb g l) (o : Only (fun k => k = b) w w') (hb : B ≤ b) (h1 : b ≠ rb) (h2 : b ≠ g) : OW T B W w' rb g l :=
  ⟨h.r.only o (fun e => h1 e.symm) (fun e => h2 e.symm), h.gd, h.b1, h.b2, Nat.lt_of_lt_of_le h.lt o.size, h.sz, h.bel.trans (o.below (Nat.le_trans h.sz h.bel.size) (by rintro k rfl; exact hb))⟩
abbrev PO := OW 48
abbrev DO := OW 52
section
variable {B : Nat} {W w : World} {rb g : Nat} {l : List Ak}
theorem po_did (h : PO B W w rb g l) {x : Int} {l' : List Ak} (h1 : didE l = x) (h2 : didL l = l') : Calls Try.prog 13 #[.pointer (some ⟨rb, 0, none⟩)] w (OP 48 (.int .i64 x) B W rb g l' w) := by
  subst h1; subst h2
  exact (did_any h.r h.gd.len).mono fun e w' ⟨e1, e2, e3⟩ => ⟨e1, h.step e2 (good_did h.gd) e3, e3⟩
theorem po_ran (h : PO B W w rb g l) {x : Int} {l' : List Ak} (h1 : ranE l = x) (h2 : ranL l = l') : Calls Try.prog 11 #[.pointer (some ⟨rb, 0, none⟩)] w (OP 48 (.int .i64 x) B W rb g l' w) := by
  subst h1; subst h2
  exact (ran_any h.r h.gd).mono fun e w' ⟨e1, e2, e3⟩ => ⟨e1, h.step e2 (good_ran h.gd) e3, e3⟩
theorem po_next (h : PO B W w rb g l) {k n : Int} {s : ByteArray} {b : Bool} (h1 : nxt l = ⟨k, n, s⟩) (h2 : isn l = b) : Calls Try.prog 15 #[.pointer (some ⟨rb, 0, none⟩)] w (OP 48 (.tuple #[.agg #[.int .i64 k, .int .i64 n, .string s], .bool b]) B W rb g l w) :=
  (next_any h.r).mono fun e w' ⟨e1, e2⟩ => ⟨by rw [e1]; unfold nv av; rw [h1, h2], h.below e2, Only.of_below e2⟩
theorem po_done (h : PO B W w rb g l) {b : Bool} (h1 : l.isEmpty = b) : Calls Try.prog 18 #[.pointer (some ⟨rb, 0, none⟩)] w (IsB b w) := by
  subst h1
  exact done_any h.r
theorem po_left (h : PO B W w rb g l) {x : Int} (h1 : left l = x) : Calls Try.prog 20 #[.pointer (some ⟨rb, 0, none⟩)] w (OP 48 (.int .i64 x) B W rb g l w) := by
  subst h1
  exact (left_any h.r h.gd).mono fun e w' ⟨e1, e2⟩ => ⟨e1, h.below e2, Only.of_below e2⟩
/-- a row, made -/
def MkP (B : Nat) (W : World) (l : List Ak) (w : World) (e : Ending) (w' : World) : Prop := ∃ rb g, e = .returned (.tuple #[.pointer (some ⟨rb, 0, none⟩), .int .i64 0]) ∧ PO B W w' rb g l ∧ w.heap.size ≤ rb ∧ w.heap.size ≤ g ∧ Below w.heap.size w w'
theorem po_new (hb : Below B W w) (hB : B ≤ W.heap.size) {v : Value} (h : AS w v l) (hg : Gd l) : Calls Try.prog 8 #[v] w (MkP B W l w) :=
  (new_yes h hg).mono fun e w' ⟨rb, g, e1, e2, e3, e4, e6, e5⟩ => by
    have hs := Nat.le_trans hB hb.size
    exact ⟨rb, g, e1, ⟨e2, hg, Nat.le_trans hs e3, Nat.le_trans hs e4, e6, hB, hb.trans (e5.mono hs)⟩, e3, e4, e5⟩
end
theorem make_any (w : World) : (Instr.makeSlice 22 (.int .i64 33) (.int .i64 33)).run Try.prog w = .ok (.slice (some ⟨w.heap.size, 0, none⟩) 33 33) (w.alloc (.cells (acells (List.replicate 33 o0)).toArray 33)) := by kernel_rfl
def ch1 : List Ak := [⟨1, 2, e0⟩, ⟨2, 3, e0⟩, ⟨1, 1, e0⟩]
theorem gd_ch1 : Gd ch1 := ⟨by decide, fun x hx => by simp [ch1] at hx; rcases hx with rfl | rfl | rfl <;> exact (show mayB _ = true by decide)⟩
set_option maxRecDepth 100000 in
set_option maxHeartbeats 8000000 in
theorem works_any (w : World) : Calls Try.prog 23 #[] w (TrueB w) := by
  have hmk := make_any
  have s1 := Try.eqGuardType33
  have s2 := Try.stoodInHeld33
  have HB0 := Lib.hid (below_al w (.cells #[.int .i64 1, .int .i64 2, .string ⟨#[]⟩, .int .i64 2, .int .i64 3, .string ⟨#[]⟩, .int .i64 1, .int .i64 1, .string ⟨#[]⟩] 33))
  have HS0 : Hid (AS (w.alloc (.cells #[.int .i64 1, .int .i64 2, .string ⟨#[]⟩, .int .i64 2, .int .i64 3, .string ⟨#[]⟩, .int .i64 1, .int .i64 1, .string ⟨#[]⟩] 33)) (.slice (some ⟨w.heap.size, 0, none⟩) 3 3) ch1) := as_lit (l := ch1) (heap_alloc_new w _) (by decide)
  go_enter Try.func23, Try.ntmps23
  go_wp2_with fail
  refine (po_new (B := w.heap.size) (W := w) HB0.out (Nat.le_refl _) HS0.out gd_ch1).mono ?_
  rintro e w1 ⟨rb, g, rfl, hr, _⟩
  have HR := Lib.hid hr
  clear hr HB0 HS0
  go_wp2_with fail
  refine (po_next HR.out (k := 1) (n := 2) (s := ⟨#[]⟩) (b := true) rfl rfl).mono ?_
  rintro e w2 ⟨rfl, hr, _⟩
  have HR2 := Lib.hid (hr.below (below_al w2 (.cells #[.int .i64 1, .int .i64 2, .string ⟨#[]⟩] 33)))
  have HV := Lib.hid (AB.new w2 1 2 ⟨#[]⟩)
  have HNE : Hid (w.heap.size ≤ w2.heap.size ∧ w2.heap.size ≠ rb ∧ w2.heap.size ≠ g) := ⟨hr.bel.size, by have := hr.r.lt; omega, by have := hr.lt; omega⟩
  clear hr HR
  go_wp2_with fail
  refine (po_left HR2.out (x := 3) (by decide)).mono ?_
  rintro e w3 ⟨rfl, hr, ho⟩
  have HR3 := Lib.hid hr
  have HV3 := Lib.hid (HV.out.only ho HNE.out.2.1 HNE.out.2.2)
  clear hr ho HR2 HV
  generalize w2.heap.size = vb at *
  go_wp2_with fail
  refine (po_did HR3.out (x := 250) (l' := ch1) (by decide) rfl).mono ?_
  rintro e w4 ⟨rfl, hr, ho⟩
  have HR4 := Lib.hid hr
  have HV4 := Lib.hid (HV3.out.only ho HNE.out.2.1 HNE.out.2.2)
  clear hr ho HR3 HV3
  go_wp2_with fail
  refine (po_ran HR4.out (x := 0) (l' := [⟨1, 1, e0⟩, ⟨2, 3, e0⟩, ⟨1, 1, e0⟩]) (by decide) rfl).mono ?_
  rintro e w5 ⟨rfl, hr, ho⟩
  have HR5 := Lib.hid hr
  have HV5 := Lib.hid (HV4.out.only ho HNE.out.2.1 HNE.out.2.2)
  clear hr ho HR4 HV4
  go_wp2_with fail
  refine (po_next HR5.out (k := 1) (n := 1) (s := ⟨#[]⟩) (b := true) rfl rfl).mono ?_
  rintro e w6 ⟨rfl, hr, ho⟩
  have hv := HV5.out.only ho HNE.out.2.1 HNE.out.2.2
  obtain ⟨v0, v1, v2⟩ := hv.cells
  obtain ⟨f0, f1, f2⟩ := hv.free
  have HV6 := Lib.hid (hv.set 1 1 ⟨#[]⟩)
  have HR6 := Lib.hid (hr.far (set_only w6 vb (.int .i64 1) (.int .i64 1) (.string ⟨#[]⟩)) HNE.out.1 HNE.out.2.1 HNE.out.2.2)
  clear hv hr ho HR5 HV5
  go_wp2_with fail
  clear v0 v1 v2 f0 f1 f2
  refine (po_ran HR6.out (x := 0) (l' := [⟨2, 3, e0⟩, ⟨1, 1, e0⟩]) (by decide) rfl).mono ?_
  rintro e w7 ⟨rfl, hr, ho⟩
  have HR7 := Lib.hid hr
  have HV7 := Lib.hid (HV6.out.only ho HNE.out.2.1 HNE.out.2.2)
  clear hr ho HR6 HV6
  go_wp2_with fail
  refine (po_next HR7.out (k := 2) (n := 3) (s := ⟨#[]⟩) (b := true) rfl rfl).mono ?_
  rintro e w8 ⟨rfl, hr, ho⟩
  have HR8 := Lib.hid (hr.below (below_al w8 (.cells #[.int .i64 2, .int .i64 3, .string ⟨#[]⟩] 33)))
  obtain ⟨v0, v1, v2⟩ := ((HV7.out.only ho HNE.out.2.1 HNE.out.2.2).below (below_al w8 (.cells #[.int .i64 2, .int .i64 3, .string ⟨#[]⟩] 33))).cells
  obtain ⟨u0, u1, u2⟩ := (AB.new w8 2 3 ⟨#[]⟩).cells
  clear hr ho HR7 HV7
  go_wp2_with fail
  clear v0 v1 v2 u0 u1 u2
  refine (po_ran HR8.out (x := 250) (l' := [⟨2, 3, e0⟩, ⟨1, 1, e0⟩]) (by decide) rfl).mono ?_
  rintro e w9 ⟨rfl, hr, ho⟩
  have HR9 := Lib.hid hr
  clear hr ho HR8
  go_wp2_with fail
  refine (po_did HR9.out (x := 0) (l' := [⟨1, 1, e0⟩]) (by decide) rfl).mono ?_
  rintro e wa ⟨rfl, hr, ho⟩
  have HRa := Lib.hid hr
  clear hr ho HR9
  go_wp2_with fail
  refine (po_left HRa.out (x := 1) (by decide)).mono ?_
  rintro e wb ⟨rfl, hr, ho⟩
  have HRb := Lib.hid hr
  clear hr ho HRa
  go_wp2_with fail
  refine (po_done HRb.out (b := false) rfl).mono ?_
  rintro e wc ⟨rfl, rfl⟩
  have HBb := Lib.hid (HRb.out.bel.alloc HRb.out.bel.size (.cells #[.int .i64 1, .int .i64 0, .string ⟨#[]⟩] 33))
  have HS1 : Hid (AS (wb.alloc (.cells #[.int .i64 1, .int .i64 0, .string ⟨#[]⟩] 33)) (.slice (some ⟨wb.heap.size, 0, none⟩) 1 1) [⟨1, 0, e0⟩]) := as_lit (l := [⟨1, 0, e0⟩]) (heap_alloc_new wb _) (by decide)
  clear HRb
  go_wp2_with fail
  refine (new_no HS1.out (by decide) (fun h => absurd (h ⟨1, 0, e0⟩ (List.mem_cons_self ..)) (not_may (a := 1) (b := 64) (c := 0) rfl (Or.inl (by decide))))).mono ?_
  rintro e wd ⟨rfl, hb⟩
  have HBd := Lib.hid (HBb.out.trans (hb.mono HBb.out.size))
  clear hb HBb HS1
  have HBe := Lib.hid (HBd.out.alloc HBd.out.size (.cells (acells (List.replicate 33 o0)).toArray 33))
  have HS2 : Hid (AS (wd.alloc (.cells (acells (List.replicate 33 o0)).toArray 33)) (.slice (some ⟨wd.heap.size, 0, none⟩) 33 33) (List.replicate 33 o0)) := as_lit (l := List.replicate 33 o0) (heap_alloc_new wd _) (by decide)
  go_wp2_with fail
  refine (new_lim HS2.out (by decide)).mono ?_
  rintro e we ⟨rfl, hb⟩
  have HBf := Lib.hid (HBe.out.trans (hb.mono HBe.out.size))
  clear hb HBe HS2 HBd
  go_wp2_with fail
  refine (po_new (B := w.heap.size) (W := w) HBf.out (Nat.le_refl _) (AS.nil we) (l := []) ⟨by decide, fun x hx => by cases hx⟩).mono ?_
  rintro e wf ⟨nb, ng, rfl, hr, _⟩
  have HN := Lib.hid hr
  clear hr HBf
  go_wp2_with fail
  refine (po_done HN.out (b := true) rfl).mono ?_
  rintro e wg ⟨rfl, rfl⟩
  go_wp2_with fail
  go_ret
  exact ⟨rfl, HN.out.bel⟩
end Go.Proofs.Ytnnckmbhleoamaa
