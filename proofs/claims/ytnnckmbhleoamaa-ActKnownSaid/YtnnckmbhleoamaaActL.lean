/- Both rows beside each other, apart; acts of the call's own, written over. -/
import Derived.Test.YtnnckmbhleoamaaActW
import Derived.Test.YtnnckmbhleoamaaActO
namespace Go.Proofs.Ytnnckmbhleoamaa
open Go.RowKit Ac
set_option linter.unusedVariables false

/-- a row of acts in a block of the call's own, that may be written -/
def IW (w : World) (a : Option Addr) (g m : Nat) : Prop := 0 < m → a = some ⟨g, 0, none⟩ ∧ ∃ cs, w.heap[g]? = some (.cells cs 33 (0, 0)) ∧ m * 3 ≤ cs.size
theorem NA.iw {w : World} {B : Nat} {a : Option Addr} {n c : Nat} {l : List Ak} (h : NA w B (.slice a n c) l) : ∃ g, B ≤ g ∧ (a = none → g = B) ∧ (g < w.heap.size ∨ l.length = 0) ∧ IW w a g l.length := by
  rcases h.2 with ⟨e, h0⟩ | ⟨g, cap, cur, e, hb, hh, hnc, hcm, hcs, htk⟩
  · exact ⟨B, Nat.le_refl _, fun _ => rfl, Or.inr h0, fun hp => absurd hp (by omega)⟩
  · simp at e
    obtain ⟨rfl, _, rfl⟩ := e
    exact ⟨g, hb, (fun e => by cases e), Or.inl (lt_of_block hh), fun _ => ⟨rfl, cur, hh, by rw [hcs]; exact Nat.mul_le_mul_right _ hnc⟩⟩
theorem IW.below {w w' : World} {a : Option Addr} {g m : Nat} (h : IW w a g m) (q : Below w.heap.size w w') : IW w' a g m := fun hp => by
  obtain ⟨e, cs, h1, h2⟩ := h hp
  exact ⟨e, cs, (q.block g (lt_of_block h1)).trans h1, h2⟩
theorem IW.at {w : World} {a : Option Addr} {g m k : Nat} (h : IW w a g m) (hk : k < m) : a = some ⟨g, 0, none⟩ ∧ (∃ u, w.cell? ⟨g, k * 3, none⟩ = some u) ∧ (∃ u, w.cell? ⟨g, k * 3 + 1, none⟩ = some u) ∧ (∃ u, w.cell? ⟨g, k * 3 + 2, none⟩ = some u) ∧ w.frozen? ⟨g, k * 3, none⟩ = false ∧ w.frozen? ⟨g, k * 3 + 1, none⟩ = false ∧ w.frozen? ⟨g, k * 3 + 2, none⟩ = false := by
  obtain ⟨e, cs, h1, h2⟩ := h (by omega)
  refine ⟨e, ⟨cs[k * 3]'(by omega), ?_⟩, ⟨cs[k * 3 + 1]'(by omega), ?_⟩, ⟨cs[k * 3 + 2]'(by omega), ?_⟩, frozen_of_row _ _ _ _ _ h1, frozen_of_row _ _ _ _ _ h1, frozen_of_row _ _ _ _ _ h1⟩
  · rw [cell_of_row _ _ _ _ _ _ h1, Array.getElem?_eq_getElem]
  · rw [cell_of_row _ _ _ _ _ _ h1, Array.getElem?_eq_getElem]
  · rw [cell_of_row _ _ _ _ _ _ h1, Array.getElem?_eq_getElem]
theorem IW.set {w : World} {a : Option Addr} {g m : Nat} (h : IW w a g m) (k : Nat) (x y z : Value) : IW (((w.setCell ⟨g, k * 3, none⟩ x).setCell ⟨g, k * 3 + 1, none⟩ y).setCell ⟨g, k * 3 + 2, none⟩ z) a g m := fun hp => by
  obtain ⟨e, cs, h1, h2⟩ := h hp
  exact ⟨e, _, heap_setCell_same _ _ _ _ _ z (heap_setCell_same _ _ _ _ _ y (heap_setCell_same _ _ _ _ _ x h1)), by simpa using h2⟩
theorem iw_only (w : World) (g k : Nat) (x y z : Value) : Only (fun j => j = g) w (((w.setCell ⟨g, k * 3, none⟩ x).setCell ⟨g, k * 3 + 1, none⟩ y).setCell ⟨g, k * 3 + 2, none⟩ z) :=
  ((Only.set (S := fun k => k = g) w (b := g) _ x rfl).trans (Only.set (S := fun k => k = g) _ (b := g) _ y rfl)).trans (Only.set (S := fun k => k = g) _ (b := g) _ z rfl)
theorem iw_below {w0 w : World} {B g : Nat} (h : Below B w0 w) (hg : B ≤ g) (k : Nat) (x y z : Value) : Below B w0 (((w.setCell ⟨g, k * 3, none⟩ x).setCell ⟨g, k * 3 + 1, none⟩ y).setCell ⟨g, k * 3 + 2, none⟩ z) :=
  ((h.setCell (p := ⟨g, k * 3, none⟩) hg x).setCell (p := ⟨g, k * 3 + 1, none⟩) hg y).setCell (p := ⟨g, k * 3 + 2, none⟩) hg z

/-- the program's row and the document's, apart -/
structure TX (B : Nat) (W w : World) (rb g mb mg : Nat) (l m : List Ak) : Prop where
  p : PO B W w rb g l
  d : DO B W w mb mg m
  n1 : rb ≠ mb
  n2 : rb ≠ mg
  n3 : g ≠ mb
  n4 : g ≠ mg
section
variable {B : Nat} {W w : World} {rb g mb mg : Nat} {l m : List Ak}
theorem OW.keepTwo {T : TypeId} {w' : World} {x y : Nat} (h : OW T B W w rb g l) (o : Only (Two x y) w w') (hx : B ≤ x) (hy : B ≤ y) (h1 : rb ≠ x) (h2 : rb ≠ y) (h3 : g ≠ x) (h4 : g ≠ y) : OW T B W w' rb g l :=
  ⟨h.r.only o (by rintro (e | e); exact h1 e; exact h2 e) (by rintro (e | e); exact h3 e; exact h4 e), h.gd, h.b1, h.b2, Nat.lt_of_lt_of_le h.lt o.size, h.sz, h.bel.trans (o.below (Nat.le_trans h.sz h.bel.size) (by rintro k (rfl | rfl); exact hx; exact hy))⟩
theorem TX.below {w' : World} (h : TX B W w rb g mb mg l m) (q : Below w.heap.size w w') : TX B W w' rb g mb mg l m := ⟨h.p.below q, h.d.below q, h.n1, h.n2, h.n3, h.n4⟩
theorem TX.far {w' : World} {b : Nat} (h : TX B W w rb g mb mg l m) (o : Only (fun k => k = b) w w') (hb : B ≤ b) (h1 : b ≠ rb) (h2 : b ≠ g) (h3 : b ≠ mb) (h4 : b ≠ mg) : TX B W w' rb g mb mg l m :=
  ⟨h.p.far o hb h1 h2, h.d.far o hb h3 h4, h.n1, h.n2, h.n3, h.n4⟩
theorem TX.bel (h : TX B W w rb g mb mg l m) : Below B W w := h.p.bel
theorem TX.sz (h : TX B W w rb g mb mg l m) : B ≤ w.heap.size := Nat.le_trans h.p.sz h.p.bel.size
theorem TX.ap (h : TX B W w rb g mb mg l m) : w.heap.size ≠ rb ∧ w.heap.size ≠ g ∧ w.heap.size ≠ mb ∧ w.heap.size ≠ mg := by
  have h1 := h.p.r.lt
  have h2 := h.p.lt
  have h3 := h.d.r.lt
  have h4 := h.d.lt
  omega
theorem TX.lts (h : TX B W w rb g mb mg l m) : rb < w.heap.size ∧ g < w.heap.size ∧ mb < w.heap.size ∧ mg < w.heap.size := ⟨h.p.r.lt, h.p.lt, h.d.r.lt, h.d.lt⟩
/-- an answer; both rows behind it -/
def TP (v : Value) (B : Nat) (W : World) (rb g mb mg : Nat) (l m : List Ak) (e : Ending) (w' : World) : Prop := e = .returned v ∧ TX B W w' rb g mb mg l m
theorem tx_did (h : TX B W w rb g mb mg l m) : Calls Try.prog 13 #[.pointer (some ⟨rb, 0, none⟩)] w (TP (.int .i64 (didE l)) B W rb g mb mg (didL l) m) :=
  (po_did h.p rfl rfl).mono fun e w' ⟨e1, e2, e3⟩ => ⟨e1, e2, h.d.keepTwo e3 h.p.b1 h.p.b2 h.n1.symm h.n3.symm h.n2.symm h.n4.symm, h.n1, h.n2, h.n3, h.n4⟩
theorem tx_ran (h : TX B W w rb g mb mg l m) : Calls Try.prog 11 #[.pointer (some ⟨rb, 0, none⟩)] w (TP (.int .i64 (ranE l)) B W rb g mb mg (ranL l) m) :=
  (po_ran h.p rfl rfl).mono fun e w' ⟨e1, e2, e3⟩ => ⟨e1, e2, h.d.keepTwo e3 h.p.b1 h.p.b2 h.n1.symm h.n3.symm h.n2.symm h.n4.symm, h.n1, h.n2, h.n3, h.n4⟩
theorem tx_rdid (h : TX B W w rb g mb mg l m) : Calls Try.prog 14 #[.pointer (some ⟨mb, 0, none⟩)] w (TP (.int .i64 (didE m)) B W rb g mb mg l (didL m)) :=
  (rdid_any h.d.r h.d.gd.len).mono fun e w' ⟨e1, e2, e3⟩ => ⟨e1, h.p.keepTwo e3 h.d.b1 h.d.b2 h.n1 h.n2 h.n3 h.n4, h.d.step e2 (good_did h.d.gd) e3, h.n1, h.n2, h.n3, h.n4⟩
theorem tx_rran (h : TX B W w rb g mb mg l m) : Calls Try.prog 12 #[.pointer (some ⟨mb, 0, none⟩)] w (TP (.int .i64 (ranE m)) B W rb g mb mg l (ranL m)) :=
  (rran_any h.d.r h.d.gd).mono fun e w' ⟨e1, e2, e3⟩ => ⟨e1, h.p.keepTwo e3 h.d.b1 h.d.b2 h.n1 h.n2 h.n3 h.n4, h.d.step e2 (good_ran h.d.gd) e3, h.n1, h.n2, h.n3, h.n4⟩
end
end Go.Proofs.Ytnnckmbhleoamaa
