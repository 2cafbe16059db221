/- A rank beside the document's: step and same. -/
import Derived.Test.YtoiegoehebkjgaaWalksO
import Derived.Deep.RegionHeld3
namespace Go.Proofs.Ytoiegoehebkjgaa
open Go.RowKit Rk
set_option linter.unusedVariables false

/-- a rank and the document's, both of the call's own; blocks of X lie apart -/
structure OD (B : Nat) (W w : World) (rb hb n1 : Nat) (m1 : Mp) (mb n2 : Nat) (m2 : Mp) (X : Nat → Prop) : Prop where
  ex : ∃ g mg, RK w rb hb g n1 m1 ∧ RD w B mb mg n2 m2 ∧ (B ≤ g ∧ B ≤ mg) ∧ ((mb ≠ rb ∧ mb ≠ hb ∧ mb ≠ g) ∧ mg ≠ rb ∧ mg ≠ hb ∧ mg ≠ g) ∧ ∀ k, X k → k < w.heap.size ∧ k ≠ rb ∧ k ≠ hb ∧ k ≠ g ∧ k ≠ mb ∧ k ≠ mg
  b : B ≤ rb ∧ B ≤ hb ∧ B ≤ mb
  bel : Below B W w
section
variable {B : Nat} {W w w' : World} {rb hb n1 : Nat} {m1 : Mp} {mb n2 : Nat} {m2 : Mp} {X : Nat → Prop}
theorem OD.size (h : OD B W w rb hb n1 m1 mb n2 m2 X) : B ≤ w.heap.size := by obtain ⟨g, mg, k1, k2, x, _⟩ := h.ex; have := k1.lt2; omega
theorem OD.below (h : OD B W w rb hb n1 m1 mb n2 m2 X) (b : Below w.heap.size w w') : OD B W w' rb hb n1 m1 mb n2 m2 X := by
  have hs := h.size
  have hz := b.size
  obtain ⟨g, mg, k1, k2, x, ap, gd⟩ := h.ex
  exact ⟨⟨g, mg, k1.below b, k2.below b, x, ap, fun k hk => by have := gd k hk; omega⟩, h.b, h.bel.trans (b.mono hs)⟩
/-- a new block lies apart -/
theorem OD.fresh (h : OD B W w rb hb n1 m1 mb n2 m2 X) (b : Below w.heap.size w w') {k : Nat} (h1 : w.heap.size ≤ k) (h2 : k < w'.heap.size) : OD B W w' rb hb n1 m1 mb n2 m2 (fun q => q = k) := by
  have hs := h.size
  obtain ⟨g, mg, k1, k2, x, ap, gd⟩ := h.ex
  have l0 := k1.lt0; have l1 := k1.lt1; have l2 := k1.lt2; have l3 := k2.lb; have l4 := k2.lg
  exact ⟨⟨g, mg, k1.below b, k2.below b, x, ap, fun q hq => by subst hq; omega⟩, h.b, h.bel.trans (b.mono hs)⟩
theorem OD.drop (h : OD B W w rb hb n1 m1 mb n2 m2 X) : OD B W w rb hb n1 m1 mb n2 m2 (fun _ => False) := by
  obtain ⟨g, mg, k1, k2, x, ap, gd⟩ := h.ex
  exact ⟨⟨g, mg, k1, k2, x, ap, fun k hk => hk.elim⟩, h.b, h.bel⟩
theorem OD.op1 {g mg n' : Nat} {m' : Mp} {v : Value} {e : Ending} (hb0 : Below B W w) (hbb : B ≤ rb ∧ B ≤ hb ∧ B ≤ mb) (k1 : RK w rb hb g n1 m1) (k2 : RD w B mb mg n2 m2) (x : B ≤ g ∧ B ≤ mg)
    (ap : (mb ≠ rb ∧ mb ≠ hb ∧ mb ≠ g) ∧ mg ≠ rb ∧ mg ≠ hb ∧ mg ≠ g) (gd : ∀ k, X k → k < w.heap.size ∧ k ≠ rb ∧ k ≠ hb ∧ k ≠ g ∧ k ≠ mb ∧ k ≠ mg) (o : OpP v rb hb g n' m' w e w') :
    OD B W w' rb hb n' m' mb n2 m2 X ∧ ∀ k, X k → w'.heap[k]? = w.heap[k]? := by
  obtain ⟨_, ⟨g', k1', hg⟩, ho⟩ := o
  have l3 := k2.lb; have l4 := k2.lg
  have hs := ho.size
  have hB : B ≤ w.heap.size := by omega
  refine ⟨⟨⟨g', mg, k1', k2.only ho ?_ ?_, by omega, by omega, fun k hk => by have := gd k hk; omega⟩, hbb, hb0.trans (ho.below hB fun k _ hk => ?_)⟩, fun k hk => ho.block k (gd k hk).1 ?_⟩
  · rintro (e | e) <;> omega
  · rintro (e | e) <;> omega
  · rcases hk with rfl | rfl
    · exact hbb.2.1
    · exact x.1
  · have := gd k hk; rintro (e | e) <;> omega
theorem OD.op2 {g mg n' : Nat} {m' : Mp} {v : Value} {e : Ending} (hb0 : Below B W w) (hbb : B ≤ rb ∧ B ≤ hb ∧ B ≤ mb) (k1 : RK w rb hb g n1 m1) (k2 : RD w B mb mg n2 m2) (x : B ≤ g ∧ B ≤ mg)
    (ap : (mb ≠ rb ∧ mb ≠ hb ∧ mb ≠ g) ∧ mg ≠ rb ∧ mg ≠ hb ∧ mg ≠ g) (gd : ∀ k, X k → k < w.heap.size ∧ k ≠ rb ∧ k ≠ hb ∧ k ≠ g ∧ k ≠ mb ∧ k ≠ mg) (o : RdP v B mb mg n' m' w e w') :
    OD B W w' rb hb n1 m1 mb n' m' X ∧ ∀ k, X k → w'.heap[k]? = w.heap[k]? := by
  obtain ⟨_, ⟨mg', k2', hg⟩, ho⟩ := o
  have l0 := k1.lt0; have l1 := k1.lt1; have l2 := k1.lt2
  have hs := ho.size
  have hB : B ≤ w.heap.size := by omega
  refine ⟨⟨⟨g, mg', k1.only ho (by omega) (by omega) (by omega), k2', by omega, by omega, fun k hk => by have := gd k hk; omega⟩, hbb, hb0.trans (ho.below hB fun k _ hk => by rw [hk]; exact hbb.2.2)⟩, fun k hk => ho.block k (gd k hk).1 (by have := gd k hk; omega)⟩
/-- a call of both, with a block that lies apart -/
def ODP (v : Value) (B : Nat) (W : World) (rb hb n1 : Nat) (m1 : Mp) (mb n2 : Nat) (m2 : Mp) (X : Nat → Prop) (w : World) (e : Ending) (w' : World) : Prop :=
  e = .returned v ∧ OD B W w' rb hb n1 m1 mb n2 m2 X ∧ ∀ k, X k → w'.heap[k]? = w.heap[k]?
theorem od_put (id k : Int) (h : OD B W w rb hb n1 m1 mb n2 m2 X) (hN : n1 ≤ 80000) : Calls Try.prog 16 #[.pointer (some ⟨rb, 0, none⟩), .int .i64 id, .int .i64 k] w (ODP (.int .i64 (putE m1 id)) B W rb hb (putN m1 id n1) (putM m1 id k) mb n2 m2 X w) := by
  obtain ⟨g, mg, k1, k2, x, ap, gd⟩ := h.ex
  exact (put_any w rb hb g n1 m1 id k k1 (by omega)).mono fun e w' o => ⟨o.1, OD.op1 h.bel h.b k1 k2 x ap gd o⟩
theorem od_rput (id k : Int) (h : OD B W w rb hb n1 m1 mb n2 m2 X) (hN : n2 ≤ 80000) : Calls Try.prog 23 #[.pointer (some ⟨mb, 0, none⟩), .int .i64 id, .int .i64 k] w (ODP (.int .i64 (putE m2 id)) B W rb hb n1 m1 mb (putN m2 id n2) (putM m2 id k) X w) := by
  have hB := h.size
  obtain ⟨g, mg, k1, k2, x, ap, gd⟩ := h.ex
  exact (rputc_any w B mb mg n2 m2 id k k2 hB (by omega)).mono fun e w' o => ⟨o.1, OD.op2 h.bel h.b k1 k2 x ap gd o⟩
theorem od_low (id k : Int) (h : OD B W w rb hb n1 m1 mb n2 m2 X) (hN : n1 ≤ 80000) : Calls Try.prog 17 #[.pointer (some ⟨rb, 0, none⟩), .int .i64 id, .int .i64 k] w (ODP (.int .i64 (lowE m1 id k)) B W rb hb n1 (lowM m1 id k) mb n2 m2 X w) := by
  obtain ⟨g, mg, k1, k2, x, ap, gd⟩ := h.ex
  exact (lowr_any w rb hb g n1 m1 id k k1 (by omega)).mono fun e w' o => ⟨o.1, OD.op1 h.bel h.b k1 k2 x ap gd o⟩
theorem od_rlow (id k : Int) (h : OD B W w rb hb n1 m1 mb n2 m2 X) (hN : n2 ≤ 80000) : Calls Try.prog 24 #[.pointer (some ⟨mb, 0, none⟩), .int .i64 id, .int .i64 k] w (ODP (.int .i64 (lowE m2 id k)) B W rb hb n1 m1 mb n2 (lowM m2 id k) X w) := by
  have hB := h.size
  obtain ⟨g, mg, k1, k2, x, ap, gd⟩ := h.ex
  exact (rlowc_any w B mb mg n2 m2 id k k2 hB (by omega)).mono fun e w' o => ⟨o.1, OD.op2 h.bel h.b k1 k2 x ap gd o⟩
theorem od_rem (id : Int) (h : OD B W w rb hb n1 m1 mb n2 m2 X) (hN : n1 ≤ 80000) : Calls Try.prog 18 #[.pointer (some ⟨rb, 0, none⟩), .int .i64 id] w (ODP (.bool (m1 id).isSome) B W rb hb (remN m1 id n1) (upd m1 id none) mb n2 m2 X w) := by
  obtain ⟨g, mg, k1, k2, x, ap, gd⟩ := h.ex
  exact (rem_any w rb hb g n1 m1 id k1 (by omega)).mono fun e w' o => ⟨o.1, OD.op1 h.bel h.b k1 k2 x ap gd o⟩
theorem od_rrem (id : Int) (h : OD B W w rb hb n1 m1 mb n2 m2 X) (hN : n2 ≤ 80000) : Calls Try.prog 25 #[.pointer (some ⟨mb, 0, none⟩), .int .i64 id] w (ODP (.bool (m2 id).isSome) B W rb hb n1 m1 mb (remN m2 id n2) (upd m2 id none) X w) := by
  have hB := h.size
  obtain ⟨g, mg, k1, k2, x, ap, gd⟩ := h.ex
  exact (rremc_any w B mb mg n2 m2 id k2 hB (by omega)).mono fun e w' o => ⟨o.1, OD.op2 h.bel h.b k1 k2 x ap gd o⟩
/-- what Pop comes to -/
def popA (m : Mp) (n : Nat) (a b : Int) (c : Bool) (n' : Nat) (m' : Mp) : Prop := (n = 0 ∧ a = 0 ∧ b = 0 ∧ c = false ∧ n' = 0 ∧ m' = m) ∨ ∃ x, n = n' + 1 ∧ IsFirst m x ∧ a = x.1 ∧ b = x.2 ∧ c = true ∧ m' = upd m x.1 none
theorem od_pop {a b : Int} {c : Bool} {n' : Nat} {m' : Mp} (h : OD B W w rb hb n1 m1 mb n2 m2 X) (hN : n1 ≤ 80000) (hp : popA m1 n1 a b c n' m') : Calls Try.prog 20 #[.pointer (some ⟨rb, 0, none⟩)] w (ODP (.tuple #[.int .i64 a, .int .i64 b, .bool c]) B W rb hb n' m' mb n2 m2 X w) := by
  obtain ⟨g, mg, k1, k2, x, ap, gd⟩ := h.ex
  rcases hp with ⟨rfl, rfl, rfl, rfl, rfl, rfl⟩ | ⟨y, rfl, hy, rfl, rfl, rfl, rfl⟩
  · exact (pop_none w rb hb g m' k1).mono fun e w' o => ⟨o.1, OD.op1 h.bel h.b k1 k2 x ap gd o⟩
  · exact (pop_some w rb hb g n' m1 y k1 (by omega) hy).mono fun e w' o => ⟨o.1, OD.op1 h.bel h.b k1 k2 x ap gd o⟩
theorem od_rpop {a b : Int} {c : Bool} {n' : Nat} {m' : Mp} (h : OD B W w rb hb n1 m1 mb n2 m2 X) (hN : n2 ≤ 80000) (hp : popA m2 n2 a b c n' m') : Calls Try.prog 26 #[.pointer (some ⟨mb, 0, none⟩)] w (ODP (.tuple #[.int .i64 a, .int .i64 b, .bool c]) B W rb hb n1 m1 mb n' m' X w) := by
  have hB := h.size
  obtain ⟨g, mg, k1, k2, x, ap, gd⟩ := h.ex
  rcases hp with ⟨rfl, rfl, rfl, rfl, rfl, rfl⟩ | ⟨y, rfl, hy, rfl, rfl, rfl, rfl⟩
  · exact (rpop_none w B mb mg m' k2).mono fun e w' o => ⟨o.1, OD.op2 h.bel h.b k1 k2 x ap gd o⟩
  · exact (rpop_some w B mb mg n' m2 y k2 hB (by omega) hy).mono fun e w' o => ⟨o.1, OD.op2 h.bel h.b k1 k2 x ap gd o⟩
theorem OD.pops (h : OD B W w rb hb n1 m1 mb n2 m2 X) : ∃ a b c n' m', popA m1 n1 a b c n' m' ∧ n' ≤ n1 := by
  obtain ⟨g, mg, k1, _⟩ := h.ex
  cases n1 with
  | zero => exact ⟨0, 0, false, 0, m1, Or.inl ⟨rfl, rfl, rfl, rfl, rfl, rfl⟩, Nat.le_refl _⟩
  | succ n => obtain ⟨x, hx⟩ := k1.first (by omega); exact ⟨x.1, x.2, true, n, _, Or.inr ⟨x, rfl, hx, rfl, rfl, rfl, rfl⟩, by omega⟩
end

end Go.Proofs.Ytoiegoehebkjgaa
