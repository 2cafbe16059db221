/- Bells beside the document's; step. -/
import Derived.Test.YtdfolbnnhglpeaaBellG
import Derived.Test.YtdfolbnnhglpeaaBellI
import Derived.Deep.RegionHeld3
namespace Go.Proofs.Ytdfolbnnhglpeaa
open Go.RowKit Rk
set_option linter.unusedVariables false

/-- bells and the document's, both of the call's own; blocks of X lie apart -/
structure OD (B : Nat) (W w : World) (bb rb hb : Nat) (P1 : List En) (mb : Nat) (P2 : List En) (X : Nat → Prop) : Prop where
  ex : ∃ g mg, BK w bb rb hb g P1 ∧ RB w mb mg P2 ∧ (B ≤ g ∧ B ≤ mg) ∧ ((mb ≠ bb ∧ mb ≠ rb ∧ mb ≠ hb ∧ mb ≠ g) ∧ mg ≠ bb ∧ mg ≠ rb ∧ mg ≠ hb ∧ mg ≠ g) ∧ ∀ k, X k → k < w.heap.size ∧ k ≠ bb ∧ k ≠ rb ∧ k ≠ hb ∧ k ≠ g ∧ k ≠ mb ∧ k ≠ mg
  b : B ≤ bb ∧ B ≤ rb ∧ B ≤ hb ∧ B ≤ mb
  bel : Below B W w
  W2 : Wf P2
section
variable {B : Nat} {W w w' : World} {bb rb hb : Nat} {P1 : List En} {mb : Nat} {P2 : List En} {X : Nat → Prop}
theorem OD.size (h : OD B W w bb rb hb P1 mb P2 X) : B ≤ w.heap.size := by obtain ⟨g, mg, k1, k2, x, _⟩ := h.ex; have := k1.R.lt2; omega
theorem OD.W1 (h : OD B W w bb rb hb P1 mb P2 X) : Wf P1 := by obtain ⟨g, mg, k1, _⟩ := h.ex; exact k1.W
theorem OD.below (h : OD B W w bb rb hb P1 mb P2 X) (b : Below w.heap.size w w') : OD B W w' bb rb hb P1 mb P2 X := by
  have hs := h.size
  have hz := b.size
  obtain ⟨g, mg, k1, k2, x, ap, gd⟩ := h.ex
  exact ⟨⟨g, mg, k1.below b, k2.below b, x, ap, fun k hk => by have := gd k hk; omega⟩, h.b, h.bel.trans (b.mono hs), h.W2⟩
/-- a new block lies apart -/
theorem OD.fresh (h : OD B W w bb rb hb P1 mb P2 X) (b : Below w.heap.size w w') {k : Nat} (h1 : w.heap.size ≤ k) (h2 : k < w'.heap.size) : OD B W w' bb rb hb P1 mb P2 (fun q => q = k) := by
  have hs := h.size
  obtain ⟨g, mg, k1, k2, x, ap, gd⟩ := h.ex
  have l := k1.lt; have l0 := k1.R.lt0; have l1 := k1.R.lt1; have l2 := k1.R.lt2; have l3 := k2.lb; have l4 := k2.lg
  exact ⟨⟨g, mg, k1.below b, k2.below b, x, ap, fun q hq => by subst hq; omega⟩, h.b, h.bel.trans (b.mono hs), h.W2⟩
theorem OD.drop (h : OD B W w bb rb hb P1 mb P2 X) : OD B W w bb rb hb P1 mb P2 (fun _ => False) := by
  obtain ⟨g, mg, k1, k2, x, ap, gd⟩ := h.ex
  exact ⟨⟨g, mg, k1, k2, x, ap, fun k hk => hk.elim⟩, h.b, h.bel, h.W2⟩
theorem OD.set {k i : Nat} {v : Value} (h : OD B W w bb rb hb P1 mb P2 X) (hk : X k) (hB : B ≤ k) : OD B W (w.setCell ⟨k, i, none⟩ v) bb rb hb P1 mb P2 X := by
  obtain ⟨g, mg, k1, k2, x, ap, gd⟩ := h.ex
  have hd := gd k hk
  have hsz : (w.setCell ⟨k, i, none⟩ v).heap.size = w.heap.size := by simp [World.setCell]
  exact ⟨⟨g, mg, k1.keep (heap_set_other (by omega)) (heap_set_other (by omega)) (heap_set_other (by omega)) (heap_set_other (by omega)), k2.keep (by omega) (heap_set_other (by omega)) (heap_set_other (by omega)), x, ap, fun q hq => by have := gd q hq; omega⟩, h.b, h.bel.setCell (by exact hB) _, h.W2⟩
theorem OD.op1 {g mg : Nat} {P' : List En} {v : Value} {e : Ending} (h : OD B W w bb rb hb P1 mb P2 X) (k1 : BK w bb rb hb g P1) (k2 : RB w mb mg P2) (x : B ≤ g ∧ B ≤ mg)
    (ap : (mb ≠ bb ∧ mb ≠ rb ∧ mb ≠ hb ∧ mb ≠ g) ∧ mg ≠ bb ∧ mg ≠ rb ∧ mg ≠ hb ∧ mg ≠ g) (gd : ∀ k, X k → k < w.heap.size ∧ k ≠ bb ∧ k ≠ rb ∧ k ≠ hb ∧ k ≠ g ∧ k ≠ mb ∧ k ≠ mg) (o : BlP v bb rb hb g P' w e w') :
    OD B W w' bb rb hb P' mb P2 X ∧ ∀ k, X k → w'.heap[k]? = w.heap[k]? := by
  obtain ⟨_, ⟨g', k1', hg⟩, ho⟩ := o
  have l3 := k2.lb; have l4 := k2.lg
  have hs := ho.size
  have hbb := h.b
  have hB : B ≤ w.heap.size := by omega
  refine ⟨⟨⟨g', mg, k1', k2.only ho ?_ ?_, by omega, by omega, fun k hk => by have := gd k hk; omega⟩, hbb, h.bel.trans (ho.below hB fun k _ hk => ?_), h.W2⟩, fun k hk => ho.block k (gd k hk).1 ?_⟩
  · rintro (e | e) <;> omega
  · rintro (e | e) <;> omega
  · rcases hk with rfl | rfl
    · exact hbb.2.2.1
    · exact x.1
  · have := gd k hk; rintro (e | e) <;> omega
theorem OD.op2 {g mg : Nat} {P' : List En} {v : Value} {e : Ending} (h : OD B W w bb rb hb P1 mb P2 X) (k1 : BK w bb rb hb g P1) (k2 : RB w mb mg P2) (x : B ≤ g ∧ B ≤ mg)
    (ap : (mb ≠ bb ∧ mb ≠ rb ∧ mb ≠ hb ∧ mb ≠ g) ∧ mg ≠ bb ∧ mg ≠ rb ∧ mg ≠ hb ∧ mg ≠ g) (gd : ∀ k, X k → k < w.heap.size ∧ k ≠ bb ∧ k ≠ rb ∧ k ≠ hb ∧ k ≠ g ∧ k ≠ mb ∧ k ≠ mg) (hW : Wf P') (o : RbP v mb mg P' w e w') :
    OD B W w' bb rb hb P1 mb P' X ∧ ∀ k, X k → w'.heap[k]? = w.heap[k]? := by
  obtain ⟨_, ⟨mg', k2', hg⟩, ho⟩ := o
  have l := k1.lt; have l0 := k1.R.lt0; have l1 := k1.R.lt1; have l2 := k1.R.lt2
  have hs := ho.size
  have hbb := h.b
  have hB : B ≤ w.heap.size := by omega
  refine ⟨⟨⟨g, mg', k1.only ho (by omega) (by omega) (by omega) (by omega), k2', by omega, by omega, fun k hk => by have := gd k hk; omega⟩, hbb, h.bel.trans (ho.below hB fun k _ hk => by rw [hk]; exact hbb.2.2.2), hW⟩, fun k hk => ho.block k (gd k hk).1 (by have := gd k hk; omega)⟩
/-- a call of both, with blocks that lie apart -/
def ODP (v : Value) (B : Nat) (W : World) (bb rb hb : Nat) (P1 : List En) (mb : Nat) (P2 : List En) (X : Nat → Prop) (w : World) (e : Ending) (w' : World) : Prop :=
  e = .returned v ∧ OD B W w' bb rb hb P1 mb P2 X ∧ ∀ k, X k → w'.heap[k]? = w.heap[k]?
theorem od_arm (kind id k : Int) (h : OD B W w bb rb hb P1 mb P2 X) : Calls Try.prog 19 #[.pointer (some ⟨bb, 0, none⟩), .int .i64 kind, .int .i64 id, .int .i64 k] w (ODP (.int .i64 (armE kind id k)) B W bb rb hb (armP kind id k P1) mb P2 X w) := by
  obtain ⟨g, mg, k1, k2, x, ap, gd⟩ := h.ex
  exact (barm_any w bb rb hb g P1 kind id k k1).mono fun e w' o => ⟨o.1, h.op1 k1 k2 x ap gd o⟩
theorem od_rarm (kind id k : Int) (h : OD B W w bb rb hb P1 mb P2 X) : Calls Try.prog 24 #[.pointer (some ⟨mb, 0, none⟩), .int .i64 kind, .int .i64 id, .int .i64 k] w (ODP (.int .i64 (armE kind id k)) B W bb rb hb P1 mb (armP kind id k P2) X w) := by
  obtain ⟨g, mg, k1, k2, x, ap, gd⟩ := h.ex
  exact (rarm_any w mb mg P2 kind id k k2 h.W2).mono fun e w' o => ⟨o.1, h.op2 k1 k2 x ap gd (h.W2.armP kind id k) o⟩
theorem od_can (kind id : Int) (h : OD B W w bb rb hb P1 mb P2 X) : Calls Try.prog 20 #[.pointer (some ⟨bb, 0, none⟩), .int .i64 kind, .int .i64 id] w (ODP (.bool (mp P1 (bk kind id)).isSome) B W bb rb hb (del (bk kind id) P1) mb P2 X w) := by
  obtain ⟨g, mg, k1, k2, x, ap, gd⟩ := h.ex
  exact (bcan_any w bb rb hb g P1 kind id k1).mono fun e w' o => ⟨o.1, h.op1 k1 k2 x ap gd o⟩
theorem od_rcan (kind id : Int) (h : OD B W w bb rb hb P1 mb P2 X) : Calls Try.prog 25 #[.pointer (some ⟨mb, 0, none⟩), .int .i64 kind, .int .i64 id] w (ODP (.bool (mp P2 (bk kind id)).isSome) B W bb rb hb P1 mb (del (bk kind id) P2) X w) := by
  obtain ⟨g, mg, k1, k2, x, ap, gd⟩ := h.ex
  exact (rcan_any w mb mg P2 kind id k2 h.W2).mono fun e w' o => ⟨o.1, h.op2 k1 k2 x ap gd (h.W2.del _) o⟩
/-- a call that only reads both -/
def ODR (v : Value) (B : Nat) (W : World) (bb rb hb : Nat) (P1 : List En) (mb : Nat) (P2 : List En) (X : Nat → Prop) (w : World) (e : Ending) (w' : World) : Prop := e = .returned v ∧ OD B W w' bb rb hb P1 mb P2 X ∧ Below w.heap.size w w'
def nxA : List En → Int
  | [] => 0
  | x :: _ => x.2
def nxB : List En → Bool
  | [] => false
  | _ :: _ => true
theorem od_next (h : OD B W w bb rb hb P1 mb P2 X) : Calls Try.prog 22 #[.pointer (some ⟨bb, 0, none⟩)] w (ODR (.tuple #[.int .i64 (nxA P1), .bool (nxB P1)]) B W bb rb hb P1 mb P2 X w) := by
  obtain ⟨g, mg, k1, k2, x, ap, gd⟩ := h.ex
  cases P1 with
  | nil => exact (bnext0_any w bb rb hb g k1).mono fun e w' o => ⟨o.1, h.below o.2, o.2⟩
  | cons y P => exact (bnext_any w bb rb hb g y P k1).mono fun e w' o => ⟨o.1, h.below o.2, o.2⟩
theorem od_rnext (h : OD B W w bb rb hb P1 mb P2 X) : Calls Try.prog 26 #[.pointer (some ⟨mb, 0, none⟩)] w (ODR (.tuple #[.int .i64 (nxA P2), .bool (nxB P2)]) B W bb rb hb P1 mb P2 X w) := by
  obtain ⟨g, mg, k1, k2, x, ap, gd⟩ := h.ex
  cases P2 with
  | nil => exact (rnext0_any w mb mg k2).mono fun e w' o => ⟨o.1, h.below o.2, o.2⟩
  | cons y P => exact (rnext_any w mb mg y P k2).mono fun e w' o => ⟨o.1, h.below o.2, o.2⟩
theorem od_at (kind id : Int) (h : OD B W w bb rb hb P1 mb P2 X) : Calls Try.prog 12 #[.pointer (some ⟨bb, 0, none⟩), .int .i64 kind, .int .i64 id] w (ODR (.tuple #[.int .i64 (keyN (mp P1) (bk kind id)), .bool (mp P1 (bk kind id)).isSome]) B W bb rb hb P1 mb P2 X w) := by
  obtain ⟨g, mg, k1, k2, x, ap, gd⟩ := h.ex
  exact (bat_any w bb rb hb g P1 kind id k1).mono fun e w' o => ⟨o.1, h.below o.2, o.2⟩
theorem od_rat (kind id : Int) (h : OD B W w bb rb hb P1 mb P2 X) : Calls Try.prog 13 #[.pointer (some ⟨mb, 0, none⟩), .int .i64 kind, .int .i64 id] w (ODR (.tuple #[.int .i64 (keyN (mp P2) (bk kind id)), .bool (mp P2 (bk kind id)).isSome]) B W bb rb hb P1 mb P2 X w) := by
  obtain ⟨g, mg, k1, k2, x, ap, gd⟩ := h.ex
  exact (rat_any w mb mg P2 kind id k2 h.W2).mono fun e w' o => ⟨o.1, h.below o.2, o.2⟩
theorem od_count (h : OD B W w bb rb hb P1 mb P2 X) : Calls Try.prog 10 #[.pointer (some ⟨bb, 0, none⟩)] w (IsN P1.length w) := by
  obtain ⟨g, mg, k1, k2, x, ap, gd⟩ := h.ex
  exact bcount_any w bb rb hb g P1 k1
theorem od_rcount (h : OD B W w bb rb hb P1 mb P2 X) : Calls Try.prog 11 #[.pointer (some ⟨mb, 0, none⟩)] w (IsN P2.length w) := by
  obtain ⟨g, mg, k1, k2, x, ap, gd⟩ := h.ex
  exact rcount_any w mb mg P2 k2
/-- what Due comes to: a row in new memory, which lies apart -/
def ODD (B : Nat) (W : World) (bb rb hb : Nat) (a b : List En) (mb : Nat) (P2 : List En) (w : World) (e : Ending) (w' : World) : Prop :=
  ∃ v, e = .returned v ∧ Hid (BR w' w.heap.size v a) ∧ Hid (OD B W w' bb rb hb b mb P2 (fun q => v.ownBlock = some q))
theorem od_due {a b : List En} {now : Int} (h : OD B W w bb rb hb P1 mb P2 X) (hc : Cut P1 now a b) : Calls Try.prog 15 #[.pointer (some ⟨bb, 0, none⟩), .int .i64 now] w (ODD B W bb rb hb a b mb P2 w) := by
  have hs0 := h.size
  obtain ⟨g, mg, k1, k2, x, ap, gd⟩ := h.ex
  refine (bdue_any w bb rb hb g P1 now k1).mono ?_
  rintro e w' ⟨v, a', b', g1, he, hc', hr, hk, hg, ho⟩
  obtain ⟨rfl, rfl⟩ := hc.unique hc'
  have l3 := k2.lb; have l4 := k2.lg
  have hs := ho.size
  have hbb := h.b
  refine ⟨v, he, hr, ⟨⟨g1, mg, hk, k2.only ho ?_ ?_, by omega, by omega, fun k hkk => ?_⟩, hbb, h.bel.trans (ho.below hs0 fun k _ hk => ?_), h.W2⟩⟩
  · rintro (e | e) <;> omega
  · rintro (e | e) <;> omega
  · have h1 := hr.lt k hkk
    have h2 := hr.apart hk hkk
    omega
  · rcases hk with rfl | rfl
    · exact hbb.2.2.1
    · exact x.1
/-- what the document's Due comes to, beside a row that lies apart -/
def ODE (B : Nat) (W : World) (bb rb hb : Nat) (P1 : List En) (mb : Nat) (a b : List En) (X : Nat → Prop) (w : World) (e : Ending) (w' : World) : Prop :=
  ∃ v, e = .returned v ∧ Hid (BR w' w.heap.size v a) ∧ Hid (OD B W w' bb rb hb P1 mb b X) ∧ Hid (∀ k, X k → w'.heap[k]? = w.heap[k]?)
theorem od_rdue {a b : List En} {now : Int} (h : OD B W w bb rb hb P1 mb P2 X) (hc : Cut P2 now a b) : Calls Try.prog 16 #[.pointer (some ⟨mb, 0, none⟩), .int .i64 now] w (ODE B W bb rb hb P1 mb a b X w) := by
  obtain ⟨g, mg, k1, k2, x, ap, gd⟩ := h.ex
  refine (rdue_any w mb mg P2 now k2 h.W2).mono ?_
  rintro e w' ⟨v, a', b', mg1, he, hc', hr, hk, hg, ho⟩
  obtain ⟨rfl, rfl⟩ := hc.unique hc'
  have hW : Wf b := Wf.drop (l := a) (by rw [← hc.eq]; exact h.W2)
  obtain ⟨h1, h2⟩ := h.op2 k1 k2 x ap gd hW (v := v) (e := e) ⟨he, ⟨mg1, hk, hg⟩, ho⟩
  exact ⟨v, he, hr, h1, h2⟩
theorem BR.rl' {v : Value} {l : List En} (h : BR w B v l) (hw : 0 < w.heap.size) : ∃ mg, RL w mg v l := by
  obtain ⟨mg, h1, _⟩ := h.rl (mg := 0) hw
  exact ⟨mg, h1⟩
theorem same_rows {v1 v2 : Value} {B1 B2 : Nat} {l : List En} (h1 : BR w B1 v1 l) (h2 : BR w B2 v2 l) (hw : 0 < w.heap.size) (hl : l.length ≤ 100000) : Calls Try.prog 14 #[v1, v2] w (TrueB w) := by
  obtain ⟨m1, r1⟩ := h1.rl' hw
  obtain ⟨m2, r2⟩ := h2.rl' hw
  exact same_any w m1 m2 v1 v2 l r1 r2 hl
end
section
variable {B : Nat} {W w w' : World} {bb rb hb : Nat} {P1 : List En} {mb : Nat} {P2 : List En} {x : Nat}
/-- a call of both, with what the box holds -/
def StS (v : Value) (x : Nat) (a0 a1 a2 a3 : Int) (B : Nat) (W : World) (bb rb hb : Nat) (P1 : List En) (mb : Nat) (P2 : List En) (e : Ending) (w' : World) : Prop :=
  e = .returned v ∧ (w'.cell? ⟨x, 1, none⟩ = some (.int .i64 a1) ∧ w'.cell? ⟨x, 2, none⟩ = some (.int .i64 a2) ∧ w'.cell? ⟨x, 3, none⟩ = some (.int .i64 a3)) ∧ Hid (OD B W w' bb rb hb P1 mb P2 (fun q => q = x)) ∧ Hid (w'.heap[x]? = some (.cells #[.int .i64 a0, .int .i64 a1, .int .i64 a2, .int .i64 a3] 29 (0, 0)))
theorem ODP.sts {v : Value} {a0 a1 a2 a3 : Int} {e : Ending} (h : ODP v B W bb rb hb P1 mb P2 (fun q => q = x) w e w') (hx : w.heap[x]? = some (.cells #[.int .i64 a0, .int .i64 a1, .int .i64 a2, .int .i64 a3] 29 (0, 0))) : StS v x a0 a1 a2 a3 B W bb rb hb P1 mb P2 e w' := by
  have e2 := (h.2.2 x rfl).trans hx
  exact ⟨h.1, ⟨(cell_of_row _ _ _ _ _ _ e2).trans rfl, (cell_of_row _ _ _ _ _ _ e2).trans rfl, (cell_of_row _ _ _ _ _ _ e2).trans rfl⟩, h.2.1, e2⟩
end

def StepP (B : Nat) (W : World) (bb rb hb mb : Nat) (e : Ending) (w' : World) : Prop := e = .returned (.bool true) ∧ ∃ P, OD B W w' bb rb hb P mb P (fun _ => False)
end Go.Proofs.Ytdfolbnnhglpeaa
