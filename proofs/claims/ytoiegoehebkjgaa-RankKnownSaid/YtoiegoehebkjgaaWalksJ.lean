/- RankOrder: a rank with two arrays beside it. -/
import Derived.Test.YtoiegoehebkjgaaWalksH
import Derived.Deep.RegionHeld3
namespace Go.Proofs.Ytoiegoehebkjgaa
open Go.RowKit Rk
set_option linter.unusedVariables false

/-- an array of 64 bools -/
def AT (w : World) (tb : Nat) (th : Nat → Bool) : Prop := ∃ c, w.heap[tb]? = some (.cells c 36 (0, 0)) ∧ c.size = 64 ∧ ∀ i, i < 64 → c[i]? = some (.bool (th i))
/-- an array of 64 numbers -/
def AK (w : World) (kb : Nat) (ks : Nat → Int) : Prop := ∃ c, w.heap[kb]? = some (.cells c 37 (0, 0)) ∧ c.size = 64 ∧ ∀ i, i < 64 → c[i]? = some (.int .i64 (ks i))
def bup (th : Nat → Bool) (i : Nat) (v : Bool) : Nat → Bool := fun j => if j = i then v else th j
def kup (ks : Nat → Int) (i : Nat) (v : Int) : Nat → Int := fun j => if j = i then v else ks j
theorem AT.lt {w : World} {tb : Nat} {th : Nat → Bool} (h : AT w tb th) : tb < w.heap.size := by obtain ⟨c, h1, _⟩ := h; exact lt_of_heap h1
theorem AK.lt {w : World} {kb : Nat} {ks : Nat → Int} (h : AK w kb ks) : kb < w.heap.size := by obtain ⟨c, h1, _⟩ := h; exact lt_of_heap h1
theorem AT.keep {w w' : World} {tb : Nat} {th : Nat → Bool} (h : AT w tb th) (e : w'.heap[tb]? = w.heap[tb]?) : AT w' tb th := by obtain ⟨c, h1, h2⟩ := h; exact ⟨c, e.trans h1, h2⟩
theorem AK.keep {w w' : World} {kb : Nat} {ks : Nat → Int} (h : AK w kb ks) (e : w'.heap[kb]? = w.heap[kb]?) : AK w' kb ks := by obtain ⟨c, h1, h2⟩ := h; exact ⟨c, e.trans h1, h2⟩
theorem AT.cell {w : World} {tb : Nat} {th : Nat → Bool} (h : AT w tb th) {i : Nat} (hi : i < 64) : w.cell? ⟨tb, i, none⟩ = some (.bool (th i)) := by obtain ⟨c, h1, h2, h3⟩ := h; rw [cell_of_row w tb i c 36 _ h1]; exact h3 i hi
theorem AK.cell {w : World} {kb : Nat} {ks : Nat → Int} (h : AK w kb ks) {i : Nat} (hi : i < 64) : w.cell? ⟨kb, i, none⟩ = some (.int .i64 (ks i)) := by obtain ⟨c, h1, h2, h3⟩ := h; rw [cell_of_row w kb i c 37 _ h1]; exact h3 i hi
theorem AT.free {w : World} {tb : Nat} {th : Nat → Bool} (h : AT w tb th) (i : Nat) : w.frozen? ⟨tb, i, none⟩ = false := by obtain ⟨c, h1, _⟩ := h; exact frozen_of_row w tb i c 36 h1
theorem AK.free {w : World} {kb : Nat} {ks : Nat → Int} (h : AK w kb ks) (i : Nat) : w.frozen? ⟨kb, i, none⟩ = false := by obtain ⟨c, h1, _⟩ := h; exact frozen_of_row w kb i c 37 h1
theorem AT.set {w : World} {tb : Nat} {th : Nat → Bool} (h : AT w tb th) {i : Nat} (hi : i < 64) (v : Bool) : AT (w.setCell ⟨tb, i, none⟩ (.bool v)) tb (bup th i v) := by
  obtain ⟨c, h1, h2, h3⟩ := h
  refine ⟨_, heap_set_same h1, by simpa using h2, fun j hj => ?_⟩
  by_cases e : j = i
  · subst e; rw [Array.getElem?_setIfInBounds_self_of_lt (by omega)]; simp [bup]
  · rw [Array.getElem?_setIfInBounds_ne (by omega)]; simp only [bup, if_neg e]; exact h3 j hj
theorem AK.set {w : World} {kb : Nat} {ks : Nat → Int} (h : AK w kb ks) {i : Nat} (hi : i < 64) (v : Int) : AK (w.setCell ⟨kb, i, none⟩ (.int .i64 v)) kb (kup ks i v) := by
  obtain ⟨c, h1, h2, h3⟩ := h
  refine ⟨_, heap_set_same h1, by simpa using h2, fun j hj => ?_⟩
  by_cases e : j = i
  · subst e; rw [Array.getElem?_setIfInBounds_self_of_lt (by omega)]; simp [kup]
  · rw [Array.getElem?_setIfInBounds_ne (by omega)]; simp only [kup, if_neg e]; exact h3 j hj
theorem at_new (w : World) (c : Array Value) (o : Obj) (hc : c = Array.replicate 64 (.bool false)) : AT ((w.alloc (.cells c 36)).alloc o) w.heap.size (fun _ => false) :=
  ⟨c, heap_alloc2_old w _ _, by rw [hc]; simp, fun i hi => by rw [hc, Array.getElem?_replicate, if_pos hi]⟩
theorem ak_new (w : World) (c : Array Value) (o : Obj) (hc : c = Array.replicate 64 (.int .i64 0)) : AK ((w.alloc o).alloc (.cells c 37)) (w.heap.size + 1) (fun _ => 0) :=
  ⟨c, heap_alloc2_new w _ _, by rw [hc]; simp, fun i hi => by rw [hc, Array.getElem?_replicate, if_pos hi]⟩

/-- a rank of the call's own, and two arrays beside it -/
structure OA (B : Nat) (W w : World) (rb hb tb kb n : Nat) (m : Mp) (th : Nat → Bool) (ks : Nat → Int) : Prop where
  ex : ∃ g, RK w rb hb g n m ∧ B ≤ g ∧ tb ≠ g ∧ kb ≠ g
  b : B ≤ rb ∧ B ≤ hb ∧ B ≤ tb ∧ B ≤ kb
  ap : tb ≠ rb ∧ tb ≠ hb ∧ kb ≠ rb ∧ kb ≠ hb ∧ tb ≠ kb
  T : AT w tb th
  K : AK w kb ks
  bel : Below B W w
section
variable {B : Nat} {W w w' : World} {rb hb tb kb n : Nat} {m : Mp} {th : Nat → Bool} {ks : Nat → Int}
theorem OA.size (h : OA B W w rb hb tb kb n m th ks) : B ≤ w.heap.size := by have := h.T.lt; have := h.b; omega
theorem OA.below (h : OA B W w rb hb tb kb n m th ks) (b : Below w.heap.size w w') : OA B W w' rb hb tb kb n m th ks := by
  have hs := h.size
  obtain ⟨g, k, x⟩ := h.ex
  exact ⟨⟨g, k.below b, x⟩, h.b, h.ap, h.T.keep (b.block _ h.T.lt), h.K.keep (b.block _ h.K.lt), h.bel.trans (b.mono hs)⟩
theorem OA.op {g n' : Nat} {m' : Mp} {v : Value} {e : Ending} (h : OA B W w rb hb tb kb n m th ks) (k : RK w rb hb g n m) (hg : B ≤ g ∧ tb ≠ g ∧ kb ≠ g) (o : OpP v rb hb g n' m' w e w') : OA B W w' rb hb tb kb n' m' th ks := by
  obtain ⟨_, ⟨g', k', hg'⟩, ho⟩ := o
  have hs := h.size
  have t1 := h.T.lt; have t2 := h.K.lt
  have ap := h.ap
  refine ⟨⟨g', k', by omega, by omega, by omega⟩, h.b, ap, h.T.keep (ho.block _ t1 ?_), h.K.keep (ho.block _ t2 ?_), h.bel.trans (ho.below hs fun k _ hk => ?_)⟩
  · rintro (e | e) <;> omega
  · rintro (e | e) <;> omega
  · rcases hk with rfl | rfl
    · exact h.b.2.1
    · exact hg.1
theorem OA.setT (h : OA B W w rb hb tb kb n m th ks) {i : Nat} (hi : i < 64) (v : Bool) : OA B W (w.setCell ⟨tb, i, none⟩ (.bool v)) rb hb tb kb n m (bup th i v) ks := by
  obtain ⟨g, k, x⟩ := h.ex
  have ap := h.ap
  exact ⟨⟨g, k.keep (heap_set_other (by omega)) (heap_set_other (by omega)) (heap_set_other (by omega)), x⟩, h.b, ap, h.T.set hi v, h.K.keep (heap_set_other (by omega)), h.bel.setCell (by exact h.b.2.2.1) _⟩
theorem OA.setK (h : OA B W w rb hb tb kb n m th ks) {i : Nat} (hi : i < 64) (v : Int) : OA B W (w.setCell ⟨kb, i, none⟩ (.int .i64 v)) rb hb tb kb n m th (kup ks i v) := by
  obtain ⟨g, k, x⟩ := h.ex
  have ap := h.ap
  exact ⟨⟨g, k.keep (heap_set_other (by omega)) (heap_set_other (by omega)) (heap_set_other (by omega)), x⟩, h.b, ap, h.T.keep (heap_set_other (by omega)), h.K.set hi v, h.bel.setCell (by exact h.b.2.2.2) _⟩
theorem oa_start {w0 w1 w2 : World} {c1 c2 : Array Value} (hb1 : Below w0.heap.size w0 w1) (h : Own w1.heap.size w1 w2 rb hb n m) (h1 : c1 = Array.replicate 64 (.bool false)) (h2 : c2 = Array.replicate 64 (.int .i64 0)) :
    OA w0.heap.size w0 ((w2.alloc (.cells c1 36)).alloc (.cells c2 37)) rb hb w2.heap.size (w2.heap.size + 1) n m (fun _ => false) (fun _ => 0) := by
  have s1 := hb1.size
  have s2 := h.bel.size
  have b1 := h.b1
  have b2 := h.b2
  obtain ⟨g, k, x⟩ := h.ex
  have l0 := k.lt0; have l1 := k.lt1; have l2 := k.lt2
  have hbl : Below w2.heap.size w2 ((w2.alloc (.cells c1 36)).alloc (.cells c2 37)) := ((Below.refl _ _).alloc (Nat.le_refl _) _).alloc (by simp) _
  exact ⟨⟨g, k.below hbl, by omega, by omega, by omega⟩, ⟨by omega, by omega, by omega, by omega⟩, ⟨by omega, by omega, by omega, by omega, by omega⟩, at_new w2 c1 _ h1, ak_new w2 c2 _ h2, (hb1.trans (h.bel.mono s1)).trans (hbl.mono (by omega))⟩
def OAP (v : Value) (B : Nat) (W : World) (rb hb tb kb n : Nat) (m : Mp) (th : Nat → Bool) (ks : Nat → Int) (e : Ending) (w' : World) : Prop := e = .returned v ∧ OA B W w' rb hb tb kb n m th ks
theorem oa_put {n' : Nat} {m' : Mp} (id k r : Int) (h : OA B W w rb hb tb kb n m th ks) (hN : n ≤ 100000) (e1 : putE m id = r) (e2 : putN m id n = n') (e3 : putM m id k = m') :
    Calls Try.prog 16 #[.pointer (some ⟨rb, 0, none⟩), .int .i64 id, .int .i64 k] w (OAP (.int .i64 r) B W rb hb tb kb n' m' th ks) := by
  subst e1 e2 e3
  obtain ⟨g, k1, x⟩ := h.ex
  exact (put_any w rb hb g n m id k k1 hN).mono fun e w' o => ⟨o.1, h.op k1 x o⟩
theorem oa_low {m' : Mp} (id k r : Int) (h : OA B W w rb hb tb kb n m th ks) (hN : n ≤ 100000) (e1 : lowE m id k = r) (e3 : lowM m id k = m') :
    Calls Try.prog 17 #[.pointer (some ⟨rb, 0, none⟩), .int .i64 id, .int .i64 k] w (OAP (.int .i64 r) B W rb hb tb kb n m' th ks) := by
  subst e1 e3
  obtain ⟨g, k1, x⟩ := h.ex
  exact (lowr_any w rb hb g n m id k k1 hN).mono fun e w' o => ⟨o.1, h.op k1 x o⟩
theorem oa_rem {n' : Nat} (id : Int) (r : Bool) (h : OA B W w rb hb tb kb n m th ks) (hN : n ≤ 100000) (e1 : (m id).isSome = r) (e2 : remN m id n = n') :
    Calls Try.prog 18 #[.pointer (some ⟨rb, 0, none⟩), .int .i64 id] w (OAP (.bool r) B W rb hb tb kb n' (upd m id none) th ks) := by
  subst e1 e2
  obtain ⟨g, k1, x⟩ := h.ex
  exact (rem_any w rb hb g n m id k1 hN).mono fun e w' o => ⟨o.1, h.op k1 x o⟩
theorem oa_pop (x : En) (h : OA B W w rb hb tb kb (n + 1) m th ks) (hN : n ≤ 100000) (hx : IsFirst m x) :
    Calls Try.prog 20 #[.pointer (some ⟨rb, 0, none⟩)] w (OAP (.tuple #[.int .i64 x.1, .int .i64 x.2, .bool true]) B W rb hb tb kb n (upd m x.1 none) th ks) := by
  obtain ⟨g, k1, y⟩ := h.ex
  exact (pop_some w rb hb g n m x k1 hN hx).mono fun e w' o => ⟨o.1, h.op k1 y o⟩
theorem oa_pop0 (h : OA B W w rb hb tb kb 0 m th ks) :
    Calls Try.prog 20 #[.pointer (some ⟨rb, 0, none⟩)] w (OAP (.tuple #[.int .i64 0, .int .i64 0, .bool false]) B W rb hb tb kb 0 m th ks) := by
  obtain ⟨g, k1, y⟩ := h.ex
  exact (pop_none w rb hb g m k1).mono fun e w' o => ⟨o.1, h.op k1 y o⟩
theorem oa_len (h : OA B W w rb hb tb kb n m th ks) : Calls Try.prog 19 #[.pointer (some ⟨rb, 0, none⟩)] w (IsN n w) := by
  obtain ⟨g, k1, y⟩ := h.ex
  exact len_any w rb hb g n m k1
/-- the arrays tell what is in the rank -/
def Rl (m : Mp) (th : Nat → Bool) (ks : Nat → Int) : Prop := ∀ i : Nat, i < 64 → th i = (m i).isSome ∧ ∀ k, m i = some k → ks i = k
theorem Rl.start : Rl (fun _ => none) (fun _ => false) (fun _ => 0) := fun i _ => ⟨rfl, fun k h => by cases h⟩
theorem Rl.put (h : Rl m th ks) {i : Nat} (hi : i < 64) (k : Int) : Rl (upd m i (some k)) (bup th i true) (kup ks i k) := by
  intro j hj
  by_cases e : j = i
  · subst e
    simp only [bup, kup, upd_same, if_true]
    exact ⟨rfl, fun k' h => by injection h⟩
  · rw [upd_other (by omega)]
    simp only [bup, kup, if_neg e]
    exact h j hj
theorem Rl.low (h : Rl m th ks) {i : Nat} (hi : i < 64) (k : Int) {k0 : Int} (hm : m i = some k0) : Rl (upd m i (some k)) th (kup ks i k) := by
  intro j hj
  by_cases e : j = i
  · subst e
    simp only [kup, upd_same, if_true]
    exact ⟨by rw [(h j hj).1, hm]; rfl, fun k' h => by injection h⟩
  · rw [upd_other (by omega)]
    simp only [kup, if_neg e]
    exact h j hj
theorem Rl.rem (h : Rl m th ks) {i : Nat} : Rl (upd m i none) (bup th i false) ks := by
  intro j hj
  by_cases e : j = i
  · subst e
    simp only [bup, upd_same, if_true]
    exact ⟨rfl, fun k' h => by cases h⟩
  · rw [upd_other (by omega)]
    simp only [bup, if_neg e]
    exact h j hj
theorem OA.dom (h : OA B W w rb hb tb kb n m th ks) {id k : Int} (hm : m id = some k) : 0 ≤ id ∧ id < 64 := by
  obtain ⟨g, k1, _⟩ := h.ex
  obtain ⟨f, pl, v, _, r, _⟩ := k1.S
  have := r.has id k hm
  exact ⟨this.1, this.2.1⟩
theorem OA.posn (h : OA B W w rb hb tb kb n m th ks) {id k : Int} (hm : m id = some k) : 0 < n := by
  obtain ⟨g, k1, _⟩ := h.ex
  obtain ⟨f, pl, v, _, r, _⟩ := k1.S
  exact r.pos hm
theorem OA.first (h : OA B W w rb hb tb kb n m th ks) (hn : 0 < n) : ∃ x, IsFirst m x := by
  obtain ⟨g, k1, _⟩ := h.ex
  exact k1.first hn
end
/-- what was popped last is ahead of all that are left -/
def Behind (m : Mp) (last before : Int) : Prop := ∀ id k, m id = some k → lt (before, last) (id, k)
theorem Behind.next {m : Mp} {x : En} (hx : IsFirst m x) : Behind (upd m x.1 none) x.2 x.1 := by
  intro id k h
  have hne : id ≠ x.1 := fun e => by rw [e, upd_same] at h; cases h
  rw [upd_other hne] at h
  exact lt_of_le_ne (hx.2 id k h) (fun e => hne (congrArg Prod.fst e).symm)

end Go.Proofs.Ytoiegoehebkjgaa
