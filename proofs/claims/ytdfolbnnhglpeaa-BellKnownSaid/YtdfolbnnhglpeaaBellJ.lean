/- BellOnce. -/
import Derived.Test.YtdfolbnnhglpeaaBellI
import Derived.Deep.RegionHeld3
namespace Go.Proofs.Ytdfolbnnhglpeaa
open Go.RowKit Rk
set_option linter.unusedVariables false

/-- an array of 64 numbers -/
def AK (w : World) (kb : Nat) (ks : Nat → Int) : Prop := ∃ c, w.heap[kb]? = some (.cells c 38 (0, 0)) ∧ c.size = 64 ∧ ∀ i, i < 64 → c[i]? = some (.int .i64 (ks i))
def kup (ks : Nat → Int) (i : Nat) (v : Int) : Nat → Int := fun j => if j = i then v else ks j
section
variable {w w' : World} {kb : Nat} {ks : Nat → Int}
theorem AK.lt (h : AK w kb ks) : kb < w.heap.size := by obtain ⟨c, h1, _⟩ := h; exact lt_of_heap h1
theorem AK.keep (h : AK w kb ks) (e : w'.heap[kb]? = w.heap[kb]?) : AK w' kb ks := by obtain ⟨c, h1, h2⟩ := h; exact ⟨c, e.trans h1, h2⟩
theorem AK.cell (h : AK w kb ks) {i : Nat} (hi : i < 64) : w.cell? ⟨kb, i, none⟩ = some (.int .i64 (ks i)) := by obtain ⟨c, h1, h2, h3⟩ := h; rw [cell_of_row w kb i c 38 _ h1]; exact h3 i hi
theorem AK.free (h : AK w kb ks) (i : Nat) : w.frozen? ⟨kb, i, none⟩ = false := by obtain ⟨c, h1, _⟩ := h; exact frozen_of_row w kb i c 38 h1
theorem AK.set (h : AK w kb ks) {i : Nat} (hi : i < 64) (v : Int) : AK (w.setCell ⟨kb, i, none⟩ (.int .i64 v)) kb (kup ks i v) := by
  obtain ⟨c, h1, h2, h3⟩ := h
  refine ⟨_, heap_set_same h1, by simpa using h2, fun j hj => ?_⟩
  by_cases e : j = i
  · subst e; rw [Array.getElem?_setIfInBounds_self_of_lt (by omega)]; simp [kup]
  · rw [Array.getElem?_setIfInBounds_ne (by omega)]; simp only [kup, if_neg e]; exact h3 j hj
theorem ak_new (w : World) (c : Array Value) (hc : c = Array.replicate 64 (.int .i64 0)) : AK (w.alloc (.cells c 38)) w.heap.size (fun _ => 0) :=
  ⟨c, heap_alloc_new w _, by rw [hc]; simp, fun i hi => by rw [hc, Array.getElem?_replicate, if_pos hi]⟩
/-- the array's block is none of the bells' -/
theorem AK.apart {bb rb hb g : Nat} {P : List En} (h : AK w kb ks) (b : BK w bb rb hb g P) : kb ≠ bb ∧ kb ≠ rb ∧ kb ≠ hb ∧ kb ≠ g := by
  obtain ⟨c0, hg, _⟩ := h
  obtain ⟨f, pl, u, hn, _, _⟩ := b.R.S
  obtain ⟨c, hc, _⟩ := hn.P
  refine ⟨fun e => ?_, fun e => ?_, fun e => ?_, fun e => ?_⟩
  · subst e; have := b.C; rw [hg] at this; simp at this
  · subst e; have := b.R.R; rw [hg] at this; simp at this
  · subst e; rw [hg] at hc; simp at hc
  · subst e
    rcases hn with ⟨c2, _, hm⟩ | ⟨_, e2, _, _⟩
    · obtain ⟨c3, h3, _⟩ := hm.E; rw [hg] at h3; simp at h3
    · subst e2; rw [hg] at hc; simp at hc
theorem AK.row {B k : Nat} {v : Value} {l : List En} (h : AK w kb ks) (r : BR w B v l) (hk : v.ownBlock = some k) : k ≠ kb := by
  obtain ⟨c0, hg, _⟩ := h
  rcases r.2 with ⟨h1, h2⟩ | ⟨g', cap, cur, hv, hB, hg', _⟩
  · rw [h1] at hk; cases hk
  · rw [hv] at hk
    obtain rfl : g' = k := by injection hk
    intro e
    subst e
    rw [hg] at hg'; simp at hg'
end
theorem OB.mono {w0 w1 w2 : World} {bb rb hb : Nat} {P : List En} (hbel : Below w0.heap.size w0 w1) (h : OB w1.heap.size w1 w2 bb rb hb P) : OB w0.heap.size w0 w2 bb rb hb P := by
  have s1 := hbel.size
  obtain ⟨g, k, x⟩ := h.ex
  exact ⟨⟨g, k, by omega⟩, by have := h.b; omega, hbel.trans (h.bel.mono s1)⟩
/-- bells of the call's own, and an array beside them -/
structure OC (B : Nat) (W w : World) (bb rb hb tb : Nat) (P : List En) (ks : Nat → Int) : Prop where
  O : OB B W w bb rb hb P
  T : AK w tb ks
  b : B ≤ tb
section
variable {B : Nat} {W w w' : World} {bb rb hb tb : Nat} {P P' : List En} {ks : Nat → Int} {v : Value} {e : Ending}
theorem OC.below (h : OC B W w bb rb hb tb P ks) (b : Below w.heap.size w w') : OC B W w' bb rb hb tb P ks := ⟨h.O.below b, h.T.keep (b.block _ h.T.lt), h.b⟩
theorem OC.drew (h : OC B W w bb rb hb tb P ks) : OC B W w.drew bb rb hb tb P ks := h.below (Below.refl _ _).drew
theorem OC.set (h : OC B W w bb rb hb tb P ks) {i : Nat} (hi : i < 64) (v : Int) : OC B W (w.setCell ⟨tb, i, none⟩ (.int .i64 v)) bb rb hb tb P (kup ks i v) := by
  obtain ⟨g, k, x⟩ := h.O.ex
  obtain ⟨a1, a2, a3, a4⟩ := h.T.apart k
  exact ⟨⟨⟨g, k.keep (heap_set_other (Ne.symm a1)) (heap_set_other (Ne.symm a2)) (heap_set_other (Ne.symm a3)) (heap_set_other (Ne.symm a4)), x⟩, h.O.b, h.O.bel.setCell h.b _⟩, h.T.set hi v, h.b⟩
theorem OC.op {g : Nat} (h : OC B W w bb rb hb tb P ks) (k : BK w bb rb hb g P) (hg : B ≤ g) (o : BlP v bb rb hb g P' w e w') : OC B W w' bb rb hb tb P' ks := by
  obtain ⟨a1, a2, a3, a4⟩ := h.T.apart k
  exact ⟨h.O.op hg o, h.T.keep (o.2.2.block _ h.T.lt (fun e => e.elim a3 a4)), h.b⟩
def OCP (v : Value) (B : Nat) (W : World) (bb rb hb tb : Nat) (P : List En) (ks : Nat → Int) (e : Ending) (w' : World) : Prop := e = .returned v ∧ OC B W w' bb rb hb tb P ks
theorem oc_arm (kind id k r : Int) (h : OC B W w bb rb hb tb P ks) (e1 : armE kind id k = r) (e2 : armP kind id k P = P') :
    Calls Try.prog 19 #[.pointer (some ⟨bb, 0, none⟩), .int .i64 kind, .int .i64 id, .int .i64 k] w (OCP (.int .i64 r) B W bb rb hb tb P' ks) := by
  subst e1 e2
  obtain ⟨g, h1, h2⟩ := h.O.ex
  exact (barm_any w bb rb hb g P kind id k h1).mono fun e w' o => ⟨o.1, h.op h1 h2 o⟩
theorem oc_can (kind id : Int) (r : Bool) (h : OC B W w bb rb hb tb P ks) (e1 : (mp P (bk kind id)).isSome = r) (e2 : del (bk kind id) P = P') :
    Calls Try.prog 20 #[.pointer (some ⟨bb, 0, none⟩), .int .i64 kind, .int .i64 id] w (OCP (.bool r) B W bb rb hb tb P' ks) := by
  subst e1 e2
  obtain ⟨g, h1, h2⟩ := h.O.ex
  exact (bcan_any w bb rb hb g P kind id h1).mono fun e w' o => ⟨o.1, h.op h1 h2 o⟩
def OCD (B : Nat) (W : World) (bb rb hb tb : Nat) (ks : Nat → Int) (a b : List En) (w : World) (e : Ending) (w' : World) : Prop := ∃ v, e = .returned v ∧ BR w' w.heap.size v a ∧ OC B W w' bb rb hb tb b ks
theorem oc_due {a b : List En} {now : Int} (h : OC B W w bb rb hb tb P ks) (hc : Cut P now a b) : Calls Try.prog 15 #[.pointer (some ⟨bb, 0, none⟩), .int .i64 now] w (OCD B W bb rb hb tb ks a b w) := by
  obtain ⟨g, h1, h2⟩ := h.O.ex
  obtain ⟨a1, a2, a3, a4⟩ := h.T.apart h1
  refine (bdue_any w bb rb hb g P now h1).mono ?_
  rintro e w' ⟨v, a', b', g1, he, hc', hr, hk, hg, ho⟩
  obtain ⟨rfl, rfl⟩ := hc.unique hc'
  have hs := h.O.size
  refine ⟨v, he, hr, ⟨⟨⟨g1, hk, by omega⟩, h.O.b, h.O.bel.trans (ho.below hs fun k _ hk => ?_)⟩, h.T.keep (ho.block _ h.T.lt ?_), h.b⟩⟩
  · rcases hk with rfl | rfl
    · exact h.O.b.2.2
    · exact h2
  · rintro (e | e)
    · exact a3 e
    · exact a4 e
/-- what the array tells of a bell -/
def kv : Option Int → Int
  | none => 0
  | some k => k + 1
/-- the array tells what is armed -/
def Rl (P : List En) (ks : Nat → Int) : Prop := ∀ i : Nat, i < 64 → ks i = kv (mp P i)
theorem Rl.start : Rl [] (fun _ => 0) := fun i _ => rfl
theorem Rl.arm (h : Rl P ks) (hW : Wf P) (i : Nat) (k : Int) : Rl (armed i k P) (kup ks i (k + 1)) := by
  intro j hj
  rw [hW.mp_armed]
  by_cases e : j = i
  · subst e; simp only [kup, upd_same, if_true]; rfl
  · rw [upd_other (by omega)]; simp only [kup, if_neg e]; exact h j hj
theorem Rl.can (h : Rl P ks) (hW : Wf P) (i : Nat) : Rl (del i P) (kup ks i 0) := by
  intro j hj
  rw [hW.mp_del]
  by_cases e : j = i
  · subst e; simp only [kup, upd_same, if_true]; rfl
  · rw [upd_other (by omega)]; simp only [kup, if_neg e]; exact h j hj
theorem Rl.tail {i : Nat} {x : Int} (h : Rl (((i : Int), x) :: P) ks) (hW : Wf (((i : Int), x) :: P)) : Rl P (kup ks i 0) := by
  have := h.can hW i
  rwa [hW.tail.2.2] at this
theorem kv_pos {o : Option Int} (h : ∀ k, o = some k → 0 ≤ k) : decide (0 < kv o) = o.isSome := by
  cases o with
  | none => rfl
  | some k => have := h k rfl; exact decide_eq_true (show 0 < k + 1 by omega)
/-- how many have a number below k -/
def cnt (P : List En) (k : Nat) : Nat := (P.filter (fun x => decide (x.1 < (k : Int)))).length
theorem cnt_step : ∀ {P : List En} (k : Nat), P.Pairwise (fun a b => a.1 ≠ b.1) → cnt P (k + 1) = cnt P k + (if (mp P k).isSome then 1 else 0)
  | [], k, _ => rfl
  | x :: P, k, h => by
    have ih := cnt_step (P := P) k (List.pairwise_cons.1 h).2
    have hx := (List.pairwise_cons.1 h).1
    unfold cnt at ih ⊢
    have hm : mp (x :: P) k = if x.1 = (k : Int) then some x.2 else mp P k := by
      unfold mp
      by_cases e : x.1 = (k : Int)
      · simp [e]
      · simp [e]
    rw [hm, List.filter_cons, List.filter_cons]
    by_cases e : x.1 = (k : Int)
    · have hnone : mp P k = none := by
        unfold mp
        cases hf : P.find? (fun y => y.1 == (k : Int)) with
        | none => rfl
        | some y =>
          have h1 := List.mem_of_find?_eq_some hf
          have h2 := List.find?_some hf
          simp only [beq_iff_eq] at h2
          exact (hx y h1 (by rw [e, h2])).elim
      rw [hnone] at ih
      have f1 : decide (x.1 < ((k + 1 : Nat) : Int)) = true := decide_eq_true (by omega)
      have f2 : decide (x.1 < (k : Int)) = false := decide_eq_false (by omega)
      rw [if_pos f1, if_neg (by rw [f2]; decide), if_pos e]
      simp only [List.length_cons, Option.isSome_some, Option.isSome_none, if_true, Bool.false_eq_true, if_false] at ih ⊢
      omega
    · rw [if_neg e]
      by_cases e2 : x.1 < (k : Int)
      · have f1 : decide (x.1 < ((k + 1 : Nat) : Int)) = true := decide_eq_true (by omega)
        have f2 : decide (x.1 < (k : Int)) = true := decide_eq_true e2
        rw [if_pos f1, if_pos f2]
        simp only [List.length_cons]; omega
      · have f1 : decide (x.1 < ((k + 1 : Nat) : Int)) = false := decide_eq_false (by omega)
        have f2 : decide (x.1 < (k : Int)) = false := decide_eq_false e2
        rw [if_neg (by rw [f1]; decide), if_neg (by rw [f2]; decide)]; omega
theorem cnt_all {P : List En} (h : Wf P) : cnt P 64 = P.length := by
  unfold cnt
  rw [List.filter_eq_self.2 fun x hx => by have := (h.dom x hx).2; simpa using this]
end
theorem Wf.order {P : List En} (h : Wf P) {i j : Nat} (hij : i < j) (hj : j < P.length) : lt (P[i]'(by omega)) P[j] := (List.pairwise_iff_getElem.1 h.ord.1) i j (by omega) hj hij

/-- at the head of a round -/
def RI (W : World) (bb rb hb tb : Nat) (w : World) : Prop := ∃ P ks, OC W.heap.size W w bb rb hb tb P ks ∧ Rl P ks
theorem bring_q (a n : Int) (h : 1 ≤ n) (hn : n ≤ 100000) (w : World) : Calls Try.prog 18 #[.int .i64 a, .int .i64 n] w (fun e w' => e = .returned (.int .i64 (bringN a n)) ∧ w' = w) := (bring_any a n w h hn).mono fun _ _ h => ⟨h.1, h.2.symm⟩
theorem oc_can_cell {B : Nat} {W w : World} {bb rb hb tb : Nat} {P P' : List En} {ks : Nat → Int} {i : Nat} (kind id : Int) (r : Bool) (h : OC B W w bb rb hb tb P ks) (hi : i < 64) (e1 : (mp P (bk kind id)).isSome = r) (e2 : del (bk kind id) P = P') :
    Calls Try.prog 20 #[.pointer (some ⟨bb, 0, none⟩), .int .i64 kind, .int .i64 id] w (fun e w' => e = .returned (.bool r) ∧ w'.cell? ⟨tb, i, none⟩ = some (.int .i64 (ks i)) ∧ Hid (OC B W w' bb rb hb tb P' ks)) :=
  (oc_can kind id r h e1 e2).mono fun e w' o => ⟨o.1, o.2.T.cell hi, o.2⟩

end Go.Proofs.Ytdfolbnnhglpeaa
