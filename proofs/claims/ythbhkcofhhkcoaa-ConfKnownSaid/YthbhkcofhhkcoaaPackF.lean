/- A reader's step, Num, Text. -/
import Derived.Test.YthbhkcofhhkcoaaPackE
import Derived.Handy
namespace Go.Proofs.Ythbhkcofhhkcoaa
open Go.RowKit Pk
set_option linter.unusedVariables false

theorem RD.other {w : World} {rb : Nat} {xs : List Int} {er : Int} (h : RD w rb xs er) : ∃ v, w.heap[rb]? = some (.cells #[v, .int .i64 er] 81 (0, 0)) ∧ (∀ z, v ≠ .int .u8 z) := by
  obtain ⟨v, h1, ⟨a, cap, rfl, _⟩, _⟩ := h
  exact ⟨_, h1, fun z h => by cases h⟩
/-- the error is stored -/
theorem RD.store {w : World} {rb : Nat} {xs : List Int} {er : Int} (h : RD w rb xs er) (x : Int) : RD (w.setCell ⟨rb, 1, none⟩ (.int .i64 x)) rb xs x := by
  obtain ⟨v, h1, h2, h3⟩ := h
  have hv : ∀ z, v ≠ .int .u8 z := by obtain ⟨a, cap, rfl, _⟩ := h2; exact fun z h => by cases h
  refine ⟨v, heap_set_same h1, h2.cells fun p z hp => ?_, h3⟩
  refine (World.cell?_of_block ?_).trans hp
  refine heap_set_other (fun hb => ?_)
  obtain ⟨b, o, f⟩ := p
  simp only at hb
  subst hb
  simp only [World.cell?, h1] at hp
  split at hp
  · cases hp
  · match o, hp with
    | 0, hp => exact hv z (Option.some.inj hp)
    | 1, hp => cases hp
    | o + 2, hp => simp at hp

/-- what a step does: of a reader, and of the variable that its reading fills -/
def StpP (rb bn : Nat) (t : TypeId) (x : Value) (xs : List Int) (er : Int) (w : World) (e : Ending) (w' : World) : Prop :=
  e = .returned (.tuple #[]) ∧ RD w' rb xs er ∧ w'.heap[bn]? = some (.cells #[x] t (0, 0)) ∧ Only (fun k => k = rb ∨ k = bn) w w'

set_option maxHeartbeats 1000000 in
theorem stepN_any {w : World} {rb bp bm bn : Nat} {xs : List Int} {er most : Int} (h : RD w rb xs er) (h1 : w.heap[bp]? = some (.cells #[.pointer (some ⟨rb, 0, none⟩)] 71 (0, 0))) (h2 : w.heap[bm]? = some (.cells #[.int .i64 most] 3 (0, 0)))
    (h3 : w.heap[bn]? = some (.cells #[.int .i64 0] 3 (0, 0))) (d1 : bp ≠ rb) (d2 : bp ≠ bn) (d3 : bn ≠ rb) :
    Calls Try.prog 59 #[.pointer (some ⟨rb, 0, none⟩), .func (.func 60) #[] #[.pointer (some ⟨bp, 0, none⟩), .pointer (some ⟨bm, 0, none⟩), .pointer (some ⟨bn, 0, none⟩)]] w (StpP rb bn 3 (.int .i64 (rdN xs er most).1) (rdN xs er most).2.1 (rdN xs er most).2.2 w) := by
  have hclo := numClo_any (most := most) h h1 h2 ⟨_, (fun z h => by cases h), h3⟩ d1 d2 d3
  obtain ⟨v, k1, kv⟩ := h.other
  have c5 := RD.cell1 k1
  unfold rdN
  cases he : decide (er ≠ 0) with
  | true =>
    have he' : (er == 0) = false := by have := of_decide_eq_true he; simpa using this
    rw [if_pos (of_decide_eq_true he)]
    have HH := Lib.hid h; have H3 := Lib.hid h3
    clear hclo h k1 h1 h2 h3
    go_enter Try.func59, Try.ntmps59
    go_wp2_with fail
    go_returns
    exact ⟨rfl, HH.out, H3.out, Only.refl _ _⟩
  | false =>
    have he0 : er = 0 := by have := of_decide_eq_false he; simpa using this
    subst he0
    rw [if_neg (by decide)]
    have HC := Lib.hid hclo
    generalize cutN xs most = r at *
    clear hclo h k1 h1 h2 h3 he
    go_enter Try.func59, Try.ntmps59
    go_wp2_with (first | (go_at_call 60; refine HC.out.mono ?_; rintro e w1 ⟨rfl, hr1, hn1, ho1⟩; obtain ⟨v1, k1, kv1⟩ := hr1.other; have f1 : w1.frozen? ⟨rb, 1, none⟩ = false := frozen_of_row w1 rb 1 _ 81 k1; have c1 := RD.cell1 k1; have HR1 := Lib.hid hr1; have HN1 := Lib.hid hn1; have HO1 := Lib.hid ho1; clear hr1 hn1 ho1 k1))
    go_returns
    exact ⟨rfl, HR1.out.store _, (heap_set_other d3).trans HN1.out, HO1.out.setCell (Or.inl (Or.inl rfl)) _⟩
theorem RD.setv {w : World} {rb : Nat} {xs : List Int} {er : Int} (h : RD w rb xs er) {b : Nat} {t : TypeId} {x : Value} (hb : w.heap[b]? = some (.cells #[x] t (0, 0))) (hx : ∀ z, x ≠ .int .u8 z) (hne : rb ≠ b) (y : Value) : RD (w.setCell ⟨b, 0, none⟩ y) rb xs er := by
  obtain ⟨v, h1, h2, h3⟩ := h
  refine ⟨v, (heap_set_other hne).trans h1, h2.cells fun p z hp => ?_, h3⟩
  refine (World.cell?_of_block ?_).trans hp
  refine heap_set_other (fun hb' => ?_)
  obtain ⟨b', o, f⟩ := p
  simp only at hb'
  subst hb'
  simp only [World.cell?, hb] at hp
  split at hp
  · cases hp
  · match o, hp with
    | 0, hp => exact hx z (Option.some.inj hp)
    | o + 1, hp => simp at hp

/-- what a reading answers -/
def NumP (rb : Nat) (x : Value) (xs : List Int) (er : Int) (w : World) (e : Ending) (w' : World) : Prop := e = .returned x ∧ RD w' rb xs er ∧ Only (fun k => k = rb) w w'
set_option maxHeartbeats 1000000 in
theorem num_any {w : World} {rb : Nat} {xs : List Int} {er : Int} (h : RD w rb xs er) (most : Int) : Calls Try.prog 54 #[.pointer (some ⟨rb, 0, none⟩), .int .i64 most] w (NumP rb (.int .i64 (rdN xs er most).1) (rdN xs er most).2.1 (rdN xs er most).2.2 w) := by
  have hl := h.lt
  have h0 : RD (((w.alloc (.cells #[.pointer (some ⟨rb, 0, none⟩)] 71)).alloc (.cells #[.int .i64 most] 3)).alloc (.cells #[.int .i64 0] 3)) rb xs er := h.below (((((Below.refl _ w).alloc (Nat.le_refl _) _).alloc (by simp) _)).alloc (by simp; omega) _)
  have k1 : (((w.alloc (.cells #[.pointer (some ⟨rb, 0, none⟩)] 71)).alloc (.cells #[.int .i64 most] 3)).alloc (.cells #[.int .i64 0] 3)).heap[w.heap.size]? = some (.cells #[.pointer (some ⟨rb, 0, none⟩)] 71 (0, 0)) := by
    rw [Below.heap_alloc _ _ _ (by simp; omega), Below.heap_alloc _ _ _ (by simp)]; exact heap_alloc_new w _
  have k2 : (((w.alloc (.cells #[.pointer (some ⟨rb, 0, none⟩)] 71)).alloc (.cells #[.int .i64 most] 3)).alloc (.cells #[.int .i64 0] 3)).heap[w.heap.size + 1]? = some (.cells #[.int .i64 most] 3 (0, 0)) := by
    rw [Below.heap_alloc _ _ _ (by simp)]
    have := heap_alloc_new (w.alloc (.cells #[.pointer (some ⟨rb, 0, none⟩)] 71)) (.cells #[.int .i64 most] 3)
    simpa using this
  have k3 : (((w.alloc (.cells #[.pointer (some ⟨rb, 0, none⟩)] 71)).alloc (.cells #[.int .i64 most] 3)).alloc (.cells #[.int .i64 0] 3)).heap[w.heap.size + 1 + 1]? = some (.cells #[.int .i64 0] 3 (0, 0)) := by
    have := heap_alloc_new ((w.alloc (.cells #[.pointer (some ⟨rb, 0, none⟩)] 71)).alloc (.cells #[.int .i64 most] 3)) (.cells #[.int .i64 0] 3)
    simpa using this
  have HS := Lib.hid (stepN_any (most := most) h0 k1 k2 k3 (by omega) (by omega) (by omega))
  generalize rdN xs er most = r at *
  clear h0 k1 k2 k3 h
  go_enter Try.func54, Try.ntmps54
  go_wp2_with (first | (go_at_call 59; refine HS.out.mono ?_; rintro e w1 ⟨rfl, hr1, hn1, ho1⟩; have c1 : w1.cell? ⟨w.heap.size + 1 + 1, 0, none⟩ = some (.int .i64 r.1) := cell_of_row w1 _ 0 _ 3 _ hn1; have f1 : w1.frozen? ⟨w.heap.size + 1 + 1, 0, none⟩ = false := frozen_of_row w1 _ 0 _ 3 hn1; have HR1 := Lib.hid hr1; have HO1 := Lib.hid ho1; have HN1 := Lib.hid hn1; clear hr1 hn1 ho1))
  have c2 : (w1.setCell ⟨w.heap.size + 1 + 1, 0, none⟩ (.int .i64 r.1)).cell? ⟨w.heap.size + 1 + 1, 0, none⟩ = some (.int .i64 r.1) := cell_of_row _ _ 0 _ 3 _ (heap_set_same HN1.out)
  refine bodyPost_ret (v := .int .i64 r.1) (by simp [results, Try.results54, go_sem, c2]) rfl ?_
  refine ⟨rfl, HR1.out.setv HN1.out (fun z h => by cases h) (by omega) _, ?_⟩
  exact Only.trans' ((((Only.refl _ w).alloc _).alloc _).alloc _) (HO1.out.setCell (Or.inl (Or.inr rfl)) _) (fun j hj ht => by rcases ht with ht | ht <;> omega)
end Go.Proofs.Ythbhkcofhhkcoaa
