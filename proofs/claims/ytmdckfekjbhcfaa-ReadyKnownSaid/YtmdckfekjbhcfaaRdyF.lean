/- A queue of the call's own; the chapter's queue: works. -/
import Derived.Test.YtmdckfekjbhcfaaRdyE
namespace Go.Proofs.Ytmdckfekjbhcfaa
open Go.RowKit Rk Rd Go.Sort
set_option linter.unusedVariables false

/-- a queue whose blocks are all from B on -/
structure OQ (B : Nat) (W w : World) (qb : Nat) (L : List Int) : Prop where
  ex : ∃ rb hb g, QS w qb rb hb g L ∧ B ≤ qb ∧ B ≤ rb ∧ B ≤ hb ∧ B ≤ g
  bel : Below B W w
section
variable {B : Nat} {W w : World} {qb : Nat} {L : List Int}
theorem OQ.size (h : OQ B W w qb L) : B ≤ w.heap.size := by
  obtain ⟨rb, hb, g, h1, h2, _⟩ := h.ex
  have := h1.lt
  omega
theorem OQ.ok (h : OQ B W w qb L) : Gd L := by obtain ⟨rb, hb, g, h1, _⟩ := h.ex; exact h1.ok
theorem OQ.below {w' : World} (h : OQ B W w qb L) (q : Below w.heap.size w w') : OQ B W w' qb L := by
  have hs := h.size
  obtain ⟨rb, hb, g, h1, h2⟩ := h.ex
  exact ⟨⟨rb, hb, g, h1.below q, h2⟩, h.bel.trans (q.mono hs)⟩
/-- an answer; the queue behind it -/
def OqP (B : Nat) (W : World) (qb : Nat) (v : Value) (L : List Int) (e : Ending) (w' : World) : Prop := e = .returned v ∧ OQ B W w' qb L
theorem OQ.op {v : Value} {e : Ending} {w' : World} {rb hb g : Nat} {L' : List Int} (bel : Below B W w) (h1 : QS w qb rb hb g L) (h2 : B ≤ qb ∧ B ≤ rb ∧ B ≤ hb ∧ B ≤ g) (o : QP v qb rb hb g L' w e w') : OqP B W qb v L' e w' := by
  obtain ⟨he, ⟨g', h3, h4⟩, h5⟩ := o
  have hs : B ≤ w.heap.size := by have := h1.lt; omega
  refine ⟨he, ⟨rb, hb, g', h3, h2.1, h2.2.1, h2.2.2.1, by omega⟩, bel.trans (h5.below hs fun k _ hk => ?_)⟩
  rcases hk with rfl | rfl
  · exact h2.2.2.1
  · exact h2.2.2.2
theorem oq_put (h : OQ B W w qb L) (t d : Int) {x : Int} {L' : List Int} (e1 : qE L t d = x) (e2 : qL L t d = L') : Calls Try.prog 10 #[.pointer (some ⟨qb, 0, none⟩), .int .i64 t, .int .i64 d] w (OqP B W qb (.int .i64 x) L') := by
  subst e1; subst e2
  obtain ⟨rb, hb, g, h1, h2⟩ := h.ex
  exact (qput_any h1 t d).mono fun e w' o => OQ.op h.bel h1 h2 o
theorem oq_rem (h : OQ B W w qb L) (t : Int) {x : Bool} {L' : List Int} (e1 : decide (0 ≤ dl L t) = x) (e2 : rmL L t = L') : Calls Try.prog 12 #[.pointer (some ⟨qb, 0, none⟩), .int .i64 t] w (OqP B W qb (.bool x) L') := by
  subst e1; subst e2
  obtain ⟨rb, hb, g, h1, h2⟩ := h.ex
  exact (qrem_any h1 t).mono fun e w' o => OQ.op h.bel h1 h2 o
theorem oq_first (h : OQ B W w qb L) {x : En} {b : Bool} (e1 : fs L = x) (e2 : decide (0 < (srt L).length) = b) : Calls Try.prog 19 #[.pointer (some ⟨qb, 0, none⟩)] w (Fst x.1 x.2 b w) := by
  subst e1; subst e2
  obtain ⟨rb, hb, g, h1, h2⟩ := h.ex
  exact qfirst_any h1
theorem oq_dl (h : OQ B W w qb L) (t : Int) : Calls Try.prog 21 #[.pointer (some ⟨qb, 0, none⟩), .int .i64 t] w (KeyP (dk L t) (decide (0 ≤ dl L t)) w) := by
  obtain ⟨rb, hb, g, h1, h2⟩ := h.ex
  exact qdl_any h1 t
theorem oq_jobs (h : OQ B W w qb L) : Calls Try.prog 20 #[.pointer (some ⟨qb, 0, none⟩)] w (JobsP L w) := by
  obtain ⟨rb, hb, g, h1, h2⟩ := h.ex
  exact qjobs_any h1
theorem oq_late (h : OQ B W w qb L) (now : Int) {xs : List Int} (e : ids (lateL L now) = xs) : Calls Try.prog 15 #[.pointer (some ⟨qb, 0, none⟩), .int .i64 now] w (LateP xs w) := by
  subst e
  obtain ⟨rb, hb, g, h1, h2⟩ := h.ex
  exact qlate_any h1 now
end
theorem oq_new (w : World) {n : Nat} (hn : n ≤ 4) : Calls Try.prog 7 #[.int .i64 n] w (fun e w' => ∃ qb, e = .returned (.tuple #[.pointer (some ⟨qb, 0, none⟩), .int .i64 0]) ∧ OQ w.heap.size w w' qb (noL n)) :=
  (qnew_yes w hn).mono fun e w' ⟨qb, rb, hb, g, he, h1, h2, h3⟩ => ⟨qb, he, ⟨rb, hb, g, h1, h2⟩, h3⟩
theorem lit_is (w : World) (l : List Int) (hl : l.length ≤ maxLen) : IS (w.alloc (.cells (l.map (Value.int .i64)).toArray 3)) (.slice (some ⟨w.heap.size, 0, none⟩) l.length l.length) l :=
  ⟨_, _, rfl, Nat.le_refl _, hl, (fun h => by cases h), fun _ => ⟨_, 0, rfl, fun i hi => (cell_of_row _ _ (0 + i) _ _ _ (heap_alloc_new w _)).trans (by simp [List.getElem?_eq_getElem hi, List.getD])⟩⟩
theorem bel_alloc (w : World) (o : Obj) : Below w.heap.size w (w.alloc o) := (Below.refl _ _).alloc (Nat.le_refl _) _

def L3 : List Int := [-1, -1, -1]
set_option maxRecDepth 100000 in
set_option maxHeartbeats 4000000 in
theorem works_any (w : World) : Calls Try.prog 18 #[] w (TrueB w) := by
  have H0 := Lib.hid (oq_new w (n := 3) (by decide))
  have e0 : noL 3 = [-1, -1, -1] := rfl
  rw [e0] at H0
  clear e0
  go_enter Try.func18, Try.ntmps18
  go_wp2_with fail
  refine H0.out.mono ?_
  rintro e w1 ⟨qb, rfl, h⟩
  have H1 := Lib.hid h
  clear h H0
  go_wp2_with fail
  refine (oq_put H1.out 2 9 (x := 0) (L' := [-1, -1, 9]) (by decide) (by decide)).mono ?_
  rintro e w2 ⟨rfl, h⟩
  have H2 := Lib.hid h
  clear h H1
  go_wp2_with fail
  refine (oq_put H2.out 0 9 (x := 0) (L' := [9, -1, 9]) (by decide) (by decide)).mono ?_
  rintro e w3 ⟨rfl, h⟩
  have H3 := Lib.hid h
  clear h H2
  go_wp2_with fail
  refine (oq_put H3.out 1 4 (x := 0) (L' := [9, 4, 9]) (by decide) (by decide)).mono ?_
  rintro e w4 ⟨rfl, h⟩
  have H4 := Lib.hid h
  clear h H3
  go_wp2_with fail
  refine (oq_jobs H4.out).mono ?_
  rintro e w5 ⟨g, rfl, hnr, hb5⟩
  have e3 : (srt [9, 4, 9]).length = 3 := by decide
  have e4 : ids (srt [9, 4, 9]) = [1, 0, 2] := by decide
  rw [e3, e4] at hnr
  rw [e3]
  have HI := Lib.hid (hnr.is.below (bel_alloc w5 (.cells #[.int .i64 1, .int .i64 0, .int .i64 2] 3)))
  have HJ : Hid (IS (w5.alloc (.cells #[.int .i64 1, .int .i64 0, .int .i64 2] 3)) (.slice (some ⟨w5.heap.size, 0, none⟩) 3 3) [1, 0, 2]) := lit_is w5 [1, 0, 2] (by decide)
  have H5 := Lib.hid ((H4.out.below hb5).below (bel_alloc w5 (.cells #[.int .i64 1, .int .i64 0, .int .i64 2] 3)))
  clear hnr hb5 H4 e3 e4
  go_wp2_with fail
  refine (eqs_any HI.out HJ.out (by decide)).mono ?_
  rintro e w6 ⟨rfl, hb6⟩
  have H6 := Lib.hid (H5.out.below hb6)
  clear hb6 H5 HI HJ
  go_wp2_with fail
  refine (oq_first H6.out (x := (1, 4)) (b := true) (by decide) (by decide)).mono ?_
  rintro e w7 ⟨rfl, hb7⟩
  have H7 := Lib.hid (H6.out.below hb7)
  clear hb7 H6
  go_wp2_with fail
  refine (oq_put H7.out 1 5 (x := 141) (L' := [9, 4, 9]) (by decide) (by decide)).mono ?_
  rintro e w8 ⟨rfl, h⟩
  have H8 := Lib.hid h
  clear h H7
  go_wp2_with fail
  refine (oq_put H8.out 3 5 (x := 9) (L' := [9, 4, 9]) (by decide) (by decide)).mono ?_
  rintro e w9 ⟨rfl, h⟩
  have H9 := Lib.hid h
  clear h H8
  go_wp2_with fail
  refine (oq_rem H9.out 0 (x := true) (L' := [-1, 4, 9]) (by decide) (by decide)).mono ?_
  rintro e w10 ⟨rfl, h⟩
  have H10 := Lib.hid h
  clear h H9
  go_wp2_with fail
  refine (oq_rem H10.out 0 (x := false) (L' := [-1, 4, 9]) (by decide) (by decide)).mono ?_
  rintro e w11 ⟨rfl, h⟩
  have H11 := Lib.hid h
  clear h H10
  go_wp2_with fail
  refine (oq_late H11.out 8 (xs := [1]) (by decide)).mono ?_
  rintro e w12 ⟨g2, c2, rfl, his, hb12⟩
  have HI := Lib.hid (his.below (bel_alloc w12 (.cells #[.int .i64 1] 3)))
  have HJ : Hid (IS (w12.alloc (.cells #[.int .i64 1] 3)) (.slice (some ⟨w12.heap.size, 0, none⟩) 1 1) [1]) := lit_is w12 [1] (by decide)
  have H12 := Lib.hid ((H11.out.below hb12).below (bel_alloc w12 (.cells #[.int .i64 1] 3)))
  clear his hb12 H11
  go_wp2_with fail
  refine (eqs_any HI.out HJ.out (by decide)).mono ?_
  rintro e w13 ⟨rfl, hb13⟩
  have H13 := Lib.hid (H12.out.below hb13)
  clear hb13 H12 HI HJ
  go_wp2_with fail
  refine (oq_late H13.out 9 (xs := [1, 2]) (by decide)).mono ?_
  rintro e w14 ⟨g3, c3, rfl, his, hb14⟩
  have HI := Lib.hid (his.below (bel_alloc w14 (.cells #[.int .i64 1, .int .i64 2] 3)))
  have HJ : Hid (IS (w14.alloc (.cells #[.int .i64 1, .int .i64 2] 3)) (.slice (some ⟨w14.heap.size, 0, none⟩) 2 2) [1, 2]) := lit_is w14 [1, 2] (by decide)
  have H14 := Lib.hid ((H13.out.below hb14).below (bel_alloc w14 (.cells #[.int .i64 1, .int .i64 2] 3)))
  clear his hb14 H13
  go_wp2_with fail
  refine (eqs_any HI.out HJ.out (by decide)).mono ?_
  rintro e w15 ⟨rfl, hb15⟩
  have H15 := Lib.hid (H14.out.below hb15)
  clear hb15 H14 HI HJ
  go_wp2_with fail
  go_ret
  exact ⟨rfl, H15.out.bel⟩
end Go.Proofs.Ytmdckfekjbhcfaa
