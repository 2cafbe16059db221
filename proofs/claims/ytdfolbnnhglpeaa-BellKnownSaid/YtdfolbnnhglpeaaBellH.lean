/- Bells of the call's own; works: the chapter's bells. -/
import Derived.Test.YtdfolbnnhglpeaaBellE
namespace Go.Proofs.Ytdfolbnnhglpeaa
open Go.RowKit Rk
set_option linter.unusedVariables false

/-- bells of the call's own: all their blocks are from B on -/
structure OB (B : Nat) (W w : World) (bb rb hb : Nat) (P : List En) : Prop where
  ex : ∃ g, BK w bb rb hb g P ∧ B ≤ g
  b : B ≤ bb ∧ B ≤ rb ∧ B ≤ hb
  bel : Below B W w
section
variable {B : Nat} {W w w' : World} {bb rb hb g : Nat} {P P' : List En} {v : Value} {e : Ending}
theorem OB.size (h : OB B W w bb rb hb P) : B ≤ w.heap.size := by obtain ⟨g, h1, _⟩ := h.ex; have := h1.lt; have := h.b; omega
theorem OB.wf (h : OB B W w bb rb hb P) : Wf P := by obtain ⟨g, h1, _⟩ := h.ex; exact h1.W
theorem OB.below (h : OB B W w bb rb hb P) (b : Below w.heap.size w w') : OB B W w' bb rb hb P := by
  have hs := h.size
  obtain ⟨g, h1, h2⟩ := h.ex
  exact ⟨⟨g, h1.below b, h2⟩, h.b, h.bel.trans (b.mono hs)⟩
theorem OB.op (h : OB B W w bb rb hb P) (hg : B ≤ g) (o : BlP v bb rb hb g P' w e w') : OB B W w' bb rb hb P' := by
  have hs := h.size
  obtain ⟨_, ⟨g', h1, h2⟩, h3⟩ := o
  refine ⟨⟨g', h1, by omega⟩, h.b, h.bel.trans (h3.below hs fun k _ hk => ?_)⟩
  rcases hk with rfl | rfl
  · exact h.b.2.2
  · exact hg
/-- a call of bells of the call's own -/
def OBP (v : Value) (B : Nat) (W : World) (bb rb hb : Nat) (P : List En) (e : Ending) (w' : World) : Prop := e = .returned v ∧ OB B W w' bb rb hb P
theorem ob_new (W : World) : Calls Try.prog 7 #[] W (fun e w' => ∃ bb rb hb : Nat, e = .returned (.pointer (some ⟨bb, 0, none⟩)) ∧ OB W.heap.size W w' bb rb hb []) :=
  (bnew_any W).mono fun e w' ⟨bb, rb, hb, g, he, h1, h2, h3⟩ => ⟨bb, rb, hb, he, ⟨g, h1, h3.2.2.2⟩, ⟨h3.1, h3.2.1, h3.2.2.1⟩, h2⟩
theorem ob_arm (kind id k r : Int) (h : OB B W w bb rb hb P) (e1 : armE kind id k = r) (e2 : armP kind id k P = P') :
    Calls Try.prog 19 #[.pointer (some ⟨bb, 0, none⟩), .int .i64 kind, .int .i64 id, .int .i64 k] w (OBP (.int .i64 r) B W bb rb hb P') := by
  subst e1 e2
  obtain ⟨g, h1, h2⟩ := h.ex
  exact (barm_any w bb rb hb g P kind id k h1).mono fun e w' o => ⟨o.1, h.op h2 o⟩
theorem ob_can (kind id : Int) (r : Bool) (h : OB B W w bb rb hb P) (e1 : (mp P (bk kind id)).isSome = r) (e2 : del (bk kind id) P = P') :
    Calls Try.prog 20 #[.pointer (some ⟨bb, 0, none⟩), .int .i64 kind, .int .i64 id] w (OBP (.bool r) B W bb rb hb P') := by
  subst e1 e2
  obtain ⟨g, h1, h2⟩ := h.ex
  exact (bcan_any w bb rb hb g P kind id h1).mono fun e w' o => ⟨o.1, h.op h2 o⟩
theorem ob_next0 (h : OB B W w bb rb hb []) : Calls Try.prog 22 #[.pointer (some ⟨bb, 0, none⟩)] w (OBP (.tuple #[.int .i64 0, .bool false]) B W bb rb hb []) := by
  obtain ⟨g, h1, h2⟩ := h.ex
  exact (bnext0_any w bb rb hb g h1).mono fun e w' o => ⟨o.1, h.below o.2⟩
theorem ob_next {x : En} (h : OB B W w bb rb hb (x :: P)) : Calls Try.prog 22 #[.pointer (some ⟨bb, 0, none⟩)] w (OBP (.tuple #[.int .i64 x.2, .bool true]) B W bb rb hb (x :: P)) := by
  obtain ⟨g, h1, h2⟩ := h.ex
  exact (bnext_any w bb rb hb g x P h1).mono fun e w' o => ⟨o.1, h.below o.2⟩
theorem ob_count (h : OB B W w bb rb hb P) : Calls Try.prog 10 #[.pointer (some ⟨bb, 0, none⟩)] w (IsN P.length w) := by
  obtain ⟨g, h1, h2⟩ := h.ex
  exact bcount_any w bb rb hb g P h1
/-- what Due comes to -/
def OBD (B : Nat) (W : World) (bb rb hb : Nat) (a b : List En) (w : World) (e : Ending) (w' : World) : Prop := ∃ v, e = .returned v ∧ BR w' w.heap.size v a ∧ OB B W w' bb rb hb b
theorem ob_due {a b : List En} {now : Int} (h : OB B W w bb rb hb P) (hc : Cut P now a b) : Calls Try.prog 15 #[.pointer (some ⟨bb, 0, none⟩), .int .i64 now] w (OBD B W bb rb hb a b w) := by
  have hs := h.size
  obtain ⟨g, h1, h2⟩ := h.ex
  refine (bdue_any w bb rb hb g P now h1).mono ?_
  rintro e w' ⟨v, a', b', g1, he, hc', hr, hk, hg, ho⟩
  obtain ⟨rfl, rfl⟩ := hc.unique hc'
  refine ⟨v, he, hr, ⟨⟨g1, hk, by omega⟩, h.b, h.bel.trans (ho.below hs fun k _ hk => ?_)⟩⟩
  rcases hk with rfl | rfl
  · exact h.b.2.2
  · exact h2
theorem Rk.Wf.cut {P : List En} (h : Wf P) (now : Int) : ∃ a b, Cut P now a b := by
  refine ⟨P.takeWhile (fun x => decide (x.2 ≤ now)), P.dropWhile (fun x => decide (x.2 ≤ now)), Cut.stop (Wf.drop (l := P.takeWhile (fun x => decide (x.2 ≤ now))) (by rw [List.takeWhile_append_dropWhile]; exact h)) List.takeWhile_append_dropWhile.symm (fun x hx => ?_) ?_⟩
  · clear h
    induction P with
    | nil => simp at hx
    | cons y P ih =>
      by_cases hy : y.2 ≤ now
      · rw [List.takeWhile_cons, if_pos (by simpa using hy)] at hx
        rcases List.mem_cons.1 hx with rfl | hx
        · exact hy
        · exact ih hx
      · rw [List.takeWhile_cons, if_neg (by simpa using hy)] at hx; cases hx
  · clear h
    induction P with
    | nil => exact Or.inl rfl
    | cons y P ih =>
      by_cases hy : y.2 ≤ now
      · rw [List.dropWhile_cons, if_pos (by simpa using hy)]; exact ih
      · rw [List.dropWhile_cons, if_neg (by simpa using hy)]; exact Or.inr ⟨y, P, rfl, by omega⟩
end

set_option maxRecDepth 100000 in
set_option maxHeartbeats 4000000 in
theorem works_any (w : World) : Calls Try.prog 17 #[] w (TrueB w) := by
  have HCut : Hid (Cut [(9, 7), (19, 7), (32, 8)] 7 [(9, 7), (19, 7)] [(32, 8)]) := ⟨rfl, by decide, by decide⟩
  go_enter Try.func17, Try.ntmps17
  go_wp2_with fail
  refine (ob_new w).mono ?_
  rintro e w1 ⟨bb, rb, hb, rfl, h1⟩
  have H1 := Lib.hid h1; clear h1
  go_wp2_with fail
  refine (ob_arm 1 3 7 0 (P' := [(19, 7)]) H1.out (by decide) (by decide)).mono ?_
  rintro e w2 ⟨rfl, h1⟩
  have H2 := Lib.hid h1; clear h1 H1
  go_wp2_with fail
  refine (ob_arm 0 9 7 0 (P' := [(9, 7), (19, 7)]) H2.out (by decide) (by decide)).mono ?_
  rintro e w3 ⟨rfl, h1⟩
  have H3 := Lib.hid h1; clear h1 H2
  go_wp2_with fail
  refine (ob_arm 2 0 5 0 (P' := [(32, 5), (9, 7), (19, 7)]) H3.out (by decide) (by decide)).mono ?_
  rintro e w4 ⟨rfl, h1⟩
  have H4 := Lib.hid h1; clear h1 H3
  go_wp2_with fail
  refine (ob_next H4.out).mono ?_
  rintro e w5 ⟨rfl, h1⟩
  have H5 := Lib.hid h1; clear h1 H4
  dsimp only
  go_wp2_with fail
  refine (ob_arm 2 0 8 0 (P' := [(9, 7), (19, 7), (32, 8)]) H5.out (by decide) (by decide)).mono ?_
  rintro e w6 ⟨rfl, h1⟩
  have H6 := Lib.hid h1; clear h1 H5
  go_wp2_with fail
  refine (ob_due H6.out HCut.out).mono ?_
  rintro e w7 ⟨v, rfl, hr, h1⟩
  have H7 := Lib.hid h1
  obtain ⟨g, cap, hv, _, _, hle, hmx⟩ := hr.form (by decide)
  obtain ⟨a1, a2, a3⟩ := hr.cells hv 0 (by decide)
  obtain ⟨b1, b2, b3⟩ := hr.cells hv 1 (by decide)
  simp only [Nat.zero_mul, Nat.zero_add, Nat.one_mul, List.getElem_cons_zero, List.getElem_cons_succ, show (9 : Int) / 16 = 0 from rfl, show (9 : Int) % 16 = 9 from rfl, show (19 : Int) / 16 = 1 from rfl, show (19 : Int) % 16 = 3 from rfl, Nat.reduceAdd] at a1 a2 a3 b1 b2 b3
  simp only [List.length_cons, List.length_nil, Nat.zero_add, Nat.reduceAdd] at hv hle
  subst hv
  have s1 := Try.eqGuardType44
  have s2 := Try.stoodInHeld44
  unfold maxLen at hmx
  clear h1 hr H6 HCut
  go_wp2_with fail
  refine (ob_count H7.out).mono ?_
  rintro e w8 ⟨rfl, rfl⟩
  go_wp2_with fail
  refine (ob_can 2 0 true (P' := []) H7.out (by decide) (by decide)).mono ?_
  rintro e w9 ⟨rfl, h1⟩
  have H9 := Lib.hid h1; clear h1 H7 a1 a2 a3 b1 b2 b3
  go_wp2_with fail
  refine (ob_can 2 0 false (P' := []) H9.out (by decide) (by decide)).mono ?_
  rintro e w10 ⟨rfl, h1⟩
  have H10 := Lib.hid h1; clear h1 H9
  go_wp2_with fail
  refine (ob_arm 4 0 1 9 (P' := []) H10.out (by decide) (by decide)).mono ?_
  rintro e w11 ⟨rfl, h1⟩
  have H11 := Lib.hid h1; clear h1 H10
  go_wp2_with fail
  refine (ob_arm 0 0 (-1) 2 (P' := []) H11.out (by decide) (by decide)).mono ?_
  rintro e w12 ⟨rfl, h1⟩
  have H12 := Lib.hid h1; clear h1 H11
  go_wp2_with fail
  go_ret
  exact ⟨rfl, H12.out.bel⟩

end Go.Proofs.Ytdfolbnnhglpeaa
