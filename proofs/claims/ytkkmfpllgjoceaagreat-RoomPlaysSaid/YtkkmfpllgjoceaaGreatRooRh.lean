/- Both rooms, the program's and the document's, beside each other; a call of both. -/
import Derived.Test.YtkkmfpllgjoceaaGreatRooRg
import Derived.Test.YtkkmfpllgjoceaaGreatRooX
import Derived.Test.YtkkmfpllgjoceaaGreatRooV
import Derived.Deep.RegionHeld3
namespace Go.Proofs.YtkkmfpllgjoceaaGreat.Ro
open Go.RowKit Go.Sort Ac Jo
set_option linter.unusedVariables false
set_option maxRecDepth 100000

/-- the program's room, at sp, and the document's, at sd, each of the call's own; X: other blocks of its own, which stay as they are -/
structure RT (X : Nat → Prop) (B : Nat) (W w : World) (rb mb : Nat) (sp sd : Rm) : Prop where
  x : ∃ m : Dr.Mm, Dr.PRM m w mb sd ∧ Dr.Jp m sd ∧ (∀ k, m.lab k ≠ 0 → B ≤ k) ∧ (∀ k, X k → m.lab k = 0) ∧ OF Q0 B W w rb sp (fun k => m.lab k ≠ 0 ∨ X k)
  xb : ∀ k, X k → B ≤ k
section
variable {X : Nat → Prop} {B : Nat} {W w w' : World} {rb mb : Nat} {s s' sp sd : Rm} {f : Nat} {args : Array Value} {v : Value}
theorem RT.bel (h : RT X B W w rb mb sp sd) : Below B W w := by obtain ⟨m, _, _, _, _, h5⟩ := h.x; exact h5.bel
theorem RT.iv (h : RT X B W w rb mb sp sd) : Rinv sp := by obtain ⟨m, _, _, _, _, h5⟩ := h.x; exact h5.iv
theorem RT.szw (h : RT X B W w rb mb sp sd) : B ≤ w.heap.size := by obtain ⟨m, _, _, _, _, h5⟩ := h.x; exact h5.szw
theorem RT.below (h : RT X B W w rb mb sp sd) (q : Below w.heap.size w w') : RT X B W w' rb mb sp sd := by
  obtain ⟨m, h1, h2, h3, h4, h5⟩ := h.x
  exact ⟨⟨m, h1.below q, h2, h3, h4, h5.below q⟩, h.xb⟩
/-- a block more lies beside both -/
theorem RT.more (h : RT X B W w rb mb sp sd) (o : Obj) : RT (fun k => X k ∨ k = w.heap.size) B W (w.alloc o) rb mb sp sd := by
  obtain ⟨m, h1, h2, h3, h4, h5⟩ := h.x
  have hb := below_al w o
  refine ⟨⟨m, h1.below hb, h2, h3, fun k hk => ?_, ?_⟩, fun k hk => ?_⟩
  · rcases hk with y | y
    · exact h4 k y
    · exact Decidable.byContradiction fun z => by have := h1.lt k z; omega
  · refine (h5.more hb (b := w.heap.size) (Nat.le_refl _) (by rw [World.size_alloc]; omega)).less (fun k hk => ?_)
    rcases hk with y | y | y
    · exact Or.inl (Or.inl y)
    · exact Or.inl (Or.inr y)
    · exact Or.inr y
  · rcases hk with y | y
    · exact h.xb k y
    · have := h.szw; omega
theorem RT.less {X' : Nat → Prop} (h : RT X B W w rb mb sp sd) (q : ∀ k, X' k → X k) : RT X' B W w rb mb sp sd := by
  obtain ⟨m, h1, h2, h3, h4, h5⟩ := h.x
  exact ⟨⟨m, h1, h2, h3, fun k hk => h4 k (q k hk), h5.less (fun k hk => hk.imp id (q k))⟩, fun k hk => h.xb k (q k hk)⟩
/-- a call of the program's room -/
theorem RT.prg (h : RT X B W w rb mb s sd) (hi : Rinv s') (c : ∀ S, Q0.J w rb S s → Calls Tryz.prog f args w (RP Q0.J v rb S s' w)) : Calls Tryz.prog f args w (fun e w' => e = .returned v ∧ RT X B W w' rb mb s' sd ∧ ∀ k, X k → w'.heap[k]? = w.heap[k]?) := by
  obtain ⟨m, h1, h2, h3, h4, h5⟩ := h.x
  refine (h5.wr hi c).mono ?_
  rintro e w' ⟨rfl, q1, q2, q3⟩
  exact ⟨rfl, ⟨⟨m, h1.keep (fun k hk => q2 k (Or.inl hk)), h2, h3, h4, q1⟩, h.xb⟩, fun k hk => q2 k (Or.inr hk)⟩
/-- a call of the document's -/
theorem RT.doc (h : RT X B W w rb mb sp s) (c : ∀ (m : Dr.Mm), Dr.PRM m w mb s → Dr.Jp m s → Calls Tryz.prog f args w (RP Dr.JJ v mb (fun k => m.lab k ≠ 0) s' w)) : Calls Tryz.prog f args w (fun e w' => e = .returned v ∧ RT X B W w' rb mb sp s' ∧ ∀ k, X k → w'.heap[k]? = w.heap[k]?) := by
  obtain ⟨m, h1, h2, h3, h4, h5⟩ := h.x
  refine (c m h1 h2).mono ?_
  rintro e w' ⟨rfl, S', ⟨m', q1, q2, q3⟩, q4, q5⟩
  have hsz := h.szw
  have hX : ∀ k, X k → w'.heap[k]? = w.heap[k]? := fun k hk => q5.block k (h5.f k (Or.inr hk)) (fun y => y (h4 k hk))
  have hl : ∀ k, m'.lab k ≠ 0 → m.lab k ≠ 0 ∨ w.heap.size ≤ k := fun k hk => q4 k ((q3 k).2 hk)
  refine ⟨rfl, ⟨⟨m', q1, q2, fun k hk => ?_, fun k hk => ?_, ?_⟩, h.xb⟩, hX⟩
  · rcases hl k hk with y | y
    · exact h3 k y
    · omega
  · refine Decidable.byContradiction fun z => ?_
    rcases hl k z with y | y
    · exact y (h4 k hk)
    · have := h5.f k (Or.inr hk); omega
  · refine h5.to (only_mono q5 (fun k hk => Or.inl hk)) (fun k hk => ?_) (fun k hk => ?_)
    · rcases hk with y | y
      · exact h3 k y
      · exact h.xb k y
    · rcases hk with y | y
      · rcases hl k y with z | z
        · exact Or.inl (Or.inl z)
        · exact Or.inr ⟨z, q1.lt k y⟩
      · exact Or.inl (Or.inr y)
theorem RT.pr (h : RT X B W w rb mb sp sd) : (∃ S, Q0.J w rb S sp) ∧ ∃ m, Dr.PRM m w mb sd ∧ Dr.Jp m sd := by
  obtain ⟨m, h1, h2, h3, h4, h5⟩ := h.x
  exact ⟨h5.at, m, h1, h2⟩
end
/-- what a call makes of a room -/
def doR (s : Rm) (k t a : Int) (l : List Ak) (now : Int) : Rm :=
  if k = 0 then relR s t l now else if k = 1 then didR s t else if k = 2 ∨ k = 3 then runR s t else if k = 4 then lockR s t a else if k = 5 then unlRm s t else if k = 6 then askR s t else if k = 7 then holdR s t else if k = 8 then giveR s t else if a.tmod 3 = 0 then endR s t else s
theorem doR_iv {s : Rm} (h : Rinv s) (k t a : Int) (l : List Ak) (now : Int) : Rinv (doR s k t a l now) := by
  unfold doR
  repeat' split
  · exact h.rel t l now
  · exact h.did t
  · exact h.run t
  · exact h.lock t a
  · exact h.unl t
  · exact h.ask t
  · exact h.hold t
  · exact h.give t
  · exact h.fin t
  · exact h
section
variable {B : Nat} {W w : World} {rb mb : Nat} {s : Rm} {kd tk a t now : Int} {u : Value} {l : List Ak}
set_option maxHeartbeats 1000000 in
theorem do_did (h : RT (fun _ => False) B W w rb mb s s) (hu : ∀ w', Below B W w' → AS w' u l) (kd tk a t now : Int) (hk : bring kd 10 = 1) : Calls Tryz.prog 11 #[.pointer (some ⟨rb, 0, none⟩), .pointer (some ⟨mb, 0, none⟩), .agg #[.int .i64 kd, .int .i64 tk, .int .i64 a, u], .int .i64 t, .int .i64 now] w (fun e w' => e = .returned (.bool true) ∧ RT (fun _ => False) B W w' rb mb (doR s (bring kd 10) t a l now) (doR s (bring kd 10) t a l now)) := by
  have HB := Lib.hid (fun W => bring_any kd 10 W (by decide) (by decide))
  rw [hk] at HB ⊢
  show Calls Tryz.prog 11 #[.pointer (some ⟨rb, 0, none⟩), .pointer (some ⟨mb, 0, none⟩), .agg #[.int .i64 kd, .int .i64 tk, .int .i64 a, u], .int .i64 t, .int .i64 now] w (fun e w' => e = .returned (.bool true) ∧ RT (fun _ => False) B W w' rb mb (didR s t) (didR s t))
  have hi := h.iv
  have HP := Lib.hid (RT.prg (v := .int .i64 (didRE s t)) (h.below (below_al w (.cells #[.int .i64 kd, .int .i64 tk, .int .i64 a, u] 33))) (hi.did t) (fun S q => Q0.did q hi t))
  have HD : Hid (∀ w1, RT (fun _ => False) B W w1 rb mb (didR s t) s → Calls Tryz.prog 50 #[.pointer (some ⟨mb, 0, none⟩), .int .i64 t] w1 (fun e w' => e = .returned (.int .i64 (didRE s t)) ∧ RT (fun _ => False) B W w' rb mb (didR s t) (didR s t) ∧ ∀ k, False → w'.heap[k]? = w1.heap[k]?)) := Lib.hid (fun w1 h1 => h1.doc (fun m q1 q2 => Dr.did_any q1 q2 (fun _ => Iff.rfl) hi t))
  generalize didR s t = s1 at *
  generalize didRE s t = er at *
  clear h hk hi hu
  go_enter Tryz.func11, Tryz.ntmps11
  go_wp2_with fail
  refine (HB.out _).mono ?_
  rintro e w1 ⟨rfl, rfl⟩
  clear HB
  go_wp2_with fail
  refine HP.out.mono ?_
  rintro e w2 ⟨rfl, h2, _⟩
  have HD2 := Lib.hid (HD.out _ h2)
  clear h2 HP HD
  go_wp2_with fail
  refine HD2.out.mono ?_
  rintro e w3 ⟨rfl, h3, _⟩
  have H3 := Lib.hid h3
  clear h3 HD2
  go_wp2_with fail
  go_ret
  exact ⟨by simp, H3.out⟩
set_option maxHeartbeats 1000000 in
theorem do_run2 (h : RT (fun _ => False) B W w rb mb s s) (hu : ∀ w', Below B W w' → AS w' u l) (kd tk a t now : Int) (hk : bring kd 10 = 2) : Calls Tryz.prog 11 #[.pointer (some ⟨rb, 0, none⟩), .pointer (some ⟨mb, 0, none⟩), .agg #[.int .i64 kd, .int .i64 tk, .int .i64 a, u], .int .i64 t, .int .i64 now] w (fun e w' => e = .returned (.bool true) ∧ RT (fun _ => False) B W w' rb mb (doR s (bring kd 10) t a l now) (doR s (bring kd 10) t a l now)) := by
  have HB := Lib.hid (fun W => bring_any kd 10 W (by decide) (by decide))
  rw [hk] at HB ⊢
  show Calls Tryz.prog 11 #[.pointer (some ⟨rb, 0, none⟩), .pointer (some ⟨mb, 0, none⟩), .agg #[.int .i64 kd, .int .i64 tk, .int .i64 a, u], .int .i64 t, .int .i64 now] w (fun e w' => e = .returned (.bool true) ∧ RT (fun _ => False) B W w' rb mb (runR s t) (runR s t))
  have hi := h.iv
  have HP := Lib.hid (RT.prg (v := .int .i64 (runRE s t)) (h.below (below_al w (.cells #[.int .i64 kd, .int .i64 tk, .int .i64 a, u] 33))) (hi.run t) (fun S q => Q0.run q hi t))
  have HD : Hid (∀ w1, RT (fun _ => False) B W w1 rb mb (runR s t) s → Calls Tryz.prog 51 #[.pointer (some ⟨mb, 0, none⟩), .int .i64 t] w1 (fun e w' => e = .returned (.int .i64 (runRE s t)) ∧ RT (fun _ => False) B W w' rb mb (runR s t) (runR s t) ∧ ∀ k, False → w'.heap[k]? = w1.heap[k]?)) := Lib.hid (fun w1 h1 => h1.doc (fun m q1 q2 => Dr.run_any q1 q2 (fun _ => Iff.rfl) hi t))
  generalize runR s t = s1 at *
  generalize runRE s t = er at *
  clear h hk hi hu
  go_enter Tryz.func11, Tryz.ntmps11
  go_wp2_with fail
  refine (HB.out _).mono ?_
  rintro e w1 ⟨rfl, rfl⟩
  clear HB
  go_wp2_with fail
  refine HP.out.mono ?_
  rintro e w2 ⟨rfl, h2, _⟩
  have HD2 := Lib.hid (HD.out _ h2)
  clear h2 HP HD
  go_wp2_with fail
  refine HD2.out.mono ?_
  rintro e w3 ⟨rfl, h3, _⟩
  have H3 := Lib.hid h3
  clear h3 HD2
  go_wp2_with fail
  go_ret
  exact ⟨by simp, H3.out⟩
set_option maxHeartbeats 1000000 in
theorem do_run3 (h : RT (fun _ => False) B W w rb mb s s) (hu : ∀ w', Below B W w' → AS w' u l) (kd tk a t now : Int) (hk : bring kd 10 = 3) : Calls Tryz.prog 11 #[.pointer (some ⟨rb, 0, none⟩), .pointer (some ⟨mb, 0, none⟩), .agg #[.int .i64 kd, .int .i64 tk, .int .i64 a, u], .int .i64 t, .int .i64 now] w (fun e w' => e = .returned (.bool true) ∧ RT (fun _ => False) B W w' rb mb (doR s (bring kd 10) t a l now) (doR s (bring kd 10) t a l now)) := by
  have HB := Lib.hid (fun W => bring_any kd 10 W (by decide) (by decide))
  rw [hk] at HB ⊢
  show Calls Tryz.prog 11 #[.pointer (some ⟨rb, 0, none⟩), .pointer (some ⟨mb, 0, none⟩), .agg #[.int .i64 kd, .int .i64 tk, .int .i64 a, u], .int .i64 t, .int .i64 now] w (fun e w' => e = .returned (.bool true) ∧ RT (fun _ => False) B W w' rb mb (runR s t) (runR s t))
  have hi := h.iv
  have HP := Lib.hid (RT.prg (v := .int .i64 (runRE s t)) (h.below (below_al w (.cells #[.int .i64 kd, .int .i64 tk, .int .i64 a, u] 33))) (hi.run t) (fun S q => Q0.run q hi t))
  have HD : Hid (∀ w1, RT (fun _ => False) B W w1 rb mb (runR s t) s → Calls Tryz.prog 51 #[.pointer (some ⟨mb, 0, none⟩), .int .i64 t] w1 (fun e w' => e = .returned (.int .i64 (runRE s t)) ∧ RT (fun _ => False) B W w' rb mb (runR s t) (runR s t) ∧ ∀ k, False → w'.heap[k]? = w1.heap[k]?)) := Lib.hid (fun w1 h1 => h1.doc (fun m q1 q2 => Dr.run_any q1 q2 (fun _ => Iff.rfl) hi t))
  generalize runR s t = s1 at *
  generalize runRE s t = er at *
  clear h hk hi hu
  go_enter Tryz.func11, Tryz.ntmps11
  go_wp2_with fail
  refine (HB.out _).mono ?_
  rintro e w1 ⟨rfl, rfl⟩
  clear HB
  go_wp2_with fail
  refine HP.out.mono ?_
  rintro e w2 ⟨rfl, h2, _⟩
  have HD2 := Lib.hid (HD.out _ h2)
  clear h2 HP HD
  go_wp2_with fail
  refine HD2.out.mono ?_
  rintro e w3 ⟨rfl, h3, _⟩
  have H3 := Lib.hid h3
  clear h3 HD2
  go_wp2_with fail
  go_ret
  exact ⟨by simp, H3.out⟩
set_option maxHeartbeats 1000000 in
theorem do_unl (h : RT (fun _ => False) B W w rb mb s s) (hu : ∀ w', Below B W w' → AS w' u l) (kd tk a t now : Int) (hk : bring kd 10 = 5) : Calls Tryz.prog 11 #[.pointer (some ⟨rb, 0, none⟩), .pointer (some ⟨mb, 0, none⟩), .agg #[.int .i64 kd, .int .i64 tk, .int .i64 a, u], .int .i64 t, .int .i64 now] w (fun e w' => e = .returned (.bool true) ∧ RT (fun _ => False) B W w' rb mb (doR s (bring kd 10) t a l now) (doR s (bring kd 10) t a l now)) := by
  have HB := Lib.hid (fun W => bring_any kd 10 W (by decide) (by decide))
  rw [hk] at HB ⊢
  show Calls Tryz.prog 11 #[.pointer (some ⟨rb, 0, none⟩), .pointer (some ⟨mb, 0, none⟩), .agg #[.int .i64 kd, .int .i64 tk, .int .i64 a, u], .int .i64 t, .int .i64 now] w (fun e w' => e = .returned (.bool true) ∧ RT (fun _ => False) B W w' rb mb (unlRm s t) (unlRm s t))
  have hi := h.iv
  have HP := Lib.hid (RT.prg (v := .int .i64 (unlRE s t)) (h.below (below_al w (.cells #[.int .i64 kd, .int .i64 tk, .int .i64 a, u] 33))) (hi.unl t) (fun S q => Q0.unlock q hi t))
  have HD : Hid (∀ w1, RT (fun _ => False) B W w1 rb mb (unlRm s t) s → Calls Tryz.prog 53 #[.pointer (some ⟨mb, 0, none⟩), .int .i64 t] w1 (fun e w' => e = .returned (.int .i64 (unlRE s t)) ∧ RT (fun _ => False) B W w' rb mb (unlRm s t) (unlRm s t) ∧ ∀ k, False → w'.heap[k]? = w1.heap[k]?)) := Lib.hid (fun w1 h1 => h1.doc (fun m q1 q2 => Dr.unl_any q1 q2 (fun _ => Iff.rfl) hi t))
  generalize unlRm s t = s1 at *
  generalize unlRE s t = er at *
  clear h hk hi hu
  go_enter Tryz.func11, Tryz.ntmps11
  go_wp2_with fail
  refine (HB.out _).mono ?_
  rintro e w1 ⟨rfl, rfl⟩
  clear HB
  go_wp2_with fail
  refine HP.out.mono ?_
  rintro e w2 ⟨rfl, h2, _⟩
  have HD2 := Lib.hid (HD.out _ h2)
  clear h2 HP HD
  go_wp2_with fail
  refine HD2.out.mono ?_
  rintro e w3 ⟨rfl, h3, _⟩
  have H3 := Lib.hid h3
  clear h3 HD2
  go_wp2_with fail
  go_ret
  exact ⟨by simp, H3.out⟩
set_option maxHeartbeats 1000000 in
theorem do_ask (h : RT (fun _ => False) B W w rb mb s s) (hu : ∀ w', Below B W w' → AS w' u l) (kd tk a t now : Int) (hk : bring kd 10 = 6) : Calls Tryz.prog 11 #[.pointer (some ⟨rb, 0, none⟩), .pointer (some ⟨mb, 0, none⟩), .agg #[.int .i64 kd, .int .i64 tk, .int .i64 a, u], .int .i64 t, .int .i64 now] w (fun e w' => e = .returned (.bool true) ∧ RT (fun _ => False) B W w' rb mb (doR s (bring kd 10) t a l now) (doR s (bring kd 10) t a l now)) := by
  have HB := Lib.hid (fun W => bring_any kd 10 W (by decide) (by decide))
  rw [hk] at HB ⊢
  show Calls Tryz.prog 11 #[.pointer (some ⟨rb, 0, none⟩), .pointer (some ⟨mb, 0, none⟩), .agg #[.int .i64 kd, .int .i64 tk, .int .i64 a, u], .int .i64 t, .int .i64 now] w (fun e w' => e = .returned (.bool true) ∧ RT (fun _ => False) B W w' rb mb (askR s t) (askR s t))
  have hi := h.iv
  have HP := Lib.hid (RT.prg (v := .int .i64 (askRE s t)) (h.below (below_al w (.cells #[.int .i64 kd, .int .i64 tk, .int .i64 a, u] 33))) (hi.ask t) (fun S q => Q0.ask q hi t))
  have HD : Hid (∀ w1, RT (fun _ => False) B W w1 rb mb (askR s t) s → Calls Tryz.prog 54 #[.pointer (some ⟨mb, 0, none⟩), .int .i64 t] w1 (fun e w' => e = .returned (.int .i64 (askRE s t)) ∧ RT (fun _ => False) B W w' rb mb (askR s t) (askR s t) ∧ ∀ k, False → w'.heap[k]? = w1.heap[k]?)) := Lib.hid (fun w1 h1 => h1.doc (fun m q1 q2 => Dr.ask_any q1 q2 (fun _ => Iff.rfl) hi t))
  generalize askR s t = s1 at *
  generalize askRE s t = er at *
  clear h hk hi hu
  go_enter Tryz.func11, Tryz.ntmps11
  go_wp2_with fail
  refine (HB.out _).mono ?_
  rintro e w1 ⟨rfl, rfl⟩
  clear HB
  go_wp2_with fail
  refine HP.out.mono ?_
  rintro e w2 ⟨rfl, h2, _⟩
  have HD2 := Lib.hid (HD.out _ h2)
  clear h2 HP HD
  go_wp2_with fail
  refine HD2.out.mono ?_
  rintro e w3 ⟨rfl, h3, _⟩
  have H3 := Lib.hid h3
  clear h3 HD2
  go_wp2_with fail
  go_ret
  exact ⟨by simp, H3.out⟩
set_option maxHeartbeats 1000000 in
theorem do_hold (h : RT (fun _ => False) B W w rb mb s s) (hu : ∀ w', Below B W w' → AS w' u l) (kd tk a t now : Int) (hk : bring kd 10 = 7) : Calls Tryz.prog 11 #[.pointer (some ⟨rb, 0, none⟩), .pointer (some ⟨mb, 0, none⟩), .agg #[.int .i64 kd, .int .i64 tk, .int .i64 a, u], .int .i64 t, .int .i64 now] w (fun e w' => e = .returned (.bool true) ∧ RT (fun _ => False) B W w' rb mb (doR s (bring kd 10) t a l now) (doR s (bring kd 10) t a l now)) := by
  have HB := Lib.hid (fun W => bring_any kd 10 W (by decide) (by decide))
  rw [hk] at HB ⊢
  show Calls Tryz.prog 11 #[.pointer (some ⟨rb, 0, none⟩), .pointer (some ⟨mb, 0, none⟩), .agg #[.int .i64 kd, .int .i64 tk, .int .i64 a, u], .int .i64 t, .int .i64 now] w (fun e w' => e = .returned (.bool true) ∧ RT (fun _ => False) B W w' rb mb (holdR s t) (holdR s t))
  have hi := h.iv
  have HP := Lib.hid (RT.prg (v := .int .i64 (holdRE s t)) (h.below (below_al w (.cells #[.int .i64 kd, .int .i64 tk, .int .i64 a, u] 33))) (hi.hold t) (fun S q => Q0.hold q hi t))
  have HD : Hid (∀ w1, RT (fun _ => False) B W w1 rb mb (holdR s t) s → Calls Tryz.prog 55 #[.pointer (some ⟨mb, 0, none⟩), .int .i64 t] w1 (fun e w' => e = .returned (.int .i64 (holdRE s t)) ∧ RT (fun _ => False) B W w' rb mb (holdR s t) (holdR s t) ∧ ∀ k, False → w'.heap[k]? = w1.heap[k]?)) := Lib.hid (fun w1 h1 => h1.doc (fun m q1 q2 => Dr.hold_any q1 q2 (fun _ => Iff.rfl) hi t))
  generalize holdR s t = s1 at *
  generalize holdRE s t = er at *
  clear h hk hi hu
  go_enter Tryz.func11, Tryz.ntmps11
  go_wp2_with fail
  refine (HB.out _).mono ?_
  rintro e w1 ⟨rfl, rfl⟩
  clear HB
  go_wp2_with fail
  refine HP.out.mono ?_
  rintro e w2 ⟨rfl, h2, _⟩
  have HD2 := Lib.hid (HD.out _ h2)
  clear h2 HP HD
  go_wp2_with fail
  refine HD2.out.mono ?_
  rintro e w3 ⟨rfl, h3, _⟩
  have H3 := Lib.hid h3
  clear h3 HD2
  go_wp2_with fail
  go_ret
  exact ⟨by simp, H3.out⟩
set_option maxHeartbeats 1000000 in
theorem do_give (h : RT (fun _ => False) B W w rb mb s s) (hu : ∀ w', Below B W w' → AS w' u l) (kd tk a t now : Int) (hk : bring kd 10 = 8) : Calls Tryz.prog 11 #[.pointer (some ⟨rb, 0, none⟩), .pointer (some ⟨mb, 0, none⟩), .agg #[.int .i64 kd, .int .i64 tk, .int .i64 a, u], .int .i64 t, .int .i64 now] w (fun e w' => e = .returned (.bool true) ∧ RT (fun _ => False) B W w' rb mb (doR s (bring kd 10) t a l now) (doR s (bring kd 10) t a l now)) := by
  have HB := Lib.hid (fun W => bring_any kd 10 W (by decide) (by decide))
  rw [hk] at HB ⊢
  show Calls Tryz.prog 11 #[.pointer (some ⟨rb, 0, none⟩), .pointer (some ⟨mb, 0, none⟩), .agg #[.int .i64 kd, .int .i64 tk, .int .i64 a, u], .int .i64 t, .int .i64 now] w (fun e w' => e = .returned (.bool true) ∧ RT (fun _ => False) B W w' rb mb (giveR s t) (giveR s t))
  have hi := h.iv
  have HP := Lib.hid (RT.prg (v := .int .i64 (giveRE s t)) (h.below (below_al w (.cells #[.int .i64 kd, .int .i64 tk, .int .i64 a, u] 33))) (hi.give t) (fun S q => Q0.give q hi t))
  have HD : Hid (∀ w1, RT (fun _ => False) B W w1 rb mb (giveR s t) s → Calls Tryz.prog 56 #[.pointer (some ⟨mb, 0, none⟩), .int .i64 t] w1 (fun e w' => e = .returned (.int .i64 (giveRE s t)) ∧ RT (fun _ => False) B W w' rb mb (giveR s t) (giveR s t) ∧ ∀ k, False → w'.heap[k]? = w1.heap[k]?)) := Lib.hid (fun w1 h1 => h1.doc (fun m q1 q2 => Dr.give_any q1 q2 (fun _ => Iff.rfl) hi t))
  generalize giveR s t = s1 at *
  generalize giveRE s t = er at *
  clear h hk hi hu
  go_enter Tryz.func11, Tryz.ntmps11
  go_wp2_with fail
  refine (HB.out _).mono ?_
  rintro e w1 ⟨rfl, rfl⟩
  clear HB
  go_wp2_with fail
  refine HP.out.mono ?_
  rintro e w2 ⟨rfl, h2, _⟩
  have HD2 := Lib.hid (HD.out _ h2)
  clear h2 HP HD
  go_wp2_with fail
  refine HD2.out.mono ?_
  rintro e w3 ⟨rfl, h3, _⟩
  have H3 := Lib.hid h3
  clear h3 HD2
  go_wp2_with fail
  go_ret
  exact ⟨by simp, H3.out⟩
set_option maxHeartbeats 1000000 in
theorem do_rel (h : RT (fun _ => False) B W w rb mb s s) (hu : ∀ w', Below B W w' → AS w' u l) (kd tk a t now : Int) (hk : bring kd 10 = 0) : Calls Tryz.prog 11 #[.pointer (some ⟨rb, 0, none⟩), .pointer (some ⟨mb, 0, none⟩), .agg #[.int .i64 kd, .int .i64 tk, .int .i64 a, u], .int .i64 t, .int .i64 now] w (fun e w' => e = .returned (.bool true) ∧ RT (fun _ => False) B W w' rb mb (doR s (bring kd 10) t a l now) (doR s (bring kd 10) t a l now)) := by
  have HB := Lib.hid (fun W => bring_any kd 10 W (by decide) (by decide))
  rw [hk] at HB ⊢
  show Calls Tryz.prog 11 #[.pointer (some ⟨rb, 0, none⟩), .pointer (some ⟨mb, 0, none⟩), .agg #[.int .i64 kd, .int .i64 tk, .int .i64 a, u], .int .i64 t, .int .i64 now] w (fun e w' => e = .returned (.bool true) ∧ RT (fun _ => False) B W w' rb mb (relR s t l now) (relR s t l now))
  have hi := h.iv
  have hob := heap_alloc_new w (.cells #[.int .i64 kd, .int .i64 tk, .int .i64 a, u] 33)
  have c0 : (w.alloc (.cells #[.int .i64 kd, .int .i64 tk, .int .i64 a, u] 33)).cell? ⟨w.heap.size, 0, none⟩ = some (.int .i64 kd) := cell_of_row _ _ 0 _ _ _ hob
  have cf : (w.alloc (.cells #[.int .i64 kd, .int .i64 tk, .int .i64 a, u] 33)).cell? ⟨w.heap.size, 0 + 3, none⟩ = some (u) := cell_of_row _ _ 3 _ _ _ hob
  have h0 := (h.more (.cells #[.int .i64 kd, .int .i64 tk, .int .i64 a, u] 33)).below (below_drew (Below.refl _ (w.alloc (.cells #[.int .i64 kd, .int .i64 tk, .int .i64 a, u] 33))))
  have HS0 := Lib.hid cf
  have HP : Hid (Calls Tryz.prog 28 #[.pointer (some ⟨rb, 0, none⟩), .int .i64 t, u, .int .i64 now] (w.alloc (.cells #[.int .i64 kd, .int .i64 tk, .int .i64 a, u] 33)).drew (fun e w' => e = .returned (.int .i64 (relE s t l now)) ∧ RT (fun k => False ∨ k = w.heap.size) B W w' rb mb (relR s t l now) s ∧ w'.cell? ⟨w.heap.size, 0 + 3, none⟩ = some (u))) := Lib.hid ((RT.prg (v := .int .i64 (relE s t l now)) h0 (hi.rel t l now) (fun S q => Q0.rel q hi (hu _ h0.bel) t now)).mono (fun e w' q => ⟨q.1, q.2.1, (World.cell?_of_block (a := ⟨w.heap.size, 0 + 3, none⟩) (q.2.2 w.heap.size (Or.inr rfl))).trans cf⟩))
  have HD : Hid (∀ w1, RT (fun k => False ∨ k = w.heap.size) B W w1 rb mb (relR s t l now) s → w1.cell? ⟨w.heap.size, 0 + 3, none⟩ = some (u) → Calls Tryz.prog 49 #[.pointer (some ⟨mb, 0, none⟩), .int .i64 t, u, .int .i64 now] w1 (fun e w' => e = .returned (.int .i64 (relE s t l now)) ∧ RT (fun _ => False) B W w' rb mb (relR s t l now) (relR s t l now) ∧ w'.cell? ⟨w.heap.size, 0 + 3, none⟩ = some (u))) := Lib.hid (fun w1 h1 hc => (h1.doc (fun m q1 q2 => Dr.rel_any q1 q2 (fun _ => Iff.rfl) hi (hu _ h1.bel) t now)).mono (fun e w' q => ⟨q.1, q.2.1.less (fun k hk => hk.elim), (World.cell?_of_block (a := ⟨w.heap.size, 0 + 3, none⟩) (q.2.2 w.heap.size (Or.inr rfl))).trans hc⟩))
  generalize relR s t l now = s1 at *
  generalize relE s t l now = er at *
  clear h hk hi hu hob h0
  go_enter Tryz.func11, Tryz.ntmps11
  go_wp2_with fail
  refine (HB.out _).mono ?_
  rintro e w1 ⟨rfl, rfl⟩
  clear HB
  go_wp2_with fail
  clear c0
  generalize w.heap.size = xb at *
  go_region_held3 (fun w' => w'.cell? ⟨xb, 0 + 3, none⟩ = some (u))
    (first | assumption | exact HS0.out | go_keep)
    (first | (go_at_call 28; refine HP.out.mono ?_; rintro e w5 ⟨rfl, hr5, hS5⟩; have HD5 := Lib.hid (HD.out _ hr5 hS5); clear hr5) | (go_at_call 49; refine HD5.out.mono ?_; rintro e w6 ⟨rfl, hr6, hS6⟩; have H6 := Lib.hid hr6; clear hr6))
  all_goals
    go_wp2_with fail
    go_ret
    exact ⟨by simp, H6.out⟩
set_option maxHeartbeats 1000000 in
theorem do_lock (h : RT (fun _ => False) B W w rb mb s s) (hu : ∀ w', Below B W w' → AS w' u l) (kd tk a t now : Int) (hk : bring kd 10 = 4) : Calls Tryz.prog 11 #[.pointer (some ⟨rb, 0, none⟩), .pointer (some ⟨mb, 0, none⟩), .agg #[.int .i64 kd, .int .i64 tk, .int .i64 a, u], .int .i64 t, .int .i64 now] w (fun e w' => e = .returned (.bool true) ∧ RT (fun _ => False) B W w' rb mb (doR s (bring kd 10) t a l now) (doR s (bring kd 10) t a l now)) := by
  have HB := Lib.hid (fun W => bring_any kd 10 W (by decide) (by decide))
  rw [hk] at HB ⊢
  show Calls Tryz.prog 11 #[.pointer (some ⟨rb, 0, none⟩), .pointer (some ⟨mb, 0, none⟩), .agg #[.int .i64 kd, .int .i64 tk, .int .i64 a, u], .int .i64 t, .int .i64 now] w (fun e w' => e = .returned (.bool true) ∧ RT (fun _ => False) B W w' rb mb (lockR s t a) (lockR s t a))
  have hi := h.iv
  have hob := heap_alloc_new w (.cells #[.int .i64 kd, .int .i64 tk, .int .i64 a, u] 33)
  have c0 : (w.alloc (.cells #[.int .i64 kd, .int .i64 tk, .int .i64 a, u] 33)).cell? ⟨w.heap.size, 0, none⟩ = some (.int .i64 kd) := cell_of_row _ _ 0 _ _ _ hob
  have cf : (w.alloc (.cells #[.int .i64 kd, .int .i64 tk, .int .i64 a, u] 33)).cell? ⟨w.heap.size, 0 + 2, none⟩ = some (.int .i64 a) := cell_of_row _ _ 2 _ _ _ hob
  have h0 := (h.more (.cells #[.int .i64 kd, .int .i64 tk, .int .i64 a, u] 33)).below (below_drew (Below.refl _ (w.alloc (.cells #[.int .i64 kd, .int .i64 tk, .int .i64 a, u] 33))))
  have HS0 := Lib.hid cf
  have HP : Hid (Calls Tryz.prog 22 #[.pointer (some ⟨rb, 0, none⟩), .int .i64 t, .int .i64 a] (w.alloc (.cells #[.int .i64 kd, .int .i64 tk, .int .i64 a, u] 33)).drew (fun e w' => e = .returned (.int .i64 (lockRE s t a)) ∧ RT (fun k => False ∨ k = w.heap.size) B W w' rb mb (lockR s t a) s ∧ w'.cell? ⟨w.heap.size, 0 + 2, none⟩ = some (.int .i64 a))) := Lib.hid ((RT.prg (v := .int .i64 (lockRE s t a)) h0 (hi.lock t a) (fun S q => Q0.lock q hi t a)).mono (fun e w' q => ⟨q.1, q.2.1, (World.cell?_of_block (a := ⟨w.heap.size, 0 + 2, none⟩) (q.2.2 w.heap.size (Or.inr rfl))).trans cf⟩))
  have HD : Hid (∀ w1, RT (fun k => False ∨ k = w.heap.size) B W w1 rb mb (lockR s t a) s → w1.cell? ⟨w.heap.size, 0 + 2, none⟩ = some (.int .i64 a) → Calls Tryz.prog 52 #[.pointer (some ⟨mb, 0, none⟩), .int .i64 t, .int .i64 a] w1 (fun e w' => e = .returned (.int .i64 (lockRE s t a)) ∧ RT (fun _ => False) B W w' rb mb (lockR s t a) (lockR s t a) ∧ w'.cell? ⟨w.heap.size, 0 + 2, none⟩ = some (.int .i64 a))) := Lib.hid (fun w1 h1 hc => (h1.doc (fun m q1 q2 => Dr.lock_any q1 q2 (fun _ => Iff.rfl) hi t a)).mono (fun e w' q => ⟨q.1, q.2.1.less (fun k hk => hk.elim), (World.cell?_of_block (a := ⟨w.heap.size, 0 + 2, none⟩) (q.2.2 w.heap.size (Or.inr rfl))).trans hc⟩))
  generalize lockR s t a = s1 at *
  generalize lockRE s t a = er at *
  clear h hk hi hu hob h0
  go_enter Tryz.func11, Tryz.ntmps11
  go_wp2_with fail
  refine (HB.out _).mono ?_
  rintro e w1 ⟨rfl, rfl⟩
  clear HB
  go_wp2_with fail
  clear c0
  generalize w.heap.size = xb at *
  go_region_held3 (fun w' => w'.cell? ⟨xb, 0 + 2, none⟩ = some (.int .i64 a))
    (first | assumption | exact HS0.out | go_keep)
    (first | (go_at_call 22; refine HP.out.mono ?_; rintro e w5 ⟨rfl, hr5, hS5⟩; have HD5 := Lib.hid (HD.out _ hr5 hS5); clear hr5) | (go_at_call 52; refine HD5.out.mono ?_; rintro e w6 ⟨rfl, hr6, hS6⟩; have H6 := Lib.hid hr6; clear hr6))
  all_goals
    go_wp2_with fail
    go_ret
    exact ⟨by simp, H6.out⟩
set_option maxHeartbeats 1000000 in
theorem do_end (h : RT (fun _ => False) B W w rb mb s s) (hu : ∀ w', Below B W w' → AS w' u l) (kd tk a t now : Int) (hk : bring kd 10 = 9) : Calls Tryz.prog 11 #[.pointer (some ⟨rb, 0, none⟩), .pointer (some ⟨mb, 0, none⟩), .agg #[.int .i64 kd, .int .i64 tk, .int .i64 a, u], .int .i64 t, .int .i64 now] w (fun e w' => e = .returned (.bool true) ∧ RT (fun _ => False) B W w' rb mb (doR s (bring kd 10) t a l now) (doR s (bring kd 10) t a l now)) := by
  have HB := Lib.hid (fun W => bring_any kd 10 W (by decide) (by decide))
  rw [hk] at HB ⊢
  have hi := h.iv
  have hob := heap_alloc_new w (.cells #[.int .i64 kd, .int .i64 tk, .int .i64 a, u] 33)
  have c2 : (w.alloc (.cells #[.int .i64 kd, .int .i64 tk, .int .i64 a, u] 33)).cell? ⟨w.heap.size, 0 + 2, none⟩ = some (.int .i64 a) := cell_of_row _ _ 2 _ _ _ hob
  have c0 : (w.alloc (.cells #[.int .i64 kd, .int .i64 tk, .int .i64 a, u] 33)).cell? ⟨w.heap.size, 0, none⟩ = some (.int .i64 kd) := cell_of_row _ _ 0 _ _ _ hob
  have h0 := Lib.hid (h.below (below_al w (.cells #[.int .i64 kd, .int .i64 tk, .int .i64 a, u] 33)))
  by_cases ha : a.tmod 3 = 0
  · rw [show doR s 9 t a l now = endR s t by unfold doR; rw [if_neg (by decide), if_neg (by decide), if_neg (by decide), if_neg (by decide), if_neg (by decide), if_neg (by decide), if_neg (by decide), if_neg (by decide), if_pos ha]]
    have HP := Lib.hid (RT.prg (v := .bool (endB s t)) h0.out (hi.fin t) (fun S q => Q0.fin q hi t))
    have HD : Hid (∀ w1, RT (fun _ => False) B W w1 rb mb (endR s t) s → Calls Tryz.prog 57 #[.pointer (some ⟨mb, 0, none⟩), .int .i64 t] w1 (fun e w' => e = .returned (.bool (endB s t)) ∧ RT (fun _ => False) B W w' rb mb (endR s t) (endR s t) ∧ ∀ k, False → w'.heap[k]? = w1.heap[k]?)) := Lib.hid (fun w1 h1 => h1.doc (fun m q1 q2 => Dr.fin_any q1 q2 (fun _ => Iff.rfl) hi t))
    have hx : (a.tmod 3 != 0) = false := by simpa using ha
    generalize endR s t = s1 at *
    generalize endB s t = er at *
    clear h hk hi hu hob h0 ha
    go_enter Tryz.func11, Tryz.ntmps11
    go_wp2_with fail
    refine (HB.out _).mono ?_
    rintro e w1 ⟨rfl, rfl⟩
    clear HB
    go_wp2_with fail
    refine HP.out.mono ?_
    rintro e w2 ⟨rfl, h2, _⟩
    have HD2 := Lib.hid (HD.out _ h2)
    clear h2 HP HD
    go_wp2_with fail
    refine HD2.out.mono ?_
    rintro e w3 ⟨rfl, h3, _⟩
    have H3 := Lib.hid h3
    clear h3 HD2
    go_wp2_with fail
    go_ret
    exact ⟨by simp, H3.out⟩
  · rw [show doR s 9 t a l now = s by unfold doR; rw [if_neg (by decide), if_neg (by decide), if_neg (by decide), if_neg (by decide), if_neg (by decide), if_neg (by decide), if_neg (by decide), if_neg (by decide), if_neg ha]]
    have hx : (a.tmod 3 != 0) = true := by simpa using ha
    clear h hk hi hu hob ha
    go_enter Tryz.func11, Tryz.ntmps11
    go_wp2_with fail
    refine (HB.out _).mono ?_
    rintro e w1 ⟨rfl, rfl⟩
    clear HB
    go_wp2_with fail
    go_ret
    exact ⟨rfl, h0.out⟩
theorem do_any (h : RT (fun _ => False) B W w rb mb s s) (hu : ∀ w', Below B W w' → AS w' u l) (kd tk a t now : Int) : Calls Tryz.prog 11 #[.pointer (some ⟨rb, 0, none⟩), .pointer (some ⟨mb, 0, none⟩), .agg #[.int .i64 kd, .int .i64 tk, .int .i64 a, u], .int .i64 t, .int .i64 now] w (fun e w' => e = .returned (.bool true) ∧ RT (fun _ => False) B W w' rb mb (doR s (bring kd 10) t a l now) (doR s (bring kd 10) t a l now)) := by
  have hb := bring_bd kd 10 (by decide)
  rcases (show bring kd 10 = 0 ∨ bring kd 10 = 1 ∨ bring kd 10 = 2 ∨ bring kd 10 = 3 ∨ bring kd 10 = 4 ∨ bring kd 10 = 5 ∨ bring kd 10 = 6 ∨ bring kd 10 = 7 ∨ bring kd 10 = 8 ∨ bring kd 10 = 9 by omega) with e | e | e | e | e | e | e | e | e | e
  · exact do_rel h hu kd tk a t now e
  · exact do_did h hu kd tk a t now e
  · exact do_run2 h hu kd tk a t now e
  · exact do_run3 h hu kd tk a t now e
  · exact do_lock h hu kd tk a t now e
  · exact do_unl h hu kd tk a t now e
  · exact do_ask h hu kd tk a t now e
  · exact do_hold h hu kd tk a t now e
  · exact do_give h hu kd tk a t now e
  · exact do_end h hu kd tk a t now e
end
end Go.Proofs.YtkkmfpllgjoceaaGreat.Ro
