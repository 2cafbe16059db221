/- The program's room, written: what lets a job do something; Did, Run, Lock, Unlock, Ask, Hold, Give, End. -/
import Derived.Test.YtkkmfpllgjoceaaGreatRooC
namespace Go.Proofs.YtkkmfpllgjoceaaGreat.Ro
open Go.RowKit Go.Sort Ac Jo
set_option linter.unusedVariables false
set_option maxRecDepth 100000

/-- the first of two that is not zero -/
theorem or_any {w : World} {g : Nat} {x y : Int} (h : w.heap[g]? = some (.cells #[.int .i64 x, .int .i64 y] 25 (0, 0))) : Calls Tryz.prog 134 #[.slice (some ⟨g, 0, none⟩) 2 2] w (VB (.int .i64 (if x = 0 then y else x)) w) := by
  obtain ⟨fv, hf⟩ : ∃ fv : Nat → Int, fv = fun j => if j = 0 then x else y := ⟨_, rfl⟩
  have hc : ∀ j : Nat, j < 2 → w.cell? ⟨g, j, none⟩ = some (.int .i64 (fv j)) := fun j hj => by
    rw [hf]
    rcases (show j = 0 ∨ j = 1 by omega) with rfl | rfl
    · exact cell_of_row _ _ 0 _ _ _ h
    · exact cell_of_row _ _ 1 _ _ _ h
  have HC := Lib.hid hc
  have HX : Hid (fv 0 = x ∧ fv 1 = y) := by rw [hf]; exact ⟨rfl, rfl⟩
  clear h hc hf
  obtain ⟨r, hr⟩ : ∃ r, r = (if x = 0 then y else x) := ⟨_, rfl⟩
  have HR := Lib.hid hr
  rw [← hr]
  clear hr
  go_enter Tryz.func134, Tryz.ntmps134
  go_wp2_with fail
  go_loopw [8] (fun i wr => ∃ k : Nat, k ≤ 2 ∧ i = .int .i64 k ∧ Hid (∀ j, j < k → fv j = 0) ∧ Hid (wr = w)) (fun i _ => 2 - (intOf i).toNat)
  case atStart => exact ⟨0, by omega, rfl, Lib.hid (fun j hj => absurd hj (Nat.not_lt_zero _)), rfl⟩
  case round =>
    obtain ⟨k, hk, rfl, HZ, HW⟩ := hrel
    obtain rfl := HW.out
    by_cases hlt : k < 2
    · have c := HC.out k hlt
      by_cases hx : fv k = 0
      · have hx2 : (fv k != 0) = false := by simpa using hx
        have HZ2 : Hid (∀ j, j < k + 1 → fv j = 0) := fun j hj => by
          by_cases e : j = k
          · rw [e]; exact hx
          · exact HZ.out j (by omega)
        generalize fv k = u at *
        clear hx
        go_wp2_with fail
        go_roundw
        case rel => exact ⟨k + 1, by omega, by go_num, HZ2.out, trivial⟩
        case measure => simp [intOf]; omega
      · have hx2 : (fv k != 0) = true := by simpa using hx
        have HE : Hid (fv k = r) := by
          show fv k = r
          rw [HR.out]
          rcases (show k = 0 ∨ k = 1 by omega) with rfl | rfl
          · rw [HX.out.1] at hx ⊢
            rw [if_neg hx]
          · have := HZ.out 0 (by omega)
            rw [HX.out.1] at this
            rw [if_pos this]; exact HX.out.2
        generalize fv k = u at *
        clear hx
        go_wp2_with fail
        go_ret
        exact ⟨by rw [← HE.out]; rfl, Below.refl _ _⟩
    · have HE : Hid ((0 : Int) = r) := by
        show (0 : Int) = r
        have h0 := HZ.out 0 (by omega)
        have h1 := HZ.out 1 (by omega)
        rw [HX.out.1] at h0
        rw [HX.out.2] at h1
        rw [HR.out, if_pos h0, h1]
      go_wp2_with fail
      go_ret
      exact ⟨by rw [← HE.out]; rfl, Below.refl _ _⟩
/-- a step of the room in memory -/
structure Stp (m : Mm) (w : World) (rb : Nat) (m' : Mm) (w' : World) (s' : Rm) : Prop where
  pr : PRM m' w' rb s'
  lb : Lb m m' w
  on : Only (fun k => m.lab k ≠ 0) w w'
section
variable {m m' m1 m2 : Mm} {w w' w1 w2 : World} {rb : Nat} {s s' s1 s2 : Rm}
theorem Stp.refl (h : PRM m w rb s) (b : Below w.heap.size w w') : Stp m w rb m w' s := ⟨h.below b, fun k hk => Or.inl hk, Only.of_below b⟩
theorem Stp.trans (a : Stp m w rb m1 w1 s1) (b : Stp m1 w1 rb m2 w2 s2) : Stp m w rb m2 w2 s2 := by
  have hs := a.on.size
  refine ⟨b.pr, fun k hk => ?_, only_old ((only_mono a.on (fun k hk => Or.inl hk)).trans (only_mono b.on (fun k hk => a.lb k hk)))⟩
  rcases b.lb k hk with y | y
  · exact a.lb k y
  · exact Or.inr (by omega)
theorem Stp.below (a : Stp m w rb m1 w1 s1) (b : Below w1.heap.size w1 w2) : Stp m w rb m1 w2 s1 := a.trans (Stp.refl a.pr b)
theorem Stp.rp {S : Nat → Prop} {v : Value} (a : Stp m w rb m' w' s') (hp : Jp m' s') (hS : ∀ k, S k ↔ m.lab k ≠ 0) : RP JJ v rb S s' w (.returned v) w' := RP.of hS a.pr hp a.lb a.on
theorem Stp.job (h : PRM m w rb s) {i : Nat} (hi : i < s.n) (hp : m.p i = true) {j : Jb} (pj : PJ w' (m.ja i) (m.jr i) (m.jg i) j) (o : Only (Tri (m.ja i) (m.jr i) (m.jg i)) w w') : Stp m w rb m w' (setJ s i j) := by
  obtain ⟨h1, h2⟩ := h.job hi hp pj o
  exact ⟨h1, fun k hk => Or.inl hk, h2⟩
/-- an answer of a job, of i -/
def JQ (m : Mm) (i : Nat) (x : Int) (j : Jb) (w : World) (e : Ending) (w' : World) : Prop := e = .returned (.int .i64 x) ∧ PJ w' (m.ja i) (m.jr i) (m.jg i) j ∧ Only (Tri (m.ja i) (m.jr i) (m.jg i)) w w'
theorem jq_rp {S : Nat → Prop} (h : PRM m w rb s) (hp : Jp m s) (hS : ∀ k, S k ↔ m.lab k ≠ 0) {i : Nat} (hi : i < s.n) (hpi : m.p i = true) {x : Int} {j : Jb} {e : Ending} (q : JQ m i x j w e w') : RP JJ (.int .i64 x) rb S (setJ s i j) w e w' := by
  obtain ⟨rfl, q1, q2⟩ := q
  exact (Stp.job h hi hpi q1 q2).rp hp hS
theorem asks_err2 (w : World) (F : Nat) (C : Array Value) : Calls Tryz.prog 135 #[.func (.func F) #[] C] w (fun e w' => ∃ B, e = .returned (.func (.func 176) #[] #[.pointer (some ⟨B, 0, none⟩)]) ∧ w'.heap[B]? = some (.cells #[.func (.func F) #[] C] 108 (0, 0)) ∧ w.heap.size ≤ B ∧ Below w.heap.size w w') := by
  go_enter Tryz.func135, Tryz.ntmps135
  go_wp2_with fail
  go_ret
  exact ⟨w.heap.size, rfl, heap_alloc_new w _, Nat.le_refl _, (Below.refl _ _).alloc (Nat.le_refl _) _⟩
theorem does_no (h : PRM m w rb s) (hp : Jp m s) {t : Int} (ha : asked s t ≠ 0) (F : Nat) (C : Array Value) : Calls Tryz.prog 77 #[.pointer (some ⟨rb, 0, none⟩), .int .i64 t, .func (.func F) #[] C] w (VB (.int .i64 (asked s t)) w) := by
  have HC : Hid (∀ (w1 : World) (B : Nat), Below w.heap.size w w1 → Calls Tryz.prog 176 #[.pointer (some ⟨rb, 0, none⟩), .int .i64 t, .pointer (some ⟨B, 0, none⟩)] w1 (VB (.tuple #[.int .i64 0, .int .i64 (asked s t)]) w1)) := fun w1 B hb => no_err (M := .nilFunc) (h.below hb) hp ha
  have HO : Hid (∀ w1 : World, Calls Tryz.prog 134 #[.slice (some ⟨w1.heap.size, 0, none⟩) 2 2] (w1.alloc (.cells #[.int .i64 0, .int .i64 (asked s t)] 25)) (VB (.int .i64 (asked s t)) (w1.alloc (.cells #[.int .i64 0, .int .i64 (asked s t)] 25)))) := fun w1 => by
    have := or_any (heap_alloc_new w1 (.cells #[.int .i64 0, .int .i64 (asked s t)] 25))
    rw [if_pos rfl] at this
    exact this
  generalize asked s t = x at *
  clear h hp ha
  go_enter Tryz.func77, Tryz.ntmps77
  go_wp2_with fail
  refine (asks_err _ _ _).mono ?_
  rintro e w1 ⟨B, rfl, hB, hb1⟩
  have HD := Lib.hid (HC.out w1 B hb1)
  have HB1 := Lib.hid hb1
  clear hB hb1 HC
  go_wp2_with fail
  refine HD.out.mono ?_
  rintro e w2 ⟨rfl, hb2⟩
  have HB2 := Lib.hid (chn HB1.out hb2)
  clear hb2 HD HB1
  go_wp2_with fail
  refine (HO.out _).mono ?_
  rintro e w3 ⟨rfl, hb3⟩
  have HB3 := Lib.hid (chn (HB2.out.alloc HB2.out.size _) hb3)
  clear hb3 HO HB2
  go_wp2_with fail
  go_ret
  exact ⟨rfl, HB3.out⟩
theorem does_did {x : Int} {j : Jb} (h : PRM m w rb s) (hp : Jp m s) {i : Nat} (hi : i < s.n) (hpi : m.p i = true) (ha : asked s i = 0)
    (HM : ∀ w1, Below w.heap.size w w1 → Calls Tryz.prog 78 #[.pointer (some ⟨m.ja i, 0, none⟩)] w1 (PP (.int .i64 x) (m.ja i) (m.jr i) (m.jg i) j w1)) : Calls Tryz.prog 77 #[.pointer (some ⟨rb, 0, none⟩), .int .i64 i, .func (.func 78) #[] #[]] w (JQ m i x j w) := by
  have HC : Hid (∀ (w1 : World) (B : Nat), Below w.heap.size w w1 → w.heap.size ≤ B → w1.heap[B]? = some (.cells #[.func (.func 78) #[] #[]] 108 (0, 0)) → Calls Tryz.prog 176 #[.pointer (some ⟨rb, 0, none⟩), .int .i64 i, .pointer (some ⟨B, 0, none⟩)] w1 (AP (.int .i64 x) (m.ja i) (m.jr i) (m.jg i) j w1)) := fun w1 B hb hBs hB =>
    wr_did (h.below hb) hp hi hpi ha hB (Decidable.byContradiction fun y => by have := h.lt B y; omega) (fun w2 hb2 => HM w2 (chn hb hb2))
  have HO : Hid (∀ w1 : World, Calls Tryz.prog 134 #[.slice (some ⟨w1.heap.size, 0, none⟩) 2 2] (w1.alloc (.cells #[.int .i64 x, .int .i64 0] 25)) (VB (.int .i64 x) (w1.alloc (.cells #[.int .i64 x, .int .i64 0] 25)))) := fun w1 => by
    have := or_any (heap_alloc_new w1 (.cells #[.int .i64 x, .int .i64 0] 25))
    by_cases hx : x = 0
    · subst hx; exact this
    · rw [if_neg hx] at this; exact this
  have HF : Hid (∀ (w1 w2 w3 : World), Below w.heap.size w w1 → PJ w2 (m.ja i) (m.jr i) (m.jg i) j → Only (Tri (m.ja i) (m.jr i) (m.jg i)) w1 w2 → Below (w2.alloc (.cells #[.int .i64 x, .int .i64 0] 25)).heap.size (w2.alloc (.cells #[.int .i64 x, .int .i64 0] 25)) w3 → JQ m i x j w (.returned (.int .i64 x)) w3) := fun w1 w2 w3 q1 q2 q3 q4 =>
    ⟨rfl, (q2.below (below_al w2 _)).below q4, (((Only.of_below q1).trans q3).trans (Only.of_below (below_al w2 _))).trans (Only.of_below q4)⟩
  clear HM h hp hi hpi ha
  go_enter Tryz.func77, Tryz.ntmps77
  go_wp2_with fail
  refine (asks_err2 _ _ _).mono ?_
  rintro e w1 ⟨B, rfl, hB, hBs, hb1⟩
  have HD := Lib.hid (HC.out w1 B hb1 hBs hB)
  have HB1 := Lib.hid hb1
  clear hB hb1 HC hBs
  go_wp2_with fail
  refine HD.out.mono ?_
  rintro e w2 ⟨rfl, hj2, ho2⟩
  have HJ2 := Lib.hid hj2
  have HO2 := Lib.hid ho2
  clear hj2 ho2 HD
  go_wp2_with fail
  refine (HO.out _).mono ?_
  rintro e w3 ⟨rfl, hb3⟩
  have HE := Lib.hid (HF.out w1 w2 w3 HB1.out HJ2.out HO2.out hb3)
  clear hb3 HO HJ2 HO2 HB1 HF
  go_wp2_with fail
  go_ret
  exact HE.out
theorem does_run {x : Int} {j : Jb} (h : PRM m w rb s) (hp : Jp m s) {i : Nat} (hi : i < s.n) (hpi : m.p i = true) (ha : asked s i = 0)
    (HM : ∀ w1, Below w.heap.size w w1 → Calls Tryz.prog 79 #[.pointer (some ⟨m.ja i, 0, none⟩)] w1 (PP (.int .i64 x) (m.ja i) (m.jr i) (m.jg i) j w1)) : Calls Tryz.prog 77 #[.pointer (some ⟨rb, 0, none⟩), .int .i64 i, .func (.func 79) #[] #[]] w (JQ m i x j w) := by
  have HC : Hid (∀ (w1 : World) (B : Nat), Below w.heap.size w w1 → w.heap.size ≤ B → w1.heap[B]? = some (.cells #[.func (.func 79) #[] #[]] 108 (0, 0)) → Calls Tryz.prog 176 #[.pointer (some ⟨rb, 0, none⟩), .int .i64 i, .pointer (some ⟨B, 0, none⟩)] w1 (AP (.int .i64 x) (m.ja i) (m.jr i) (m.jg i) j w1)) := fun w1 B hb hBs hB =>
    wr_run (h.below hb) hp hi hpi ha hB (Decidable.byContradiction fun y => by have := h.lt B y; omega) (fun w2 hb2 => HM w2 (chn hb hb2))
  have HO : Hid (∀ w1 : World, Calls Tryz.prog 134 #[.slice (some ⟨w1.heap.size, 0, none⟩) 2 2] (w1.alloc (.cells #[.int .i64 x, .int .i64 0] 25)) (VB (.int .i64 x) (w1.alloc (.cells #[.int .i64 x, .int .i64 0] 25)))) := fun w1 => by
    have := or_any (heap_alloc_new w1 (.cells #[.int .i64 x, .int .i64 0] 25))
    by_cases hx : x = 0
    · subst hx; exact this
    · rw [if_neg hx] at this; exact this
  have HF : Hid (∀ (w1 w2 w3 : World), Below w.heap.size w w1 → PJ w2 (m.ja i) (m.jr i) (m.jg i) j → Only (Tri (m.ja i) (m.jr i) (m.jg i)) w1 w2 → Below (w2.alloc (.cells #[.int .i64 x, .int .i64 0] 25)).heap.size (w2.alloc (.cells #[.int .i64 x, .int .i64 0] 25)) w3 → JQ m i x j w (.returned (.int .i64 x)) w3) := fun w1 w2 w3 q1 q2 q3 q4 =>
    ⟨rfl, (q2.below (below_al w2 _)).below q4, (((Only.of_below q1).trans q3).trans (Only.of_below (below_al w2 _))).trans (Only.of_below q4)⟩
  clear HM h hp hi hpi ha
  go_enter Tryz.func77, Tryz.ntmps77
  go_wp2_with fail
  refine (asks_err2 _ _ _).mono ?_
  rintro e w1 ⟨B, rfl, hB, hBs, hb1⟩
  have HD := Lib.hid (HC.out w1 B hb1 hBs hB)
  have HB1 := Lib.hid hb1
  clear hB hb1 HC hBs
  go_wp2_with fail
  refine HD.out.mono ?_
  rintro e w2 ⟨rfl, hj2, ho2⟩
  have HJ2 := Lib.hid hj2
  have HO2 := Lib.hid ho2
  clear hj2 ho2 HD
  go_wp2_with fail
  refine (HO.out _).mono ?_
  rintro e w3 ⟨rfl, hb3⟩
  have HE := Lib.hid (HF.out w1 w2 w3 HB1.out HJ2.out HO2.out hb3)
  clear hb3 HO HJ2 HO2 HB1 HF
  go_wp2_with fail
  go_ret
  exact HE.out
theorem does_lea {x : Int} {j : Jb} (h : PRM m w rb s) (hp : Jp m s) {i : Nat} (hi : i < s.n) (hpi : m.p i = true) (ha : asked s i = 0)
    (HM : ∀ w1, Below w.heap.size w w1 → Calls Tryz.prog 148 #[.pointer (some ⟨m.ja i, 0, none⟩)] w1 (PP (.int .i64 x) (m.ja i) (m.jr i) (m.jg i) j w1)) : Calls Tryz.prog 77 #[.pointer (some ⟨rb, 0, none⟩), .int .i64 i, .func (.func 148) #[] #[]] w (JQ m i x j w) := by
  have HC : Hid (∀ (w1 : World) (B : Nat), Below w.heap.size w w1 → w.heap.size ≤ B → w1.heap[B]? = some (.cells #[.func (.func 148) #[] #[]] 108 (0, 0)) → Calls Tryz.prog 176 #[.pointer (some ⟨rb, 0, none⟩), .int .i64 i, .pointer (some ⟨B, 0, none⟩)] w1 (AP (.int .i64 x) (m.ja i) (m.jr i) (m.jg i) j w1)) := fun w1 B hb hBs hB =>
    wr_lea (h.below hb) hp hi hpi ha hB (Decidable.byContradiction fun y => by have := h.lt B y; omega) (fun w2 hb2 => HM w2 (chn hb hb2))
  have HO : Hid (∀ w1 : World, Calls Tryz.prog 134 #[.slice (some ⟨w1.heap.size, 0, none⟩) 2 2] (w1.alloc (.cells #[.int .i64 x, .int .i64 0] 25)) (VB (.int .i64 x) (w1.alloc (.cells #[.int .i64 x, .int .i64 0] 25)))) := fun w1 => by
    have := or_any (heap_alloc_new w1 (.cells #[.int .i64 x, .int .i64 0] 25))
    by_cases hx : x = 0
    · subst hx; exact this
    · rw [if_neg hx] at this; exact this
  have HF : Hid (∀ (w1 w2 w3 : World), Below w.heap.size w w1 → PJ w2 (m.ja i) (m.jr i) (m.jg i) j → Only (Tri (m.ja i) (m.jr i) (m.jg i)) w1 w2 → Below (w2.alloc (.cells #[.int .i64 x, .int .i64 0] 25)).heap.size (w2.alloc (.cells #[.int .i64 x, .int .i64 0] 25)) w3 → JQ m i x j w (.returned (.int .i64 x)) w3) := fun w1 w2 w3 q1 q2 q3 q4 =>
    ⟨rfl, (q2.below (below_al w2 _)).below q4, (((Only.of_below q1).trans q3).trans (Only.of_below (below_al w2 _))).trans (Only.of_below q4)⟩
  clear HM h hp hi hpi ha
  go_enter Tryz.func77, Tryz.ntmps77
  go_wp2_with fail
  refine (asks_err2 _ _ _).mono ?_
  rintro e w1 ⟨B, rfl, hB, hBs, hb1⟩
  have HD := Lib.hid (HC.out w1 B hb1 hBs hB)
  have HB1 := Lib.hid hb1
  clear hB hb1 HC hBs
  go_wp2_with fail
  refine HD.out.mono ?_
  rintro e w2 ⟨rfl, hj2, ho2⟩
  have HJ2 := Lib.hid hj2
  have HO2 := Lib.hid ho2
  clear hj2 ho2 HD
  go_wp2_with fail
  refine (HO.out _).mono ?_
  rintro e w3 ⟨rfl, hb3⟩
  have HE := Lib.hid (HF.out w1 w2 w3 HB1.out HJ2.out HO2.out hb3)
  clear hb3 HO HJ2 HO2 HB1 HF
  go_wp2_with fail
  go_ret
  exact HE.out
theorem does_ent {p1 p2 : Value} {x : Int} {j : Jb} (h : PRM m w rb s) (hp : Jp m s) {i : Nat} (hi : i < s.n) (hpi : m.p i = true) (ha : asked s i = 0)
    (HM : ∀ w1, Below w.heap.size w w1 → Calls Tryz.prog 183 #[.pointer (some ⟨m.ja i, 0, none⟩), p1, p2] w1 (PP (.int .i64 x) (m.ja i) (m.jr i) (m.jg i) j w1)) : Calls Tryz.prog 77 #[.pointer (some ⟨rb, 0, none⟩), .int .i64 i, .func (.func 183) #[] #[p1, p2]] w (JQ m i x j w) := by
  have HC : Hid (∀ (w1 : World) (B : Nat), Below w.heap.size w w1 → w.heap.size ≤ B → w1.heap[B]? = some (.cells #[.func (.func 183) #[] #[p1, p2]] 108 (0, 0)) → Calls Tryz.prog 176 #[.pointer (some ⟨rb, 0, none⟩), .int .i64 i, .pointer (some ⟨B, 0, none⟩)] w1 (AP (.int .i64 x) (m.ja i) (m.jr i) (m.jg i) j w1)) := fun w1 B hb hBs hB =>
    wr_ent (h.below hb) hp hi hpi ha hB (Decidable.byContradiction fun y => by have := h.lt B y; omega) (fun w2 hb2 => HM w2 (chn hb hb2))
  have HO : Hid (∀ w1 : World, Calls Tryz.prog 134 #[.slice (some ⟨w1.heap.size, 0, none⟩) 2 2] (w1.alloc (.cells #[.int .i64 x, .int .i64 0] 25)) (VB (.int .i64 x) (w1.alloc (.cells #[.int .i64 x, .int .i64 0] 25)))) := fun w1 => by
    have := or_any (heap_alloc_new w1 (.cells #[.int .i64 x, .int .i64 0] 25))
    by_cases hx : x = 0
    · subst hx; exact this
    · rw [if_neg hx] at this; exact this
  have HF : Hid (∀ (w1 w2 w3 : World), Below w.heap.size w w1 → PJ w2 (m.ja i) (m.jr i) (m.jg i) j → Only (Tri (m.ja i) (m.jr i) (m.jg i)) w1 w2 → Below (w2.alloc (.cells #[.int .i64 x, .int .i64 0] 25)).heap.size (w2.alloc (.cells #[.int .i64 x, .int .i64 0] 25)) w3 → JQ m i x j w (.returned (.int .i64 x)) w3) := fun w1 w2 w3 q1 q2 q3 q4 =>
    ⟨rfl, (q2.below (below_al w2 _)).below q4, (((Only.of_below q1).trans q3).trans (Only.of_below (below_al w2 _))).trans (Only.of_below q4)⟩
  clear HM h hp hi hpi ha
  go_enter Tryz.func77, Tryz.ntmps77
  go_wp2_with fail
  refine (asks_err2 _ _ _).mono ?_
  rintro e w1 ⟨B, rfl, hB, hBs, hb1⟩
  have HD := Lib.hid (HC.out w1 B hb1 hBs hB)
  have HB1 := Lib.hid hb1
  clear hB hb1 HC hBs
  go_wp2_with fail
  refine HD.out.mono ?_
  rintro e w2 ⟨rfl, hj2, ho2⟩
  have HJ2 := Lib.hid hj2
  have HO2 := Lib.hid ho2
  clear hj2 ho2 HD
  go_wp2_with fail
  refine (HO.out _).mono ?_
  rintro e w3 ⟨rfl, hb3⟩
  have HE := Lib.hid (HF.out w1 w2 w3 HB1.out HJ2.out HO2.out hb3)
  clear hb3 HO HJ2 HO2 HB1 HF
  go_wp2_with fail
  go_ret
  exact HE.out
theorem did_any {S : Nat → Prop} (h : PRM m w rb s) (hp : Jp m s) (hS : ∀ k, S k ↔ m.lab k ≠ 0) (hi : Rinv s) (t : Int) : Calls Tryz.prog 20 #[.pointer (some ⟨rb, 0, none⟩), .int .i64 t] w (RP JJ (.int .i64 (didRE s t)) rb S (didR s t) w) := by
  by_cases ha : asked s t = 0
  · have e2 : didR s t = setJ s t (didJ (s.j t)) := if_pos ha
    have HI := jinv h hi ha
    obtain ⟨i, rfl, hin, hpi, hjp, hsj⟩ := asked_p hp ha
    rw [e2, hsj]
    rw [hsj] at HI
    have HD := Lib.hid (does_did (m := m) (x := didRE s i) h hp hin hpi ha fun w1 hb => by
      have e1 := pj_did ((h.below hb).jb i hin hpi) HI
      have e3 : didRE s i = didE (s.J i).l := by rw [show didRE s i = didE (s.j i).l from if_pos ha, hsj]
      rw [e3]; exact e1)
    have HF : Hid (∀ e w', JQ m i (didRE s i) (didJ (s.J i)) w e w' → RP JJ (.int .i64 (didRE s i)) rb S (setJ s i (didJ (s.J i))) w e w') := fun e w' q => jq_rp h hp hS hin hpi q
    generalize didRE s i = x at *
    clear h hp hS hi ha e2 hin hpi hjp hsj HI
    go_enter Tryz.func20, Tryz.ntmps20
    go_wp2_with fail
    refine HD.out.mono ?_
    rintro e w1 hq
    have HE := Lib.hid (HF.out _ _ hq)
    obtain ⟨rfl, _⟩ := hq
    clear HF HD
    go_wp2_with fail
    go_ret
    exact HE.out
  · have e1 : didRE s t = asked s t := if_neg ha
    have e2 : didR s t = s := if_neg ha
    rw [e1, e2]
    have HD := Lib.hid (does_no h hp ha 78 #[])
    have HF : Hid (∀ w', Below w.heap.size w w' → RP JJ (.int .i64 (asked s t)) rb S s w (.returned (.int .i64 (asked s t))) w') := fun w' q => (Stp.refl h q).rp hp hS
    generalize asked s t = x at *
    clear h hp hS hi ha e1 e2
    go_enter Tryz.func20, Tryz.ntmps20
    go_wp2_with fail
    refine HD.out.mono ?_
    rintro e w1 ⟨rfl, hb⟩
    have HE := Lib.hid (HF.out _ hb)
    clear HF HD hb
    go_wp2_with fail
    go_ret
    exact HE.out
theorem run_any {S : Nat → Prop} (h : PRM m w rb s) (hp : Jp m s) (hS : ∀ k, S k ↔ m.lab k ≠ 0) (hi : Rinv s) (t : Int) : Calls Tryz.prog 21 #[.pointer (some ⟨rb, 0, none⟩), .int .i64 t] w (RP JJ (.int .i64 (runRE s t)) rb S (runR s t) w) := by
  by_cases ha : asked s t = 0
  · have e2 : runR s t = setJ s t (runJ (s.j t)) := if_pos ha
    have HI := jinv h hi ha
    obtain ⟨i, rfl, hin, hpi, hjp, hsj⟩ := asked_p hp ha
    rw [e2, hsj]
    rw [hsj] at HI
    have HD := Lib.hid (does_run (m := m) (x := runRE s i) h hp hin hpi ha fun w1 hb => by
      have e1 := pj_run ((h.below hb).jb i hin hpi) HI
      have e3 : runRE s i = runE (s.J i) := by rw [show runRE s i = runE (s.j i) from if_pos ha, hsj]
      rw [e3]; exact e1)
    have HF : Hid (∀ e w', JQ m i (runRE s i) (runJ (s.J i)) w e w' → RP JJ (.int .i64 (runRE s i)) rb S (setJ s i (runJ (s.J i))) w e w') := fun e w' q => jq_rp h hp hS hin hpi q
    generalize runRE s i = x at *
    clear h hp hS hi ha e2 hin hpi hjp hsj HI
    go_enter Tryz.func21, Tryz.ntmps21
    go_wp2_with fail
    refine HD.out.mono ?_
    rintro e w1 hq
    have HE := Lib.hid (HF.out _ _ hq)
    obtain ⟨rfl, _⟩ := hq
    clear HF HD
    go_wp2_with fail
    go_ret
    exact HE.out
  · have e1 : runRE s t = asked s t := if_neg ha
    have e2 : runR s t = s := if_neg ha
    rw [e1, e2]
    have HD := Lib.hid (does_no h hp ha 79 #[])
    have HF : Hid (∀ w', Below w.heap.size w w' → RP JJ (.int .i64 (asked s t)) rb S s w (.returned (.int .i64 (asked s t))) w') := fun w' q => (Stp.refl h q).rp hp hS
    generalize asked s t = x at *
    clear h hp hS hi ha e1 e2
    go_enter Tryz.func21, Tryz.ntmps21
    go_wp2_with fail
    refine HD.out.mono ?_
    rintro e w1 ⟨rfl, hb⟩
    have HE := Lib.hid (HF.out _ hb)
    clear HF HD hb
    go_wp2_with fail
    go_ret
    exact HE.out
theorem ent_any' (h : PRM m w rb s) (hp : Jp m s) {i : Nat} (hin : i < s.n) (hpi : m.p i = true) (ha : asked s i = 0) (HI : Jo.Inv (s.J i)) (a : Int) : Calls Tryz.prog 83 #[.pointer (some ⟨rb, 0, none⟩), .int .i64 i, .int .i64 a] w (JQ m i (entE (s.J i) a) (entJ (s.J i) a) w) := by
  have HD : Hid (∀ (w1 : World) (B1 B2 : Nat), Below w.heap.size w w1 → w1.heap[B1]? = some (.cells #[.func (.func 146) #[] #[]] 178 (0, 0)) → w1.heap[B2]? = some (.cells #[.int .i64 a] 3 (0, 0)) → Calls Tryz.prog 77 #[.pointer (some ⟨rb, 0, none⟩), .int .i64 i, .func (.func 183) #[] #[.pointer (some ⟨B1, 0, none⟩), .pointer (some ⟨B2, 0, none⟩)]] w1 (JQ m i (entE (s.J i) a) (entJ (s.J i) a) w1)) := fun w1 B1 B2 hb h1 h2 =>
    does_ent (h.below hb) hp hin hpi ha fun w2 hb2 => with1_ent ((hb2.block _ (lt_of_block h1)).trans h1) ((hb2.block _ (lt_of_block h2)).trans h2) (pj_enter (((h.below hb).below hb2).jb i hin hpi) HI a)
  generalize entE (s.J i) a = x at *
  generalize entJ (s.J i) a = j at *
  clear h hp ha HI hin hpi
  go_enter Tryz.func83, Tryz.ntmps83
  go_wp2_with fail
  refine (with_err _ _ _).mono ?_
  rintro e w1 ⟨B1, B2, rfl, h1, h2, hb1⟩
  have HE := Lib.hid (HD.out w1 B1 B2 hb1 h1 h2)
  have HB1 := Lib.hid hb1
  clear h1 h2 hb1 HD
  go_wp2_with fail
  refine HE.out.mono ?_
  rintro e w2 ⟨rfl, hj, ho⟩
  have HF : Hid (JQ m i x j w (.returned (.int .i64 x)) w2) := ⟨rfl, hj, (Only.of_below HB1.out).trans ho⟩
  clear hj ho HE HB1
  go_wp2_with fail
  go_ret
  exact HF.out
theorem ent_any (h : PRM m w rb s) (hp : Jp m s) (hi : Rinv s) {i : Nat} (hin : i < s.n) (hpi : m.p i = true) (ha : asked s i = 0) (a : Int) : Calls Tryz.prog 83 #[.pointer (some ⟨rb, 0, none⟩), .int .i64 i, .int .i64 a] w (JQ m i (entE (s.J i) a) (entJ (s.J i) a) w) := ent_any' h hp hin hpi ha (jinv h hi ha) a
theorem lea_any (h : PRM m w rb s) (hp : Jp m s) {i : Nat} (hin : i < s.n) (hpi : m.p i = true) (ha : asked s i = 0) : Calls Tryz.prog 85 #[.pointer (some ⟨rb, 0, none⟩), .int .i64 i] w (JQ m i (leaE (s.J i)) (leaJ (s.J i)) w) := by
  have HD := Lib.hid (does_lea (x := leaE (s.J i)) (j := leaJ (s.J i)) h hp hin hpi ha fun w1 hb => pj_leave ((h.below hb).jb i hin hpi))
  generalize leaE (s.J i) = x at *
  generalize leaJ (s.J i) = j at *
  clear h hp ha hin hpi
  go_enter Tryz.func85, Tryz.ntmps85
  go_wp2_with fail
  refine HD.out.mono ?_
  rintro e w1 hq
  have HE := Lib.hid hq
  obtain ⟨rfl, _⟩ := hq
  clear HD
  go_wp2_with fail
  go_ret
  exact HE.out
set_option maxHeartbeats 1000000 in
theorem hold_any {S : Nat → Prop} (h : PRM m w rb s) (hp : Jp m s) (hS : ∀ k, S k ↔ m.lab k ≠ 0) (hi : Rinv s) (t : Int) : Calls Tryz.prog 25 #[.pointer (some ⟨rb, 0, none⟩), .int .i64 t] w (RP JJ (.int .i64 (holdRE s t)) rb S (holdR s t) w) := by
  by_cases ha : asked s t ≠ 0
  · skip
    have HSEC := Lib.hid (sec_any h hp t)
    have e1 : holdRE s t = asked s t := by unfold holdRE; rw [if_pos ha]
    have e2 : holdR s t = s := by unfold holdR; rw [if_neg (by rw [e1]; exact ha)]
    rw [e1, e2]
    have hx : (asked s t != 0) = true := by simpa using ha
    have HF : Hid (∀ w', Below w.heap.size w w' → RP JJ (.int .i64 (asked s t)) rb S s w (.returned (.int .i64 (asked s t))) w') := fun w' q => (Stp.refl h q).rp hp hS
    generalize asked s t = x at *
    generalize secN s t = y at *
    clear h hp hS hi ha e1 e2
    go_enter Tryz.func25, Tryz.ntmps25
    go_wp2_with fail
    refine HSEC.out.mono ?_
    rintro e w1 ⟨rfl, hb⟩
    have HE := Lib.hid (HF.out _ hb)
    clear HF HSEC hb
    go_wp2_with fail
    go_ret
    exact HE.out
  · have ha : asked s t = 0 := Decidable.not_not.1 ha
    have HI := jinv h hi ha
    have HSEC := sec_any h hp t
    have es : secN s t = (s.j t).c := if_pos ha
    rw [es, ha] at HSEC
    obtain ⟨i, rfl, hin, hpi, hjp, hsj⟩ := asked_p hp ha
    rw [hsj] at HSEC HI
    have HSEC := Lib.hid HSEC
    by_cases hc : (s.J i).c = 3
    · have e1 : holdRE s i = 0 := by unfold holdRE; rw [if_neg (by rw [ha]; decide), hsj, if_neg (by omega)]
      have e2 : holdR s i = setJ s i (entJ (s.J i) 2) := by unfold holdR; rw [if_pos e1, hsj]
      have e3 : entE (s.J i) 2 = 0 := by unfold entE; rw [if_neg (by decide), if_pos ⟨hc, rfl⟩]
      rw [e1, e2]
      have HEN : Hid (∀ w1, Below w.heap.size w w1 → Calls Tryz.prog 83 #[.pointer (some ⟨rb, 0, none⟩), .int .i64 i, .int .i64 2] w1 (JQ m i 0 (entJ (s.J i) 2) w1)) := fun w1 hb => by have := ent_any (h.below hb) hp hi hin hpi ha 2; rw [e3] at this; exact this
      have HF : Hid (∀ w1 e w', Below w.heap.size w w1 → JQ m i 0 (entJ (s.J i) 2) w1 e w' → RP JJ (.int .i64 0) rb S (setJ s i (entJ (s.J i) 2)) w e w') := fun w1 e w' hb q => by
        obtain ⟨rfl, q1, q2⟩ := q
        exact ((Stp.refl h hb).trans (Stp.job (h.below hb) hin hpi q1 q2)).rp hp hS
      rw [hc] at HSEC
      clear h hp hS hi ha e1 e2 e3 hin hpi hjp hsj HI es hc
      go_enter Tryz.func25, Tryz.ntmps25
      go_wp2_with fail
      refine HSEC.out.mono ?_
      rintro e w1 ⟨rfl, hb⟩
      have HB := Lib.hid hb
      clear HSEC hb
      go_wp2_with fail
      refine (HEN.out _ HB.out).mono ?_
      rintro e w2 hq
      have HE := Lib.hid (HF.out _ _ _ HB.out hq)
      obtain ⟨rfl, _⟩ := hq
      clear HEN HF HB
      go_wp2_with fail
      go_ret
      exact HE.out
    · have e1 : holdRE s i = 132 := by unfold holdRE; rw [if_neg (by rw [ha]; decide), hsj, if_pos (by omega)]
      have e2 : holdR s i = s := by unfold holdR; rw [if_neg (by rw [e1]; decide)]
      rw [e1, e2]
      have HF : Hid (∀ w', Below w.heap.size w w' → RP JJ (.int .i64 132) rb S s w (.returned (.int .i64 132)) w') := fun w' q => (Stp.refl h q).rp hp hS
      have hx : ((s.J i).c != 3) = true := by simpa using hc
      generalize (s.J i).c = y at *
      clear h hp hS hi ha e1 e2 hin hpi hjp hsj HI es hc
      go_enter Tryz.func25, Tryz.ntmps25
      go_wp2_with fail
      refine HSEC.out.mono ?_
      rintro e w1 ⟨rfl, hb⟩
      have HE := Lib.hid (HF.out _ hb)
      clear HSEC hb HF
      go_wp2_with fail
      go_ret
      exact HE.out
set_option maxHeartbeats 1000000 in
theorem give_any {S : Nat → Prop} (h : PRM m w rb s) (hp : Jp m s) (hS : ∀ k, S k ↔ m.lab k ≠ 0) (hi : Rinv s) (t : Int) : Calls Tryz.prog 26 #[.pointer (some ⟨rb, 0, none⟩), .int .i64 t] w (RP JJ (.int .i64 (giveRE s t)) rb S (giveR s t) w) := by
  by_cases ha : asked s t ≠ 0
  · skip
    have HSEC := Lib.hid (sec_any h hp t)
    have e1 : giveRE s t = asked s t := by unfold giveRE; rw [if_pos ha]
    have e2 : giveR s t = s := by unfold giveR; rw [if_neg (by rw [e1]; exact ha)]
    rw [e1, e2]
    have hx : (asked s t != 0) = true := by simpa using ha
    have HF : Hid (∀ w', Below w.heap.size w w' → RP JJ (.int .i64 (asked s t)) rb S s w (.returned (.int .i64 (asked s t))) w') := fun w' q => (Stp.refl h q).rp hp hS
    generalize asked s t = x at *
    generalize secN s t = y at *
    clear h hp hS hi ha e1 e2
    go_enter Tryz.func26, Tryz.ntmps26
    go_wp2_with fail
    refine HSEC.out.mono ?_
    rintro e w1 ⟨rfl, hb⟩
    have HE := Lib.hid (HF.out _ hb)
    clear HF HSEC hb
    go_wp2_with fail
    go_ret
    exact HE.out
  · have ha : asked s t = 0 := Decidable.not_not.1 ha
    have HI := jinv h hi ha
    have HSEC := sec_any h hp t
    have es : secN s t = (s.j t).c := if_pos ha
    rw [es, ha] at HSEC
    obtain ⟨i, rfl, hin, hpi, hjp, hsj⟩ := asked_p hp ha
    rw [hsj] at HSEC HI
    have HSEC := Lib.hid HSEC
    by_cases hc : (s.J i).c = 2
    · have e1 : giveRE s i = 0 := by unfold giveRE; rw [if_neg (by rw [ha]; decide), hsj, if_neg (by omega)]
      have e2 : giveR s i = setJ s i (leaJ (s.J i)) := by unfold giveR; rw [if_pos e1, hsj]
      have e3 : leaE (s.J i) = 0 := by unfold leaE; rw [if_neg (by omega)]
      rw [e1, e2]
      have HEN : Hid (∀ w1, Below w.heap.size w w1 → Calls Tryz.prog 85 #[.pointer (some ⟨rb, 0, none⟩), .int .i64 i] w1 (JQ m i 0 (leaJ (s.J i)) w1)) := fun w1 hb => by have := lea_any (h.below hb) hp hin hpi ha; rw [e3] at this; exact this
      have HF : Hid (∀ w1 e w', Below w.heap.size w w1 → JQ m i 0 (leaJ (s.J i)) w1 e w' → RP JJ (.int .i64 0) rb S (setJ s i (leaJ (s.J i))) w e w') := fun w1 e w' hb q => by
        obtain ⟨rfl, q1, q2⟩ := q
        exact ((Stp.refl h hb).trans (Stp.job (h.below hb) hin hpi q1 q2)).rp hp hS
      rw [hc] at HSEC
      clear h hp hS hi ha e1 e2 e3 hin hpi hjp hsj HI es hc
      go_enter Tryz.func26, Tryz.ntmps26
      go_wp2_with fail
      refine HSEC.out.mono ?_
      rintro e w1 ⟨rfl, hb⟩
      have HB := Lib.hid hb
      clear HSEC hb
      go_wp2_with fail
      refine (HEN.out _ HB.out).mono ?_
      rintro e w2 hq
      have HE := Lib.hid (HF.out _ _ _ HB.out hq)
      obtain ⟨rfl, _⟩ := hq
      clear HEN HF HB
      go_wp2_with fail
      go_ret
      exact HE.out
    · have e1 : giveRE s i = 132 := by unfold giveRE; rw [if_neg (by rw [ha]; decide), hsj, if_pos (by omega)]
      have e2 : giveR s i = s := by unfold giveR; rw [if_neg (by rw [e1]; decide)]
      rw [e1, e2]
      have HF : Hid (∀ w', Below w.heap.size w w' → RP JJ (.int .i64 132) rb S s w (.returned (.int .i64 132)) w') := fun w' q => (Stp.refl h q).rp hp hS
      have hx : ((s.J i).c != 2) = true := by simpa using hc
      generalize (s.J i).c = y at *
      clear h hp hS hi ha e1 e2 hin hpi hjp hsj HI es hc
      go_enter Tryz.func26, Tryz.ntmps26
      go_wp2_with fail
      refine HSEC.out.mono ?_
      rintro e w1 ⟨rfl, hb⟩
      have HE := Lib.hid (HF.out _ hb)
      clear HSEC hb HF
      go_wp2_with fail
      go_ret
      exact HE.out
set_option maxHeartbeats 1000000 in
theorem ask_any {S : Nat → Prop} (h : PRM m w rb s) (hp : Jp m s) (hS : ∀ k, S k ↔ m.lab k ≠ 0) (hi : Rinv s) (t : Int) : Calls Tryz.prog 24 #[.pointer (some ⟨rb, 0, none⟩), .int .i64 t] w (RP JJ (.int .i64 (askRE s t)) rb S (askR s t) w) := by
  by_cases ha : asked s t ≠ 0
  · skip
    have HSEC := Lib.hid (sec_any h hp t)
    have e1 : askRE s t = asked s t := by unfold askRE; rw [if_pos ha]
    have e2 : askR s t = s := by unfold askR; rw [if_neg (by rw [e1]; exact fun y => ha y.1)]
    rw [e1, e2]
    have hx : (asked s t != 0) = true := by simpa using ha
    have HF : Hid (∀ w', Below w.heap.size w w' → RP JJ (.int .i64 (asked s t)) rb S s w (.returned (.int .i64 (asked s t))) w') := fun w' q => (Stp.refl h q).rp hp hS
    generalize asked s t = x at *
    generalize secN s t = y at *
    clear h hp hS hi ha e1 e2
    go_enter Tryz.func24, Tryz.ntmps24
    go_wp2_with fail
    refine HSEC.out.mono ?_
    rintro e w1 ⟨rfl, hb⟩
    have HE := Lib.hid (HF.out _ hb)
    clear HF HSEC hb
    go_wp2_with fail
    go_ret
    exact HE.out
  · have ha : asked s t = 0 := Decidable.not_not.1 ha
    have HI := jinv h hi ha
    have HSEC := sec_any h hp t
    have es : secN s t = (s.j t).c := if_pos ha
    rw [es, ha] at HSEC
    obtain ⟨i, rfl, hin, hpi, hjp, hsj⟩ := asked_p hp ha
    rw [hsj] at HSEC HI
    have HSEC := Lib.hid HSEC
    obtain ⟨c0, c1, c2, c3, c4⟩ := h.cells
    obtain ⟨ta, tcap, htv, _, _⟩ := h.tk.slice
    have htk := h.tk
    rw [htv] at c2 htk
    obtain ⟨tb, off, rfl, tc⟩ := htk.at hin
    have ht5 := tc.c5
    have hst : s.t i 5 = s.z i 5 := rfl
    clear c0 c1 c3 c4 tc htk htv
    by_cases h5 : s.z i 5 = 0
    · have e1 : askRE s i = 133 := by unfold askRE; rw [if_neg (by rw [ha]; decide), hst, if_pos h5]
      have e2 : askR s i = s := by unfold askR; rw [if_neg (by rw [e1]; exact fun y => by cases y.1)]
      rw [e1, e2]
      rw [h5] at ht5
      have HF : Hid (∀ w', Below w.heap.size w w' → RP JJ (.int .i64 133) rb S s w (.returned (.int .i64 133)) w') := fun w' q => (Stp.refl h q).rp hp hS
      generalize (s.J i).c = y at *
      generalize s.n = n at *
      clear h hp hS hi ha e1 e2 hpi hjp hsj HI es h5 hst
      go_enter Tryz.func24, Tryz.ntmps24
      go_wp2_with fail
      refine HSEC.out.mono ?_
      rintro e w1 ⟨rfl, hb⟩
      have d2 := (hb.cell (lt_of_cell c2)).trans c2
      have d5 := (hb.cell (lt_of_cell ht5)).trans ht5
      have HE := Lib.hid (HF.out _ hb)
      clear HSEC hb HF c2 ht5
      go_wp2_with fail
      go_ret
      exact HE.out
    · have hx5 : (s.z i 5 == 0) = false := by simpa using h5
      by_cases hc : (s.J i).c = 3
      · have e1 : askRE s i = 0 := by unfold askRE; rw [if_neg (by rw [ha]; decide), hst, if_neg h5, hsj, if_pos hc]
        have e2 : askR s i = s := by unfold askR; rw [if_neg (by rw [hsj]; exact fun y => y.2 hc)]
        rw [e1, e2]
        rw [hc] at HSEC
        have HF : Hid (∀ w', Below w.heap.size w w' → RP JJ (.int .i64 0) rb S s w (.returned (.int .i64 0)) w') := fun w' q => (Stp.refl h q).rp hp hS
        generalize s.z i 5 = z5 at *
        generalize s.n = n at *
        clear h hp hS hi ha e1 e2 hpi hjp hsj HI es h5 hst hc
        go_enter Tryz.func24, Tryz.ntmps24
        go_wp2_with fail
        refine HSEC.out.mono ?_
        rintro e w1 ⟨rfl, hb⟩
        have d2 := (hb.cell (lt_of_cell c2)).trans c2
        have d5 := (hb.cell (lt_of_cell ht5)).trans ht5
        have HE := Lib.hid (HF.out _ hb)
        clear HSEC hb HF c2 ht5
        go_wp2_with fail
        go_ret
        exact HE.out
      · have e1 : askRE s i = entE (s.J i) 3 := by unfold askRE; rw [if_neg (by rw [ha]; decide), hst, if_neg h5, hsj, if_neg hc]
        have e2 : askR s i = setJ s i (entJ (s.J i) 3) := by
          unfold askR
          rw [e1, hsj]
          by_cases q : entE (s.J i) 3 = 0
          · rw [if_pos ⟨q, hc⟩]
          · rw [if_neg (fun y => q y.1)]
            have : entJ (s.J i) 3 = s.J i := if_neg q
            rw [this]
            unfold setJ
            have : (fun k => if k = (i : Int).toNat then s.J i else s.J k) = s.J := by
              funext k
              by_cases e : k = (i : Int).toNat
              · rw [if_pos e, e]; rfl
              · rw [if_neg e]
            rw [this]
        rw [e1, e2]
        have hx : ((s.J i).c == 3) = false := by simpa using hc
        have HEN : Hid (∀ w1, Below w.heap.size w w1 → Calls Tryz.prog 83 #[.pointer (some ⟨rb, 0, none⟩), .int .i64 i, .int .i64 3] w1 (JQ m i (entE (s.J i) 3) (entJ (s.J i) 3) w1)) := fun w1 hb => ent_any (h.below hb) hp hi hin hpi ha 3
        have HF : Hid (∀ w1 e w', Below w.heap.size w w1 → JQ m i (entE (s.J i) 3) (entJ (s.J i) 3) w1 e w' → RP JJ (.int .i64 (entE (s.J i) 3)) rb S (setJ s i (entJ (s.J i) 3)) w e w') := fun w1 e w' hb q => by
          obtain ⟨rfl, q1, q2⟩ := q
          exact ((Stp.refl h hb).trans (Stp.job (h.below hb) hin hpi q1 q2)).rp hp hS
        generalize entE (s.J i) 3 = x at *
        generalize entJ (s.J i) 3 = j at *
        generalize (s.J i).c = y at *
        generalize s.z i 5 = z5 at *
        generalize hn : s.n = n at *
        clear h hp hS hi ha e1 e2 hpi hjp hsj HI es h5 hst hc hn
        go_enter Tryz.func24, Tryz.ntmps24
        go_wp2_with fail
        refine HSEC.out.mono ?_
        rintro e w1 ⟨rfl, hb⟩
        have d2 := (hb.cell (lt_of_cell c2)).trans c2
        have d5 := (hb.cell (lt_of_cell ht5)).trans ht5
        have HB := Lib.hid hb
        clear HSEC hb c2 ht5
        go_wp2_with fail
        refine (HEN.out _ HB.out).mono ?_
        rintro e w2 hq
        have HE := Lib.hid (HF.out _ _ _ HB.out hq)
        obtain ⟨rfl, _⟩ := hq
        clear HEN HF HB
        go_wp2_with fail
        go_ret
        exact HE.out
end
end Go.Proofs.YtkkmfpllgjoceaaGreat.Ro
