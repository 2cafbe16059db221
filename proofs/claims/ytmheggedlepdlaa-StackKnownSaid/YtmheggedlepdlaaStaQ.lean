/- The chapter's stack: works. -/
import Derived.Test.YtmheggedlepdlaaStaO
namespace Go.Proofs.Ytmheggedlepdlaa
open Go.RowKit Lv Sk Go.Sort
set_option linter.unusedVariables false

/-- true is answered; what was there is as it was -/
def TrueB (w : World) (e : Ending) (w' : World) : Prop := e = .returned (.bool true) ∧ Below w.heap.size w w'
/-- a literal's rows -/
def lz (l : List (List Int)) : Nat → Nat → Int := fun i j => (l.getD i []).getD j 0
def chz : Nat → Nat → Int := lz [[0, 5, 0, 1, 0, 0, 0, 0], [0, 9, 0, 3, 0, 0, 0, 0], [0, 9, 0, 4, 0, 0, 0, 0]]
/-- a literal of tasks -/
theorem lit_tk (w : World) (l : List (List Int)) (hl : ∀ x ∈ l, x.length = 8) (hm : l.length ≤ maxLen) (hf : l.flatten.length = l.length * 8) :
    TK (w.alloc (.cells (l.flatten.map (Value.int .i64)).toArray 32)) (.slice (some ⟨w.heap.size, 0, none⟩) l.length l.length) l.length (lz l) := by
  refine ⟨_, _, rfl, Nat.le_refl _, hm, (fun h => by cases h), fun _ => ⟨_, 0, rfl, fun i hi j hj => ?_⟩⟩
  refine (cell_of_row _ _ (0 + i * 8 + j) _ _ _ (heap_alloc_new w _)).trans ?_
  have key : ∀ (l : List (List Int)), (∀ x ∈ l, x.length = 8) → ∀ i, i < l.length → ∀ j, j < 8 → l.flatten[i * 8 + j]? = some (lz l i j) := by
    intro l
    induction l with
    | nil => intro _ i hi; cases hi
    | cons x r ih =>
      intro hx i hi j hj
      have h8 := hx x (by simp)
      cases i with
      | zero =>
        simp only [List.flatten_cons, Nat.zero_mul, Nat.zero_add]
        rw [List.getElem?_append_left (by omega)]
        simp [lz, List.getElem?_eq_getElem (show j < x.length by omega)]
      | succ i =>
        simp only [List.flatten_cons]
        rw [List.getElem?_append_right (by omega)]
        have := ih (fun y hy => hx y (by simp [hy])) i (by simpa using hi) j hj
        rw [show (i + 1) * 8 + j - x.length = i * 8 + j by omega, this]
        simp [lz]
  have := key l hl i hi j hj
  rw [List.getElem?_toArray, List.getElem?_map, Nat.zero_add, this]
  rfl
theorem chapter_any (w : World) : Calls Try.prog 32 #[] w (fun e w' => ∃ v, e = .returned v ∧ TK w' v 3 chz ∧ Below w.heap.size w w') := by
  have HL := Lib.hid (lit_tk w [[0, 5, 0, 1, 0, 0, 0, 0], [0, 9, 0, 3, 0, 0, 0, 0], [0, 9, 0, 4, 0, 0, 0, 0]] (by decide) (by decide) (by decide))
  go_enter Try.func32, Try.ntmps32
  go_wp2_with fail
  go_ret
  exact ⟨_, rfl, HL.out, (Below.refl _ w).alloc (Nat.le_refl _) _⟩
/-- a literal of numbers -/
theorem lit_is (w : World) (l : List Int) (hl : l.length ≤ maxLen) : IS (w.alloc (.cells (l.map (Value.int .i64)).toArray 3)) (.slice (some ⟨w.heap.size, 0, none⟩) l.length l.length) l :=
  ⟨_, _, rfl, Nat.le_refl _, hl, (fun h => by cases h), fun _ => ⟨_, 0, rfl, fun i hi => (cell_of_row _ _ (0 + i) _ _ _ (heap_alloc_new w _)).trans (by simp [List.getElem?_eq_getElem hi, List.getD])⟩⟩
set_option maxRecDepth 100000 in
set_option maxHeartbeats 4000000 in
theorem works_any (w : World) : Calls Try.prog 11 #[] w (TrueB w) := by
  have H0 := Lib.hid (chapter_any w)
  go_enter Try.func11, Try.ntmps11
  go_wp2_with fail
  refine H0.out.mono ?_
  rintro e w1 ⟨v, rfl, ht, hb⟩
  have HT := Lib.hid ht; have HB := Lib.hid hb
  clear ht hb H0
  go_wp2_with fail
  refine (ss_new HT.out (by decide)).mono ?_
  rintro e w2 ⟨sb, rfl, hs⟩
  have HS := Lib.hid hs
  clear hs
  go_wp2_with fail
  refine (ss_lock HS.out 1 1 (x := 0) (l' := [(1, 1)]) (by decide +kernel) (by decide +kernel)).mono ?_
  rintro e w3 ⟨rfl, hs⟩
  have HS1 := Lib.hid hs
  clear hs HS
  go_wp2_with fail
  refine (ss_cls HS1.out (x := 1) (by decide +kernel)).mono ?_
  rintro e w4 ⟨rfl, hb⟩
  have HS2 := Lib.hid (HS1.out.below hb)
  clear hb HS1
  go_wp2_with fail
  refine (ss_lock HS2.out 1 0 (x := 0) (l' := [(1, 1), (1, 0)]) (by decide +kernel) (by decide +kernel)).mono ?_
  rintro e w5 ⟨rfl, hs⟩
  have HS3 := Lib.hid hs
  clear hs HS2
  go_wp2_with fail
  refine (ss_cls HS3.out (x := 3) (by decide +kernel)).mono ?_
  rintro e w6 ⟨rfl, hb⟩
  have HS4 := Lib.hid (HS3.out.below hb)
  clear hb HS3
  go_wp2_with fail
  refine (ss_held HS4.out 1 (xs := [1, 0]) (by decide +kernel)).mono ?_
  rintro e w7 ⟨rv, rfl, hr, hb⟩
  have HS5 := Lib.hid (HS4.out.below hb)
  have HR := Lib.hid hr
  clear hb hr HS4
  go_wp2_with fail
  refine (eqs_any (xs := [1, 0]) (HR.out.kept ((Below.refl _ _).alloc (Nat.le_refl _) _)).is (lit_is _ [1, 0] (by decide)) (by decide)).mono ?_
  rintro e w8 ⟨rfl, hb⟩
  have HS6 := Lib.hid ((HS5.out.below ((Below.refl _ _).alloc (Nat.le_refl _) _)).below hb)
  clear hb HS5 HR
  go_wp2_with fail
  refine (ss_top HS6.out (x := 1) (b := true) (by decide +kernel) (by decide +kernel)).mono ?_
  rintro e w9 ⟨rfl, hb⟩
  have HS7 := Lib.hid (HS6.out.below hb)
  clear hb HS6
  go_wp2_with fail
  refine (ss_lock HS7.out 0 0 (x := 131) (l' := [(1, 1), (1, 0)]) (by decide +kernel) (by decide +kernel)).mono ?_
  rintro e w10 ⟨rfl, hs⟩
  have HS8 := Lib.hid hs
  clear hs HS7
  go_wp2_with fail
  refine (ss_lock HS8.out 2 0 (x := 133) (l' := [(1, 1), (1, 0)]) (by decide +kernel) (by decide +kernel)).mono ?_
  rintro e w11 ⟨rfl, hs⟩
  have HS9 := Lib.hid hs
  clear hs HS8
  go_wp2_with fail
  refine (ss_lock HS9.out 3 0 (x := 9) (l' := [(1, 1), (1, 0)]) (by decide +kernel) (by decide +kernel)).mono ?_
  rintro e w12 ⟨rfl, hs⟩
  have HS10 := Lib.hid hs
  clear hs HS9
  go_wp2_with fail
  refine (ss_unl HS10.out 1 (v := .tuple #[.int .i64 0, .int .i64 0]) (l' := [(1, 1)]) (by rfl) (by rfl)).mono ?_
  rintro e w13 ⟨rfl, hs⟩
  have HS11 := Lib.hid hs
  clear hs HS10
  go_wp2_with fail
  refine (ss_unl HS11.out 1 (v := .tuple #[.int .i64 1, .int .i64 0]) (l' := []) (by rfl) (by rfl)).mono ?_
  rintro e w14 ⟨rfl, hs⟩
  have HS12 := Lib.hid hs
  clear hs HS11
  go_wp2_with fail
  refine (ss_unl HS12.out 1 (v := .tuple #[.int .i64 0, .int .i64 132]) (l' := []) (by rfl) (by rfl)).mono ?_
  rintro e w15 ⟨rfl, hs⟩
  have HS13 := Lib.hid hs
  clear hs HS12
  go_wp2_with fail
  refine (ss_top HS13.out (x := 0) (b := false) (by decide +kernel) (by decide +kernel)).mono ?_
  rintro e w16 ⟨rfl, hb⟩
  have HS14 := Lib.hid (HS13.out.below hb)
  clear hb HS13
  go_wp2_with fail
  go_ret
  exact ⟨rfl, HB.out.trans (HS14.out.bel.mono HB.out.size)⟩
end Go.Proofs.Ytmheggedlepdlaa
