/- The examples: works. -/
import Derived.Test.YtcanghpimfdedaaLevB
namespace Go.Proofs.Ytcanghpimfdedaa
open Go.RowKit Lv
set_option linter.unusedVariables false

/-- true is answered; what was there is as it was -/
def TrueB (w : World) (e : Ending) (w' : World) : Prop := e = .returned (.bool true) ∧ Below w.heap.size w w'
/-- a literal's rows -/
def lz (l : List (List Int)) : Nat → Nat → Int := fun i j => (l.getD i []).getD j 0
def chz : Nat → Nat → Int := lz [[0, 5, 0, 1, 0, 0, 0, 0], [0, 9, 0, 3, 0, 0, 0, 0], [0, 9, 0, 4, 0, 0, 0, 0]]
/-- a literal of tasks -/
theorem lit_tk (w : World) (l : List (List Int)) (hl : ∀ x ∈ l, x.length = 8) (hm : l.length ≤ maxLen) (hf : l.flatten.length = l.length * 8) :
    TK (w.alloc (.cells (l.flatten.map (Value.int .i64)).toArray 31)) (.slice (some ⟨w.heap.size, 0, none⟩) l.length l.length) l.length (lz l) := by
  refine ⟨_, _, rfl, Nat.le_refl _, hm, (fun h => by cases h), fun _ => ⟨_, 0, rfl, fun i hi j hj => ?_⟩⟩
  refine (cell_of_row _ _ (0 + i * 8 + j) _ _ _ (heap_alloc_new w _)).trans ?_
  have key : ∀ (l : List (List Int)), (∀ x ∈ l, x.length = 8) → ∀ i, i < l.length → ∀ j, j < 8 → l.flatten[i * 8 + j]? = some (lz l i j) := by
    intro l
    induction l with
    | nil => intro _ i hi; cases hi
    | cons x r ih =>
      intro hx i hi j hj
      have h8 := hx x (by simp)
      cases i with
      | zero =>
        simp only [List.flatten_cons, Nat.zero_mul, Nat.zero_add]
        rw [List.getElem?_append_left (by omega)]
        simp [lz, List.getElem?_eq_getElem (show j < x.length by omega)]
      | succ i =>
        simp only [List.flatten_cons]
        rw [List.getElem?_append_right (by omega)]
        have := ih (fun y hy => hx y (by simp [hy])) i (by simpa using hi) j hj
        rw [show (i + 1) * 8 + j - x.length = i * 8 + j by omega, this]
        simp [lz]
  have := key l hl i hi j hj
  rw [List.getElem?_toArray, List.getElem?_map, Nat.zero_add, this]
  rfl
theorem chapter_any (w : World) : Calls Try.prog 19 #[] w (fun e w' => ∃ v, e = .returned v ∧ TK w' v 3 chz ∧ Below w.heap.size w w') := by
  have HL := Lib.hid (lit_tk w [[0, 5, 0, 1, 0, 0, 0, 0], [0, 9, 0, 3, 0, 0, 0, 0], [0, 9, 0, 4, 0, 0, 0, 0]] (by decide) (by decide) (by decide))
  go_enter Try.func19, Try.ntmps19
  go_wp2_with fail
  go_ret
  exact ⟨_, rfl, HL.out, (Below.refl _ w).alloc (Nat.le_refl _) _⟩
theorem lev0 : lev 3 (dl chz) 0 = 3 := by decide
theorem lev1 : lev 3 (dl chz) 1 = 1 := by decide
theorem lev2 : lev 3 (dl chz) 2 = 1 := by decide
theorem lev3 : lev 3 (dl chz) 3 = 0 := by decide
theorem ceil0 : ceil 3 (dl chz) (lo chz) 0 = 3 := by decide +kernel
theorem ceil1 : ceil 3 (dl chz) (lo chz) 1 = 1 := by decide +kernel
theorem ceil3 : ceil 3 (dl chz) (lo chz) 3 = 0 := by decide +kernel
theorem ceil8 : ceil 3 (dl chz) (lo chz) 8 = 0 := by decide +kernel
theorem hi10 : hi (ceil 3 (dl chz) (lo chz)) [1, 0] 2 = 3 := by decide +kernel
theorem us11 : us 3 (lo chz) 1 1 = true := by decide +kernel
theorem us01 : us 3 (lo chz) 1 0 = false := by decide +kernel
theorem level_fit {w : World} {v : Value} {n : Nat} {z : Nat → Nat → Int} {i x : Int} (hx : lev n (dl z) i = x) (h : TK w v n z) (hnm : n ≤ 1000000) : Calls Try.prog 8 #[v, .int .i64 i] w (YI x w) := by subst hx; exact level_any h hnm i
theorem ceil_fit {w : World} {v : Value} {n : Nat} {z : Nat → Nat → Int} {r x : Int} (hx : ceil n (dl z) (lo z) r = x) (h : TK w v n z) (hnm : n ≤ 1000000) : Calls Try.prog 12 #[v, .int .i64 r] w (YI x w) := by subst hx; exact ceil_any h hnm r
/-- a literal of numbers -/
theorem lit_is (w : World) (l : List Int) (hl : l.length ≤ maxLen) : IS (w.alloc (.cells (l.map (Value.int .i64)).toArray 3)) (.slice (some ⟨w.heap.size, 0, none⟩) l.length l.length) l :=
  ⟨_, _, rfl, Nat.le_refl _, hl, (fun h => by cases h), fun _ => ⟨_, 0, rfl, fun i hi => (cell_of_row _ _ (0 + i) _ _ _ (heap_alloc_new w _)).trans (by simp [List.getElem?_eq_getElem hi, List.getD])⟩⟩
theorem alb {w w1 : World} (h : Below w.heap.size w w1) (o : Obj) : Below w.heap.size w (w1.alloc o) := h.alloc h.size o
theorem below_lit {W w' : World} {o : Obj} (h : Below (W.alloc o).heap.size (W.alloc o) w') : Below W.heap.size W w' := ((Below.refl _ _).alloc (Nat.le_refl _) o).trans (h.mono (by simp))
set_option maxRecDepth 100000 in
set_option maxHeartbeats 4000000 in
theorem works_any (w : World) : Calls Try.prog 14 #[] w (TrueB w) := by
  have H0 := Lib.hid (chapter_any w)
  go_enter Try.func14, Try.ntmps14
  go_wp2_with fail
  refine H0.out.mono ?_
  rintro e w1 ⟨v, rfl, ht, hb⟩
  have HT := Lib.hid ht; have HB := Lib.hid hb
  clear ht hb H0
  go_wp2_with fail
  refine (level_fit lev0 HT.out (by decide)).mono ?_
  rintro e w2 ⟨rfl, hb⟩
  have HT2 := Lib.hid (HT.out.below hb); have HB2 := Lib.hid (chn HB.out hb)
  clear hb HT HB
  go_wp2_with fail
  refine (level_fit lev1 HT2.out (by decide)).mono ?_
  rintro e w3 ⟨rfl, hb⟩
  have HT3 := Lib.hid (HT2.out.below hb); have HB3 := Lib.hid (chn HB2.out hb)
  clear hb HT2 HB2
  go_wp2_with fail
  refine (level_fit lev2 HT3.out (by decide)).mono ?_
  rintro e w4 ⟨rfl, hb⟩
  have HT4 := Lib.hid (HT3.out.below hb); have HB4 := Lib.hid (chn HB3.out hb)
  clear hb HT3 HB3
  go_wp2_with fail
  refine (level_fit lev3 HT4.out (by decide)).mono ?_
  rintro e w5 ⟨rfl, hb⟩
  have HT5 := Lib.hid (HT4.out.below hb); have HB5 := Lib.hid (chn HB4.out hb)
  clear hb HT4 HB4
  go_wp2_with fail
  refine (ceil_fit ceil0 HT5.out (by decide)).mono ?_
  rintro e w6 ⟨rfl, hb⟩
  have HT6 := Lib.hid (HT5.out.below hb); have HB6 := Lib.hid (chn HB5.out hb)
  clear hb HT5 HB5
  go_wp2_with fail
  refine (ceil_fit ceil1 HT6.out (by decide)).mono ?_
  rintro e w7 ⟨rfl, hb⟩
  have HT7 := Lib.hid (HT6.out.below hb); have HB7 := Lib.hid (chn HB6.out hb)
  clear hb HT6 HB6
  go_wp2_with fail
  refine (ceil_fit ceil3 HT7.out (by decide)).mono ?_
  rintro e w8 ⟨rfl, hb⟩
  have HT8 := Lib.hid (HT7.out.below hb); have HB8 := Lib.hid (chn HB7.out hb)
  clear hb HT7 HB7
  go_wp2_with fail
  refine (ceil_fit ceil8 HT8.out (by decide)).mono ?_
  rintro e w9 ⟨rfl, hb⟩
  have HT9 := Lib.hid (HT8.out.below hb); have HB9 := Lib.hid (chn HB8.out hb)
  clear hb HT8 HB8
  have HI := Lib.hid (lit_is w9 [1, 0] (by decide))
  have hA := (Below.refl _ w9).alloc (Nat.le_refl _) (.cells #[.int .i64 1, .int .i64 0] 3)
  have HTA := Lib.hid (HT9.out.below hA)
  clear hA
  have HH := Lib.hid (high_any HTA.out HI.out (by decide))
  have hh : hi (ceil 3 (dl chz) (lo chz)) [1, 0] ([1, 0] : List Int).length = 3 := hi10
  rw [hh] at HH
  clear hh
  go_wp2_with fail
  refine HH.out.mono ?_
  rintro e w10 ⟨rfl, hb⟩
  have HT10 := Lib.hid (HTA.out.below hb); have HB10 := Lib.hid (chn HB9.out (below_lit hb))
  clear hb HT9 HB9 HTA HI HH
  go_wp2_with fail
  refine (uses_fit HT10.out us11).mono ?_
  rintro e w11 ⟨rfl, rfl⟩
  go_wp2_with fail
  refine (uses_fit HT10.out us01).mono ?_
  rintro e w11 ⟨rfl, rfl⟩
  go_wp2_with fail
  go_ret
  exact ⟨rfl, HB10.out⟩
end Go.Proofs.Ytcanghpimfdedaa
