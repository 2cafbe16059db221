/- The chapter's examples. -/
import Derived.Test.YtlifkclgflfnlaaShaS
namespace Go.Proofs.Ytlifkclgflfnlaa.Sh
open Go.RowKit Tk De Dl Go.Proofs.Ytlifkclgflfnlaa.Lo
set_option linter.unusedVariables false

theorem lit_is (w : World) (l : List Int) (hl : l.length ≤ maxLen) : IS (w.alloc (.cells (l.map (Value.int .i64)).toArray 3)) (.slice (some ⟨w.heap.size, 0, none⟩) l.length l.length) l :=
  ⟨_, _, rfl, Nat.le_refl _, hl, (fun h => by cases h), fun _ => ⟨_, 0, rfl, fun i hi => (cell_of_row _ _ (0 + i) _ _ _ (heap_alloc_new w _)).trans (by simp [List.getElem?_eq_getElem hi, List.getD])⟩⟩
/-- servers of numbers that are written there -/
def LitP (W : World) (l : List Int) (e : Ending) (w' : World) : Prop := ∃ a cap, e = .returned (.slice a (l.length / 2) cap) ∧ SV w' (.slice a (l.length / 2) cap) (l.length / 2) (tP l) (tB l) ∧ Below W.heap.size W w'
theorem turn_any (W : World) (l : List Int) (hl : l.length ≤ 1000) : Calls Try.prog 15 #[.slice (some ⟨W.heap.size, 0, none⟩) l.length l.length] (W.alloc (.cells (l.map (Value.int .i64)).toArray 3)) (LitP W l) := by
  refine (servers_any (lit_is W l (by unfold maxLen; omega)) hl).mono ?_
  rintro e w' ⟨r, rfl, hs, hb⟩
  have hs2 := hs.sv
  obtain ⟨a, cap, rfl, _⟩ := hs.sv.slice
  exact ⟨a, cap, rfl, hs2, bel_of_alloc hb⟩
set_option maxHeartbeats 1000000 in
theorem sums_yes {w : World} {v : Value} {n : Nat} {p b : Nat → Int} (h : SV w v n p b) {x y : Int} (hx : suA n p b = x) (hy : suB n p b = y) (he : suE n p b = 0) : Calls Try.prog 16 #[v, .int .i64 x, .int .i64 y] w (YB true w) := by
  have H := Lib.hid (Sum_any h)
  rw [hx, hy, he] at H
  obtain ⟨a, cap, rfl, _⟩ := h.slice
  clear h hx hy he
  go_enter Try.func16, Try.ntmps16
  go_wp2_with fail
  refine H.out.mono ?_
  rintro e w' ⟨rfl, hb⟩
  go_wp2_with fail
  go_ret
  exact ⟨rfl, hb⟩
theorem e1 (p b : Nat → Int) : suA 0 p b = 0 ∧ suB 0 p b = 1 ∧ suE 0 p b = 0 := ⟨rfl, rfl, rfl⟩
theorem e2 : suA 2 (tP [1, 2, 1, 3]) (tB [1, 2, 1, 3]) = 5 ∧ suB 2 (tP [1, 2, 1, 3]) (tB [1, 2, 1, 3]) = 6 ∧ suE 2 (tP [1, 2, 1, 3]) (tB [1, 2, 1, 3]) = 0 := by decide +kernel
theorem e3 : suA 2 (tP [2, 4, 1, 2]) (tB [2, 4, 1, 2]) = 1 ∧ suB 2 (tP [2, 4, 1, 2]) (tB [2, 4, 1, 2]) = 1 ∧ suE 2 (tP [2, 4, 1, 2]) (tB [2, 4, 1, 2]) = 0 := by decide +kernel
theorem e4 : teE 2 (tP [1, 2, 1, 2]) (tB [1, 2, 1, 2]) = 0 := by decide +kernel
theorem e5 : teE 3 (tP [1, 2, 1, 2, 1, 64]) (tB [1, 2, 1, 2, 1, 64]) = 120 := by decide +kernel
theorem e6 : teE 1 (tP [3, 2]) (tB [3, 2]) = 2 := by decide +kernel
theorem Test_fit {w : World} {v : Value} {n : Nat} {p b : Nat → Int} (h : SV w v n p b) {x : Int} (hx : teE n p b = x) : Calls Try.prog 9 #[v] w (YI x w) := by subst hx; exact Test_any h
set_option maxRecDepth 100000 in
set_option maxHeartbeats 4000000 in
theorem works_any (w : World) : Calls Try.prog 11 #[] w (TrueB w) := by
  have HN := Lib.hid (sums_yes (SV.nil w (fun _ => 0) (fun _ => 0)) (e1 _ _).1 (e1 _ _).2.1 (e1 _ _).2.2)
  have HT := Lib.hid turn_any
  go_enter Try.func11, Try.ntmps11
  go_wp2_with fail
  refine HN.out.mono ?_
  rintro e w1 ⟨rfl, hb⟩
  have B1 := Lib.hid hb
  clear hb HN
  go_wp2_with fail
  refine (HT.out w1 [1, 2, 1, 3] (by decide)).mono ?_
  rintro e w2 ⟨a2, c2, rfl, hs, hb⟩
  have S2 := Lib.hid (sums_yes hs e2.1 e2.2.1 e2.2.2)
  have B2 := Lib.hid (chn B1.out hb)
  clear hs hb B1
  go_wp2_with fail
  refine S2.out.mono ?_
  rintro e w3 ⟨rfl, hb⟩
  have B3 := Lib.hid (chn B2.out hb)
  clear hb B2 S2
  go_wp2_with fail
  refine (HT.out w3 [2, 4, 1, 2] (by decide)).mono ?_
  rintro e w4 ⟨a4, c4, rfl, hs, hb⟩
  have S4 := Lib.hid (sums_yes hs e3.1 e3.2.1 e3.2.2)
  have B4 := Lib.hid (chn B3.out hb)
  clear hs hb B3
  go_wp2_with fail
  refine S4.out.mono ?_
  rintro e w5 ⟨rfl, hb⟩
  have B5 := Lib.hid (chn B4.out hb)
  clear hb B4 S4
  go_wp2_with fail
  refine (HT.out w5 [1, 2, 1, 2] (by decide)).mono ?_
  rintro e w6 ⟨a6, c6, rfl, hs, hb⟩
  have S6 := Lib.hid (Test_fit hs e4)
  have B6 := Lib.hid (chn B5.out hb)
  clear hs hb B5
  go_wp2_with fail
  refine S6.out.mono ?_
  rintro e w7 ⟨rfl, hb⟩
  have B7 := Lib.hid (chn B6.out hb)
  clear hb B6 S6
  go_wp2_with fail
  refine (HT.out w7 [1, 2, 1, 2, 1, 64] (by decide)).mono ?_
  rintro e w8 ⟨a8, c8, rfl, hs, hb⟩
  have S8 := Lib.hid (Test_fit hs e5)
  have B8 := Lib.hid (chn B7.out hb)
  clear hs hb B7
  go_wp2_with fail
  refine S8.out.mono ?_
  rintro e w9 ⟨rfl, hb⟩
  have B9 := Lib.hid (chn B8.out hb)
  clear hb B8 S8
  go_wp2_with fail
  refine (HT.out w9 [3, 2] (by decide)).mono ?_
  rintro e w10 ⟨a10, c10, rfl, hs, hb⟩
  have S10 := Lib.hid (Test_fit hs e6)
  have B10 := Lib.hid (chn B9.out hb)
  clear hs hb B9
  go_wp2_with fail
  refine S10.out.mono ?_
  rintro e w11 ⟨rfl, hb⟩
  have B11 := Lib.hid (chn B10.out hb)
  clear hb B10 S10
  go_wp2_with fail
  go_ret
  exact ⟨rfl, B11.out⟩
end Go.Proofs.Ytlifkclgflfnlaa.Sh
