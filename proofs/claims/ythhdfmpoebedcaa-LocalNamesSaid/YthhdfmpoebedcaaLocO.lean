/- LocalNames. -/
import Derived.Test.YthhdfmpoebedcaaLocI
import Derived.Test.YthhdfmpoebedcaaLocMb
namespace Go.Proofs.Ythhdfmpoebedcaa
open Go.RowKit Tk De Dl Lo Go.Sort
set_option linter.unusedVariables false

theorem box_ps {W : World} {g : Nat} {per bud : Int} {ta : Option Addr} {n cap : Nat} {z : Nat → Nat → Int} (h : W.heap[g]? = some (.cells #[.int .i64 per, .int .i64 bud, .slice ta n cap] 33 (0, 0))) (ht : TK W (.slice ta n cap) n z) (hn : n ≤ 4) :
    PS W (.slice (some ⟨g, 0, none⟩) 1 1) [⟨per, bud, n, z⟩] := by
  refine ps_of (l := [(⟨per, bud, n, z⟩, .slice ta n cap)]) (fun j u hj => ?_) (fun i hi => ?_) (Nat.le_refl 1) (by decide)
  · rw [cell_of_row _ _ j _ _ _ h]
    rw [← List.getElem?_toArray] at hj
    exact hj
  · match i, hi with
    | 0, _ => exact ⟨ht, by show n ≤ 2199023255552; omega⟩
theorem box_tk {W : World} {g : Nat} {l : List (List Int)} (hl : ∀ x ∈ l, x.length = 8) (hn : l.length ≤ 4) (h : W.heap[g]? = some (.cells (tcells l).toArray 36 (0, 0))) : TK W (.slice (some ⟨g, 0, none⟩) l.length l.length) l.length (lz l) :=
  tk_of hl (fun j u hj => by rw [cell_of_row _ _ j _ _ _ h, List.getElem?_toArray]; exact hj) (Nat.le_refl _) (by unfold maxLen; omega)
theorem ints_one (l : List Int) : ∀ u ∈ l.map (Value.int .i64), u.oneCell' = true := fun u hu => by obtain ⟨x, _, rfl⟩ := List.mem_map.1 hu; rfl
theorem empty_one (w : World) : PS (w.alloc (.cells #[.int .i64 5, .int .i64 2, .slice none 0 0] 33)) (.slice (some ⟨w.heap.size, 0, none⟩) 1 1) [⟨5, 2, 0, lz []⟩] := part_lit w (q := ⟨5, 2, 0, lz []⟩) (TK.nil w _) (by decide)
theorem zero_one (w : World) : PS (w.alloc (.cells #[.int .i64 0, .int .i64 0, .slice none 0 0] 33)) (.slice (some ⟨w.heap.size, 0, none⟩) 1 1) [⟨0, 0, 0, lz []⟩] := part_lit w (q := ⟨0, 0, 0, lz []⟩) (TK.nil w _) (by decide)
def nf1 : List (List Int) := [[64, 64, 64, 0, 0, 0, 0, 0]]
def nf3 : List (List Int) := [[64, 64, 64, 0, 0, 0, 0, 0], [63, 63, 1, 0, 0, 0, 0, 0], [61, 9, 1, 0, 0, 0, 0, 0]]
def no1 : List (List Int) := [[8, 8, 4, 0, 0, 1, 2, 2], [8, 4, 2, 0, 0, 0, 0, 0]]
def no2 : List (List Int) := [[8, 8, 4, 0, 0, 1, 2, 2], [8, 4, 1, 0, 0, 0, 0, 0]]
theorem kn1 : teR [] 0 = (0, 9) := by decide +kernel
theorem kn2 : teR [⟨0, 0, 0, lz []⟩] 0 = (0, 2) := by decide +kernel
theorem kn3 : teR [⟨5, 2, 0, lz []⟩] 0 = (0, 0) := by decide +kernel
theorem kn4 : slR [⟨5, 2, 0, lz []⟩] 0 (-1) = (0, 2) := by decide +kernel
theorem kn5 : slR [⟨5, 2, 0, lz []⟩] 0 1048576 = (419428, 0) := by decide +kernel
theorem kn6 : slR [⟨5, 2, 0, lz []⟩] 1 5 = (0, 9) := by decide +kernel
theorem kn7 : teR [⟨64, 64, 1, lz nf1⟩] 0 = (0, 0) := by decide +kernel
theorem kn8 : teR [⟨64, 64, 3, lz nf3⟩] 0 = (0, 5) := by decide +kernel
theorem kn9 : teR [⟨4, 4, 2, lz no1⟩] 0 = (4, 120) := by decide +kernel
theorem kn10 : teR [⟨4, 4, 2, lz no2⟩] 0 = (0, 0) := by decide +kernel
set_option maxRecDepth 100000 in
set_option maxHeartbeats 16000000 in
theorem names_law (w : World) : Calls Try.prog 6 #[] w (TrueB w) := by
  have HWK := Lib.hid works_any
  have hb0 := Below.refl w.heap.size w
  have H1 := Lib.hid (Test_fit kn1 (PS.nil w))
  go_enter Try.func6, Try.ntmps6
  go_wp2_with fail
  refine H1.out.mono ?_
  rintro e w1 ⟨rfl, hb⟩
  have B1 := Lib.hid hb
  have H2 := Lib.hid (Test_fit kn2 (zero_one w1))
  clear hb hb0 H1
  go_wp2_with fail
  refine H2.out.mono ?_
  rintro e w2 ⟨rfl, hb⟩
  have B2 := Lib.hid (B1.out.trans (((Below.refl _ w1).alloc (Nat.le_refl _) (.cells #[.int .i64 0, .int .i64 0, .slice none 0 0] 33)).trans (hb.mono (by simp)) |>.mono B1.out.size))
  clear hb H2 B1
  go_wp2_with fail
  have H3 := Lib.hid (Test_fit kn3 (empty_one w2))
  refine (one_part _ _ _ _).mono ?_
  rintro e w' ⟨rfl, rfl⟩
  go_wp2_with fail
  refine H3.out.mono ?_
  rintro e w3 ⟨rfl, hb⟩
  have B3 := Lib.hid (B2.out.trans (((Below.refl _ w2).alloc (Nat.le_refl _) (.cells #[.int .i64 5, .int .i64 2, .slice none 0 0] 33)).trans (hb.mono (by simp)) |>.mono B2.out.size))
  clear hb H3 B2
  go_wp2_with fail
  have H4 := Lib.hid (Slack_fit kn4 (empty_one w3))
  refine (one_part _ _ _ _).mono ?_
  rintro e w' ⟨rfl, rfl⟩
  go_wp2_with fail
  refine H4.out.mono ?_
  rintro e w4 ⟨rfl, hb⟩
  have B4 := Lib.hid (B3.out.trans (((Below.refl _ w3).alloc (Nat.le_refl _) (.cells #[.int .i64 5, .int .i64 2, .slice none 0 0] 33)).trans (hb.mono (by simp)) |>.mono B3.out.size))
  clear hb H4 B3
  go_wp2_with fail
  have H5 := Lib.hid (Slack_fit kn5 (empty_one w4))
  refine (one_part _ _ _ _).mono ?_
  rintro e w' ⟨rfl, rfl⟩
  go_wp2_with fail
  refine H5.out.mono ?_
  rintro e w5 ⟨rfl, hb⟩
  have B5 := Lib.hid (B4.out.trans (((Below.refl _ w4).alloc (Nat.le_refl _) (.cells #[.int .i64 5, .int .i64 2, .slice none 0 0] 33)).trans (hb.mono (by simp)) |>.mono B4.out.size))
  clear hb H5 B4
  go_wp2_with fail
  have H6 := Lib.hid (Slack_fit kn6 (empty_one w5))
  refine (one_part _ _ _ _).mono ?_
  rintro e w' ⟨rfl, rfl⟩
  go_wp2_with fail
  refine H6.out.mono ?_
  rintro e w6 ⟨rfl, hb⟩
  have B6 := Lib.hid (B5.out.trans (((Below.refl _ w5).alloc (Nat.le_refl _) (.cells #[.int .i64 5, .int .i64 2, .slice none 0 0] 33)).trans (hb.mono (by simp)) |>.mono B5.out.size))
  clear hb H6 B5
  obtain ⟨W7, hW7⟩ : ∃ W7, W7 = (w6.alloc (.cells #[.int .i64 64, .int .i64 64, .int .i64 64, .int .i64 0, .int .i64 0, .int .i64 0, .int .i64 0, .int .i64 0] 36)).alloc (.cells #[.int .i64 64, .int .i64 64, .slice (some ⟨w6.heap.size, 0, none⟩) 1 1] 33) := ⟨_, rfl⟩
  have kt := (Below.heap_alloc (w6.alloc (.cells #[.int .i64 64, .int .i64 64, .int .i64 64, .int .i64 0, .int .i64 0, .int .i64 0, .int .i64 0, .int .i64 0] 36)) (.cells #[.int .i64 64, .int .i64 64, .slice (some ⟨w6.heap.size, 0, none⟩) 1 1] 33) _ (lt_of_block (heap_alloc_new w6 (.cells #[.int .i64 64, .int .i64 64, .int .i64 64, .int .i64 0, .int .i64 0, .int .i64 0, .int .i64 0, .int .i64 0] 36)))).trans (heap_alloc_new w6 (.cells #[.int .i64 64, .int .i64 64, .int .i64 64, .int .i64 0, .int .i64 0, .int .i64 0, .int .i64 0, .int .i64 0] 36))
  have kp := heap_alloc_new (w6.alloc (.cells #[.int .i64 64, .int .i64 64, .int .i64 64, .int .i64 0, .int .i64 0, .int .i64 0, .int .i64 0, .int .i64 0] 36)) (.cells #[.int .i64 64, .int .i64 64, .slice (some ⟨w6.heap.size, 0, none⟩) 1 1] 33)
  rw [World.size_alloc] at kp
  rw [← hW7] at kt kp
  have KT := Lib.hid kt; have KP := Lib.hid kp
  have B7 : Hid (Below w.heap.size w W7) := by unfold Hid; rw [hW7]; exact (B6.out.alloc B6.out.size _).alloc (by rw [World.size_alloc]; exact Nat.le_succ_of_le B6.out.size) _
  have H7 := Lib.hid (Test_fit kn7 (box_ps (z := lz nf1) kp (box_tk (l := nf1) (by decide) (by decide) kt) (by decide)))
  have HW7 := Lib.hid hW7
  have HW6 : Hid (w.heap.size ≤ w6.heap.size) := B6.out.size
  clear kt kp hW7 B6
  go_wp2_with fail
  rw [← HW7.out]
  refine H7.out.mono ?_
  rintro e w8 ⟨rfl, hb⟩
  have KT8 := Lib.hid ((hb.block _ (lt_of_block KT.out)).trans KT.out)
  have KP8 := Lib.hid ((hb.block _ (lt_of_block KP.out)).trans KP.out)
  have B8 := Lib.hid (chn B7.out hb)
  have HSZ : Hid (w6.heap.size + 1 + 1 ≤ w8.heap.size) := lt_of_block KP8.out
  clear hb H7 B7 KT KP HW7
  obtain ⟨i0, hi, hy0, hy1, hy2⟩ := info_parts infoTk
  have HI := Lib.hid (⟨hi, hy0, hy1, hy2⟩ : _ ∧ _ ∧ _ ∧ _)
  clear hi hy0 hy1 hy2
  obtain ⟨tb, htb⟩ : ∃ tb, tb = w6.heap.size := ⟨_, rfl⟩
  rw [← htb] at KT8 KP8 HSZ HW6 ⊢
  clear htb
  have d0 := cell_of_row _ _ 0 _ _ _ KP8.out
  have d2 := cell_of_row _ _ 2 _ _ _ KP8.out
  change _ = some (Value.slice (some ⟨tb, 0, none⟩) 1 1) at d2
  have HOW : Hid (w8.ownsRow tb 36 8 (.slice (some ⟨tb, 0, none⟩) 1 1) 1 [.int .i64 64, .int .i64 64, .int .i64 64, .int .i64 0, .int .i64 0, .int .i64 0, .int .i64 0, .int .i64 0]) := ⟨rfl, .inr ⟨tb, 1, _, rfl, Nat.le_refl _, KT8.out, Nat.le_refl _, by decide, rfl, rfl⟩⟩
  have hml := Lib.hid (show 3 ≤ maxLen by decide)
  have hm2 := Lib.hid (show 3 * 64 ≤ 140737488355328 by decide)
  go_wp2_with (at_builtin; refine wpList_append_own _ rfl _ _ 31 rfl tb 36 i0 (.agg #[.int .i64 0, .int .i64 0, .int .i64 0, .int .i64 0, .int .i64 0, .int .i64 0, .int .i64 0, .int .i64 0]) 8 64 Try.underlying31 HI.out.1 HI.out.2.1 HI.out.2.2.1 HI.out.2.2.2 rfl (by decide) _ 1 _ rfl (World.ownsRow.alloc HOW.out _) ⟨w8.heap.size, 0, none⟩ 2 2 [.int .i64 63, .int .i64 63, .int .i64 1, .int .i64 0, .int .i64 0, .int .i64 0, .int .i64 0, .int .i64 0, .int .i64 61, .int .i64 9, .int .i64 1, .int .i64 0, .int .i64 0, .int .i64 0, .int .i64 0, .int .i64 0] rfl rfl (lit_add rfl _ _) (ints_one [63, 63, 1, 0, 0, 0, 0, 0, 61, 9, 1, 0, 0, 0, 0, 0]) hml.out hm2.out (by have := HSZ.out; simp; omega) ?_)
  intro v' w9 hown hgrow _
  have hgrow : (w8.alloc (.cells #[.int .i64 63, .int .i64 63, .int .i64 1, .int .i64 0, .int .i64 0, .int .i64 0, .int .i64 0, .int .i64 0, .int .i64 61, .int .i64 9, .int .i64 1, .int .i64 0, .int .i64 0, .int .i64 0, .int .i64 0, .int .i64 0] 36)).grownBy w9 (some tb) := hgrow
  have hsz : tb + 1 < (w8.alloc (.cells #[.int .i64 63, .int .i64 63, .int .i64 1, .int .i64 0, .int .i64 0, .int .i64 0, .int .i64 0, .int .i64 0, .int .i64 61, .int .i64 9, .int .i64 1, .int .i64 0, .int .i64 0, .int .i64 0, .int .i64 0, .int .i64 0] 36)).heap.size := by rw [World.size_alloc]; have := HSZ.out; omega
  have hp9 := (hgrow.block (tb + 1) hsz (fun e => by have := Option.some.inj e; omega)).trans ((Below.heap_alloc _ _ _ (lt_of_block KP8.out)).trans KP8.out)
  have hb9 : Below w.heap.size w w9 := (B8.out.alloc B8.out.size _).grown hgrow (by rw [World.size_alloc]; have := B8.out.size; omega) (fun k e => by have := Option.some.inj e; have := HW6.out; omega)
  have hown2 : TW w9 tb v' 3 (lz nf3) := hown
  obtain ⟨ta5, tcap5, rfl⟩ := TW.slice hown2
  have r2 : w9.frozen? ⟨tb + 1, 2, none⟩ = false := frozen_of_row _ _ 2 _ _ hp9
  have r3 := cell_of_row _ _ 2 _ _ _ hp9
  change _ = some (Value.slice (some ⟨tb, 0, none⟩) 1 1) at r3
  have HP9 := Lib.hid hp9; have HB9 := Lib.hid hb9
  have HPA : Hid ((w9.setCell ⟨tb + 1, 2, none⟩ (.slice ta5 3 tcap5)).heap[tb + 1]? = some (.cells #[.int .i64 64, .int .i64 64, .slice ta5 3 tcap5] 33 (0, 0))) := heap_set_same hp9
  have HBA : Hid (Below w.heap.size w (w9.setCell ⟨tb + 1, 2, none⟩ (.slice ta5 3 tcap5))) := hb9.setCell (p := ⟨tb + 1, 2, none⟩) (by have := HW6.out; show w.heap.size ≤ tb + 1; omega) _
  have HTA : Hid (TW (w9.setCell ⟨tb + 1, 2, none⟩ (.slice ta5 3 tcap5)) tb (.slice ta5 3 tcap5) 3 (lz nf3)) := by
    refine hown2.kept set_grown ?_
    rcases hown2.2 with ⟨_, h1⟩ | ⟨g, cap, cur, hv, _, hh, _⟩
    · cases h1
    · right
      rw [hv]
      intro e
      have e : g = tb + 1 := Option.some.inj e
      rw [e, hp9] at hh
      injection hh with hh
      injection hh with _ h2 _
      exact absurd h2 (by decide)
  have H8 := Lib.hid (Test_fit kn8 (box_ps HPA.out HTA.out.tk (by decide)))
  clear hown hgrow hsz hp9 hb9 hown2 KT8 KP8 B8 HOW d0 d2 HTA
  go_wp2_with fail
  refine H8.out.mono ?_
  rintro e w10 ⟨rfl, hb⟩
  have B10 := Lib.hid (chn HBA.out hb)
  clear hb H8 HBA HPA HP9 HB9 r2 r3 HSZ HW6
  obtain ⟨W11, hW11⟩ : ∃ W11, W11 = (w10.alloc (.cells #[.int .i64 8, .int .i64 8, .int .i64 4, .int .i64 0, .int .i64 0, .int .i64 1, .int .i64 2, .int .i64 2, .int .i64 8, .int .i64 4, .int .i64 2, .int .i64 0, .int .i64 0, .int .i64 0, .int .i64 0, .int .i64 0] 36)).alloc (.cells #[.int .i64 4, .int .i64 4, .slice (some ⟨w10.heap.size, 0, none⟩) 2 2] 33) := ⟨_, rfl⟩
  have kt := (Below.heap_alloc (w10.alloc (.cells #[.int .i64 8, .int .i64 8, .int .i64 4, .int .i64 0, .int .i64 0, .int .i64 1, .int .i64 2, .int .i64 2, .int .i64 8, .int .i64 4, .int .i64 2, .int .i64 0, .int .i64 0, .int .i64 0, .int .i64 0, .int .i64 0] 36)) (.cells #[.int .i64 4, .int .i64 4, .slice (some ⟨w10.heap.size, 0, none⟩) 2 2] 33) _ (lt_of_block (heap_alloc_new w10 (.cells #[.int .i64 8, .int .i64 8, .int .i64 4, .int .i64 0, .int .i64 0, .int .i64 1, .int .i64 2, .int .i64 2, .int .i64 8, .int .i64 4, .int .i64 2, .int .i64 0, .int .i64 0, .int .i64 0, .int .i64 0, .int .i64 0] 36)))).trans (heap_alloc_new w10 (.cells #[.int .i64 8, .int .i64 8, .int .i64 4, .int .i64 0, .int .i64 0, .int .i64 1, .int .i64 2, .int .i64 2, .int .i64 8, .int .i64 4, .int .i64 2, .int .i64 0, .int .i64 0, .int .i64 0, .int .i64 0, .int .i64 0] 36))
  have kp := heap_alloc_new (w10.alloc (.cells #[.int .i64 8, .int .i64 8, .int .i64 4, .int .i64 0, .int .i64 0, .int .i64 1, .int .i64 2, .int .i64 2, .int .i64 8, .int .i64 4, .int .i64 2, .int .i64 0, .int .i64 0, .int .i64 0, .int .i64 0, .int .i64 0] 36)) (.cells #[.int .i64 4, .int .i64 4, .slice (some ⟨w10.heap.size, 0, none⟩) 2 2] 33)
  rw [World.size_alloc] at kp
  rw [← hW11] at kt kp
  have KT := Lib.hid kt; have KP := Lib.hid kp
  have B11 : Hid (Below w.heap.size w W11) := by unfold Hid; rw [hW11]; exact (B10.out.alloc B10.out.size _).alloc (by rw [World.size_alloc]; exact Nat.le_succ_of_le B10.out.size) _
  have H9 := Lib.hid (Test_fit kn9 (box_ps (z := lz no1) kp (box_tk (l := no1) (by decide) (by decide) kt) (by decide)))
  have HW11 := Lib.hid hW11
  have HW10 : Hid (w.heap.size ≤ w10.heap.size) := B10.out.size
  clear kt kp hW11 B10
  go_wp2_with fail
  rw [← HW11.out]
  refine H9.out.mono ?_
  rintro e w12 ⟨rfl, hb⟩
  have KT12 := Lib.hid ((hb.block _ (lt_of_block KT.out)).trans KT.out)
  have KP12 := Lib.hid ((hb.block _ (lt_of_block KP.out)).trans KP.out)
  have B12 := Lib.hid (chn B11.out hb)
  clear hb H9 B11 KT KP HW11
  obtain ⟨ob, hob⟩ : ∃ ob, ob = w10.heap.size := ⟨_, rfl⟩
  rw [← hob] at KT12 KP12 HW10 ⊢
  clear hob
  have d2 := cell_of_row _ _ 2 _ _ _ KP12.out
  change _ = some (Value.slice (some ⟨ob, 0, none⟩) 2 2) at d2
  have e10 := cell_of_row _ _ 10 _ _ _ KT12.out
  change _ = some (Value.int .i64 2) at e10
  have f10 : w12.frozen? ⟨ob, 10, none⟩ = false := frozen_of_row _ _ 10 _ _ KT12.out
  have KT13 : Hid ((w12.setCell ⟨ob, 10, none⟩ (.int .i64 1)).heap[ob]? = some (.cells (tcells no2).toArray 36 (0, 0))) := heap_set_same KT12.out
  have KP13 : Hid ((w12.setCell ⟨ob, 10, none⟩ (.int .i64 1)).heap[ob + 1]? = some (.cells #[.int .i64 4, .int .i64 4, .slice (some ⟨ob, 0, none⟩) 2 2] 33 (0, 0))) := (Below.heap_setCell _ _ _ _ (by show ob + 1 ≠ ob; omega)).trans KP12.out
  have B13 : Hid (Below w.heap.size w (w12.setCell ⟨ob, 10, none⟩ (.int .i64 1))) := B12.out.setCell (p := ⟨ob, 10, none⟩) HW10.out _
  have H10 := Lib.hid (Test_fit kn10 (box_ps (z := lz no2) KP13.out (box_tk (l := no2) (by decide) (by decide) KT13.out) (by decide)))
  clear KT12 KP12 B12
  go_wp2_with fail
  refine H10.out.mono ?_
  rintro e w14 ⟨rfl, hb⟩
  have B14 := Lib.hid (chn B13.out hb)
  clear hb H10 B13 KT13 KP13 d2 e10 f10
  go_wp2_with fail
  refine (HWK.out _).mono ?_
  rintro e w15 ⟨rfl, hb⟩
  have B15 := Lib.hid (chn B14.out hb)
  clear hb
  go_wp2_with fail
  go_ret
  exact ⟨rfl, B15.out⟩
end Go.Proofs.Ythhdfmpoebedcaa
