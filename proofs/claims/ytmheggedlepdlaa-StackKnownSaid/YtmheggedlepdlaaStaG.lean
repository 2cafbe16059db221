/- What goes by a closure over entries: IndexFunc, ContainsFunc; last, resources, by a task and of all. -/
import Derived.Test.YtmheggedlepdlaaStaF
namespace Go.Proofs.Ytmheggedlepdlaa
open Go.RowKit Lv Sk Go.Sort
set_option linter.unusedVariables false

abbrev CB (w : World) (B : Nat) (x : Int) : Prop := w.heap[B]? = some (.cells #[.int .i64 x] 3 (0, 0))
theorem CB.below {w w' : World} {B : Nat} {x : Int} (h : CB w B x) (q : Below w.heap.size w w') : CB w' B x := (q.block _ (lt_of_block h)).trans h
/-- a place is answered: at least 0, if there is one -/
def IxP (b : Bool) (w : World) (e : Ending) (w' : World) : Prop := ∃ j : Int, e = .returned (.int .i64 j) ∧ decide (0 ≤ j) = b ∧ Below w.heap.size w w'
set_option maxHeartbeats 1000000 in
theorem index_any {w : World} {v : Value} {l : List En} {B : Nat} {x : Int} (h : ES w v l) (hB : CB w B x) (hl : l.length ≤ 1000) :
    Calls Try.prog 48 #[v, .func (.func 49) #[] #[.pointer (some ⟨B, 0, none⟩)]] w (IxP (has l x) w) := by
  obtain ⟨a, cap, rfl, hn1, hn2⟩ := h.slice
  have HP := Lib.hid h
  have HC := Lib.hid hB
  obtain ⟨m, hm⟩ : ∃ m, m = l.length := ⟨_, rfl⟩
  have HM := Lib.hid hm
  rw [← hm] at hl hn1 HP ⊢
  clear h hm hB
  go_enter Try.func48, Try.ntmps48
  go_wp2_with fail
  go_loopw [5, 8] (fun _ i wr => ∃ k : Nat, k ≤ m ∧ i = .int .i64 k ∧ Hid (∀ j, j < k → (l.getD j e0).2 ≠ x) ∧ Hid (Below w.heap.size w wr)) (fun _ i _ => m - (intOf i).toNat)
  case atStart => exact ⟨0, Nat.zero_le _, rfl, (fun j hj => by omega), Below.refl _ _⟩
  case round =>
    obtain ⟨k, hk, rfl, HN, HB⟩ := hrel
    by_cases hlt : k < m
    · obtain ⟨b, off, rfl, d0, d1⟩ := (HP.out.below HB.out).at hlt
      have HX := Lib.hid (of1_any (HC.out.below HB.out) (l.getD k e0).1 (l.getD k e0).2)
      by_cases hx : (l.getD k e0).2 = x
      · have HH : Hid (has l x = true) := has_yes (by rw [← HM.out]; exact hlt) hx
        rw [hx] at d1 HX
        rw [show decide (x = x) = true by simp] at HX
        have hk0 : decide (0 ≤ (k : Int)) = true := by simp
        generalize (l.getD k e0).1 = y at *
        clear HN hx
        go_wp2_with fail
        refine HX.out.mono ?_
        rintro e w2 ⟨rfl, hb⟩
        go_wp2_with fail
        go_ret
        exact ⟨k, rfl, by rw [HH.out, hk0], chn HB.out hb⟩
      · have HN2 : Hid (∀ j, j < k + 1 → (l.getD j e0).2 ≠ x) := fun j hj => by
          by_cases q : j = k
          · subst q; exact hx
          · exact HN.out j (by omega)
        rw [show decide ((l.getD k e0).2 = x) = false by simpa using hx] at HX
        generalize (l.getD k e0).1 = y at *
        generalize (l.getD k e0).2 = u at *
        clear HN hx
        go_wp2_with fail
        refine HX.out.mono ?_
        rintro e w2 ⟨rfl, hb⟩
        go_wp2_with fail
        go_roundw
        case rel => exact ⟨k + 1, by omega, by go_num, HN2, chn HB.out hb⟩
        case measure => simp [intOf]; omega
    · obtain rfl : k = m := by omega
      have HH : Hid (has l x = false) := has_no (by rw [← HM.out]; exact HN.out)
      go_wp2_with fail
      go_ret
      exact ⟨-1, rfl, by rw [HH.out]; rfl, HB.out⟩
theorem contains_any {w : World} {v : Value} {l : List En} {B : Nat} {x : Int} (h : ES w v l) (hB : CB w B x) (hl : l.length ≤ 1000) :
    Calls Try.prog 36 #[v, .func (.func 49) #[] #[.pointer (some ⟨B, 0, none⟩)]] w (YB (has l x) w) := by
  have HX := Lib.hid (index_any h hB hl)
  obtain ⟨a, cap, rfl, hn1, hn2⟩ := h.slice
  clear h hB
  go_enter Try.func36, Try.ntmps36
  go_wp2_with fail
  refine HX.out.mono ?_
  rintro e w2 ⟨j, rfl, hj, hb⟩
  have HJ := Lib.hid hj
  have HB := Lib.hid hb
  clear hj hb
  go_wp2_with fail
  go_ret
  exact ⟨by rw [← HJ.out]; simp, HB.out⟩
def oN (o : Option Nat) : Int := ((o.getD 0 : Nat) : Int)
set_option maxHeartbeats 1000000 in
theorem lastby_any {w : World} {v : Value} {l : List En} {B : Nat} {t : Int} (h : ES w v l) (hB : CB w B t) (hl : l.length ≤ 1000) :
    Calls Try.prog 38 #[v, (.func (.func 50) #[] #[.pointer (some ⟨B, 0, none⟩)])] w (TopP (oN (unl l t l.length)) ((unl l t l.length)).isSome w) := by
  obtain ⟨a, cap, rfl, hn1, hn2⟩ := h.slice
  have HP := Lib.hid h
  have HC := Lib.hid hB
  obtain ⟨m, hm⟩ : ∃ m, m = l.length := ⟨_, rfl⟩
  have hmx : m ≤ 9223372036854775807 := by omega
  rw [← hm] at hl hn1 HP ⊢
  clear h hm hB
  have hw : wrap64 ((m : Int) - 1) = (m : Int) - 1 := by unfold wrap64; omega
  go_enter Try.func38, Try.ntmps38
  go_wp2_with fail
  go_loopw [4] (fun i wr => ∃ k : Nat, k ≤ m ∧ i = .int .i64 ((k : Int) - 1) ∧ Hid (unl l t m = unl l t k) ∧ Hid (Below w.heap.size w wr)) (fun i _ => (intOf i + 1).toNat)
  case atStart => exact ⟨m, Nat.le_refl _, rfl, rfl, Below.refl _ _⟩
  case round =>
    obtain ⟨k, hk, rfl, HN, HB⟩ := hrel
    cases k with
    | zero =>
      go_wp2_with fail
      go_ret2
      exact ⟨by rw [HN.out]; rfl, HB.out⟩
    | succ k =>
      have hkm : k < m := by omega
      have hki : ((k + 1 : Nat) : Int) - 1 = k := by omega
      rw [hki]
      obtain ⟨b, off, rfl, d0, d1⟩ := (HP.out.below HB.out).at hkm
      have HX := Lib.hid (by1_any (HC.out.below HB.out) (l.getD k e0).1 (l.getD k e0).2)
      by_cases hx : (l.getD k e0).1 = t
      · have HU : Hid (unl l t m = some k) := HN.out.trans (unl_at hx)
        rw [hx] at d0 HX
        rw [show decide (t = t) = true by simp] at HX
        generalize (l.getD k e0).2 = y at *
        clear HN hx
        go_wp2_with fail
        refine HX.out.mono ?_
        rintro e w2 ⟨rfl, hb⟩
        go_wp2_with fail
        go_ret2
        exact ⟨by rw [HU.out]; rfl, chn HB.out hb⟩
      · have HN2 : Hid (unl l t m = unl l t k) := HN.out.trans (unl_go hx)
        rw [show decide ((l.getD k e0).1 = t) = false by simpa using hx] at HX
        generalize (l.getD k e0).1 = u at *
        generalize (l.getD k e0).2 = y at *
        clear HN hx
        go_wp2_with fail
        refine HX.out.mono ?_
        rintro e w2 ⟨rfl, hb⟩
        go_wp2_with fail
        go_roundw
        case rel => exact ⟨k, by omega, by go_num, HN2, chn HB.out hb⟩
        case measure => simp [intOf]
/-- the last one of the first k -/
def lst : Nat → Option Nat
  | 0 => none
  | k + 1 => some k
set_option maxHeartbeats 1000000 in
theorem lastany_any {w : World} {v : Value} {l : List En} (h : ES w v l) (hl : l.length ≤ 1000) :
    Calls Try.prog 38 #[v, (.func (.func 42) #[] #[])] w (TopP (oN (lst l.length)) ((lst l.length)).isSome w) := by
  obtain ⟨a, cap, rfl, hn1, hn2⟩ := h.slice
  have HP := Lib.hid h
  skip
  obtain ⟨m, hm⟩ : ∃ m, m = l.length := ⟨_, rfl⟩
  have hmx : m ≤ 9223372036854775807 := by omega
  rw [← hm] at hl hn1 HP ⊢
  clear h hm 
  have hw : wrap64 ((m : Int) - 1) = (m : Int) - 1 := by unfold wrap64; omega
  go_enter Try.func38, Try.ntmps38
  go_wp2_with fail
  go_loopw [4] (fun i wr => ∃ k : Nat, k ≤ m ∧ i = .int .i64 ((k : Int) - 1) ∧ Hid (lst m = lst k) ∧ Hid (Below w.heap.size w wr)) (fun i _ => (intOf i + 1).toNat)
  case atStart => exact ⟨m, Nat.le_refl _, rfl, rfl, Below.refl _ _⟩
  case round =>
    obtain ⟨k, hk, rfl, HN, HB⟩ := hrel
    cases k with
    | zero =>
      go_wp2_with fail
      go_ret2
      exact ⟨by rw [HN.out]; rfl, HB.out⟩
    | succ k =>
      have hkm : k < m := by omega
      have hki : ((k + 1 : Nat) : Int) - 1 = k := by omega
      rw [hki]
      obtain ⟨b, off, rfl, d0, d1⟩ := (HP.out.below HB.out).at hkm
      have HX := Lib.hid (any_any wr (l.getD k e0).1 (l.getD k e0).2)
      generalize (l.getD k e0).1 = u at *
      generalize (l.getD k e0).2 = y at *
      go_wp2_with fail
      refine HX.out.mono ?_
      rintro e w2 ⟨rfl, hb⟩
      go_wp2_with fail
      go_ret2
      exact ⟨by rw [HN.out]; rfl, chn HB.out hb⟩
set_option maxHeartbeats 2000000 in
theorem resby_any {w : World} {v : Value} {l : List En} {B : Nat} {t : Int} (h : ES w v l) (hB : CB w B t) (hl : l.length ≤ 1000) :
    Calls Try.prog 41 #[v, (.func (.func 50) #[] #[.pointer (some ⟨B, 0, none⟩)])] w (HeldP w (held l t)) := by
  obtain ⟨a, cap, rfl, hn1, hn2⟩ := h.slice
  have HP := Lib.hid h
  have HC := Lib.hid hB
  have HO := Lib.hid (NR.nil w w.heap.size)
  obtain ⟨m, hm⟩ : ∃ m, m = l.length := ⟨_, rfl⟩
  have HM := Lib.hid hm
  have hmx : m ≤ 9223372036854775807 := by omega
  rw [← hm] at hl hn1 HP ⊢
  clear h hm hB
  go_enter Try.func41, Try.ntmps41
  go_wp2_with fail
  go_loopw [5, 10] (fun o i wr => ∃ k : Nat, k ≤ m ∧ i = .int .i64 k ∧ Hid (NR wr w.heap.size o (held (l.take k) t)) ∧ Hid (Below w.heap.size w wr)) (fun _ i _ => m - (intOf i).toNat)
  case atStart => exact ⟨0, Nat.zero_le _, rfl, HO.out, Below.refl _ _⟩
  case round =>
    clear HO
    rename_i o _
    obtain ⟨k, hk, rfl, HO, HB⟩ := hrel
    by_cases hlt : k < m
    · obtain ⟨b, off, rfl, d0, d1⟩ := (HP.out.below HB.out).at hlt
      have HT := Lib.hid (held_take l t k (by rw [← HM.out]; exact hlt))
      have HL : (held (l.take k) t).length ≤ 1000 := Nat.le_trans (held_take_len l t k) (by omega)
      by_cases hx : (l.getD k e0).1 = t
      · have HT2 : Hid (held (l.take (k + 1)) t = held (l.take k) t ++ [(l.getD k e0).2]) := HT.out.trans (if_pos hx)
        rw [hx] at d0
        generalize (l.getD k e0).2 = x at *
        have hA := (Below.refl _ wr).alloc (Nat.le_refl _) (.cells #[.int .i64 t, .int .i64 x] 66)
        have HX := Lib.hid (by1_any ((HC.out.below HB.out).below hA) t x)
        rw [show decide (t = t) = true by simp] at HX
        have HO1 := Lib.hid (World.ownsRow.alloc HO.out (.cells #[.int .i64 t, .int .i64 x] 66))
        have HB1 := Lib.hid (HB.out.trans (hA.mono HB.out.size))
        have hT0 := heap_alloc_new wr (.cells #[.int .i64 t, .int .i64 x] 66)
        have HT0 : Hid ((wr.alloc (.cells #[.int .i64 t, .int .i64 x] 66)).heap[wr.heap.size]? = some (.cells #[.int .i64 t, .int .i64 x] 66 (0, 0))) := hT0
        clear hT0 hA hx HT HO HB
        go_wp2_with fail
        refine HX.out.mono ?_
        rintro e w2 ⟨rfl, hb⟩
        have hT2 := (hb.block _ (lt_of_block HT0.out)).trans HT0.out
        have e1 : w2.cell? ⟨wr.heap.size, 0 + 1, none⟩ = some (.int .i64 x) := cell_of_row _ _ 1 _ _ _ hT2
        have e2 : w2.cell? ⟨wr.heap.size, 1, none⟩ = some (.int .i64 x) := e1
        have HO2 := Lib.hid (HO1.out.kept (row := none) ⟨hb.os, hb.tape, hb.output, hb.size, fun k hk _ => hb.block k hk⟩ (by cases Value.ownBlock _ <;> simp))
        have HB2 := Lib.hid (chn HB1.out hb)
        obtain ⟨v', w3, hrun, hown3, hb3⟩ := app_num (w := w2.alloc (.cells #[.int .i64 x] 3)) (World.ownsRow.alloc HO2.out _) x (g := w2.heap.size) (heap_alloc_new w2 _) (Nat.le_trans HB2.out.size (by simp)) HL 40
        have HRUN := Lib.hid hrun
        have HO3 := Lib.hid hown3
        have HB3 : Hid (Below w.heap.size w w3) := (HB2.out.alloc HB2.out.size _).trans hb3
        clear hrun hown3 hb3 hT2 hb HT0 HX HL HO1 HO2 HB1
        go_wp2_with (at_builtin; refine wpList_append_eq rfl _ _ 40 40 rfl _ _ _ _ rfl rfl HRUN.out ?_)
        go_roundw
        case rel => exact ⟨k + 1, by omega, by go_num, by rw [HT2.out]; exact HO3.out, HB3.out⟩
        case measure => simp [intOf]; omega
      · have HT2 : Hid (held (l.take (k + 1)) t = held (l.take k) t) := HT.out.trans (if_neg hx)
        have hd : decide ((l.getD k e0).1 = t) = false := by simpa using hx
        generalize (l.getD k e0).1 = u at *
        generalize (l.getD k e0).2 = x at *
        have hA := (Below.refl _ wr).alloc (Nat.le_refl _) (.cells #[.int .i64 u, .int .i64 x] 66)
        have HX := Lib.hid (by1_any ((HC.out.below HB.out).below hA) u x)
        rw [hd] at HX
        have HO1 := Lib.hid (World.ownsRow.alloc HO.out (.cells #[.int .i64 u, .int .i64 x] 66))
        have HB1 := Lib.hid (HB.out.trans (hA.mono HB.out.size))
        clear hA hx HT HO HB hd
        go_wp2_with fail
        refine HX.out.mono ?_
        rintro e w2 ⟨rfl, hb⟩
        have HO2 := Lib.hid (HO1.out.kept (row := none) ⟨hb.os, hb.tape, hb.output, hb.size, fun k hk _ => hb.block k hk⟩ (by cases Value.ownBlock _ <;> simp))
        have HB2 := Lib.hid (chn HB1.out hb)
        clear hb HX HO1 HB1
        go_wp2_with fail
        go_roundw
        case rel => exact ⟨k + 1, by omega, by go_num, by rw [HT2.out]; exact HO2.out, HB2.out⟩
        case measure => simp [intOf]; omega
    · obtain rfl : k = m := by omega
      have HE : Hid ((held (l.take k) t) = held l t) := by rw [HM.out, List.take_length]; rfl
      go_wp2_with fail
      go_ret
      exact ⟨_, rfl, by rw [← HE.out]; exact HO.out, HB.out⟩
set_option maxHeartbeats 2000000 in
theorem resany_any {w : World} {v : Value} {l : List En} (h : ES w v l) (hl : l.length ≤ 1000) :
    Calls Try.prog 41 #[v, (.func (.func 42) #[] #[])] w (HeldP w (l.map (·.2))) := by
  obtain ⟨a, cap, rfl, hn1, hn2⟩ := h.slice
  have HP := Lib.hid h
  skip
  have HO := Lib.hid (NR.nil w w.heap.size)
  obtain ⟨m, hm⟩ : ∃ m, m = l.length := ⟨_, rfl⟩
  have HM := Lib.hid hm
  have hmx : m ≤ 9223372036854775807 := by omega
  rw [← hm] at hl hn1 HP ⊢
  clear h hm 
  go_enter Try.func41, Try.ntmps41
  go_wp2_with fail
  go_loopw [5, 10] (fun o i wr => ∃ k : Nat, k ≤ m ∧ i = .int .i64 k ∧ Hid (NR wr w.heap.size o ((l.take k).map (·.2))) ∧ Hid (Below w.heap.size w wr)) (fun _ i _ => m - (intOf i).toNat)
  case atStart => exact ⟨0, Nat.zero_le _, rfl, HO.out, Below.refl _ _⟩
  case round =>
    clear HO
    rename_i o _
    obtain ⟨k, hk, rfl, HO, HB⟩ := hrel
    by_cases hlt : k < m
    · obtain ⟨b, off, rfl, d0, d1⟩ := (HP.out.below HB.out).at hlt
      have HT2 : Hid ((l.take (k + 1)).map (·.2) = (l.take k).map (·.2) ++ [(l.getD k e0).2]) := by unfold Hid; rw [take_one l k (by rw [← HM.out]; exact hlt), List.map_append]; rfl
      have HL : ((l.take k).map (·.2)).length ≤ 1000 := by rw [List.length_map, List.length_take]; omega
      generalize (l.getD k e0).1 = u at *
      generalize (l.getD k e0).2 = x at *
      have hA := (Below.refl _ wr).alloc (Nat.le_refl _) (.cells #[.int .i64 u, .int .i64 x] 66)
      have HX := Lib.hid (any_any (wr.alloc (.cells #[.int .i64 u, .int .i64 x] 66)) u x)
      have HO1 := Lib.hid (World.ownsRow.alloc HO.out (.cells #[.int .i64 u, .int .i64 x] 66))
      have HB1 := Lib.hid (HB.out.trans (hA.mono HB.out.size))
      have hT0 := heap_alloc_new wr (.cells #[.int .i64 u, .int .i64 x] 66)
      have HT0 : Hid ((wr.alloc (.cells #[.int .i64 u, .int .i64 x] 66)).heap[wr.heap.size]? = some (.cells #[.int .i64 u, .int .i64 x] 66 (0, 0))) := hT0
      clear hT0 hA HO HB
      go_wp2_with fail
      refine HX.out.mono ?_
      rintro e w2 ⟨rfl, hb⟩
      have hT2 := (hb.block _ (lt_of_block HT0.out)).trans HT0.out
      have e1 : w2.cell? ⟨wr.heap.size, 0 + 1, none⟩ = some (.int .i64 x) := cell_of_row _ _ 1 _ _ _ hT2
      have e2 : w2.cell? ⟨wr.heap.size, 1, none⟩ = some (.int .i64 x) := e1
      have HO2 := Lib.hid (HO1.out.kept (row := none) ⟨hb.os, hb.tape, hb.output, hb.size, fun k hk _ => hb.block k hk⟩ (by cases Value.ownBlock _ <;> simp))
      have HB2 := Lib.hid (chn HB1.out hb)
      obtain ⟨v', w3, hrun, hown3, hb3⟩ := app_num (w := w2.alloc (.cells #[.int .i64 x] 3)) (World.ownsRow.alloc HO2.out _) x (g := w2.heap.size) (heap_alloc_new w2 _) (Nat.le_trans HB2.out.size (by simp)) HL 40
      have HRUN := Lib.hid hrun
      have HO3 := Lib.hid hown3
      have HB3 : Hid (Below w.heap.size w w3) := (HB2.out.alloc HB2.out.size _).trans hb3
      clear hrun hown3 hb3 hT2 hb HT0 HX HL HO1 HO2 HB1
      go_wp2_with (at_builtin; refine wpList_append_eq rfl _ _ 40 40 rfl _ _ _ _ rfl rfl HRUN.out ?_)
      go_roundw
      case rel => exact ⟨k + 1, by omega, by go_num, by rw [HT2.out]; exact HO3.out, HB3.out⟩
      case measure => simp [intOf]; omega
    · obtain rfl : k = m := by omega
      have HE : Hid (((l.take k).map (·.2)) = l.map (·.2)) := by rw [HM.out, List.take_length]; rfl
      go_wp2_with fail
      go_ret
      exact ⟨_, rfl, by rw [← HE.out]; exact HO.out, HB.out⟩
end Go.Proofs.Ytmheggedlepdlaa
