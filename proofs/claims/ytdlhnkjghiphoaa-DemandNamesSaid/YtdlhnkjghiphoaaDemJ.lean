/- The chapter's examples: works. -/
import Derived.Test.YtdlhnkjghiphoaaDemI
namespace Go.Proofs.Ytdlhnkjghiphoaa
open Go.RowKit Tk De
set_option linter.unusedVariables false

/-- a literal's rows -/
def lz (l : List (List Int)) : Nat → Nat → Int := fun i j => (l.getD i []).getD j 0
/-- a literal of tasks -/
theorem lit_tk (w : World) (l : List (List Int)) (hl : ∀ x ∈ l, x.length = 8) (hm : l.length ≤ maxLen) :
    TK (w.alloc (.cells (l.flatten.map (Value.int .i64)).toArray 36)) (.slice (some ⟨w.heap.size, 0, none⟩) l.length l.length) l.length (lz l) := by
  refine ⟨_, _, rfl, Nat.le_refl _, hm, (fun h => by cases h), fun _ => ⟨_, 0, rfl, fun i hi j hj => ?_⟩⟩
  refine (cell_of_row _ _ (0 + i * 8 + j) _ _ _ (heap_alloc_new w _)).trans ?_
  have key : ∀ (l : List (List Int)), (∀ x ∈ l, x.length = 8) → ∀ i, i < l.length → ∀ j, j < 8 → l.flatten[i * 8 + j]? = some (lz l i j) := by
    intro l
    induction l with
    | nil => intro _ i hi; cases hi
    | cons x r ih =>
      intro hx i hi j hj
      have h8 := hx x (by simp)
      cases i with
      | zero =>
        simp only [List.flatten_cons, Nat.zero_mul, Nat.zero_add]
        rw [List.getElem?_append_left (by omega)]
        simp [lz, List.getElem?_eq_getElem (show j < x.length by omega)]
      | succ i =>
        simp only [List.flatten_cons]
        rw [List.getElem?_append_right (by omega)]
        have := ih (fun y hy => hx y (by simp [hy])) i (by simpa using hi) j hj
        rw [show (i + 1) * 8 + j - x.length = i * 8 + j by omega, this]
        simp [lz]
  have := key l hl i hi j hj
  rw [List.getElem?_toArray, List.getElem?_map, Nat.zero_add, this]
  rfl
/-- a literal of numbers -/
theorem lit_is (w : World) (l : List Int) (hl : l.length ≤ maxLen) : IS (w.alloc (.cells (l.map (Value.int .i64)).toArray 3)) (.slice (some ⟨w.heap.size, 0, none⟩) l.length l.length) l :=
  ⟨_, _, rfl, Nat.le_refl _, hl, (fun h => by cases h), fun _ => ⟨_, 0, rfl, fun i hi => (cell_of_row _ _ (0 + i) _ _ _ (heap_alloc_new w _)).trans (by simp [List.getElem?_eq_getElem hi, List.getD])⟩⟩
def twl : List (List Int) := [[5, 4, 2, 0, 0, 0, 0, 0], [10, 10, 3, 0, 0, 0, 0, 0]]
def twz : Nat → Nat → Int := lz twl
theorem two_any (w : World) : Calls Try.prog 29 #[] w (fun e w' => ∃ a, e = .returned (.slice a 2 2) ∧ TK w' (.slice a 2 2) 2 twz ∧ Below w.heap.size w w') := by
  have HL := Lib.hid (lit_tk w [[5, 4, 2, 0, 0, 0, 0, 0], [10, 10, 3, 0, 0, 0, 0, 0]] (by decide) (by decide))
  go_enter Try.func29, Try.ntmps29
  go_wp2_with fail
  go_ret
  exact ⟨_, rfl, HL.out, (Below.refl _ w).alloc (Nat.le_refl _) _⟩
theorem of_fit {w : World} {v u : Value} {n : Nat} {z : Nat → Nat → Int} {xs : List Int} {t m e : Int} (hr : ofR n z xs t = (m, e)) (h : TK w v n z) (hx : IS w u xs) :
    Calls Try.prog 9 #[v, u, .int .i64 t] w (TwoB m e w) := by
  have := of_any h hx t
  rw [hr] at this
  exact this
theorem use_fit {w : World} {v u : Value} {n : Nat} {z : Nat → Nat → Int} {xs : List Int} {t m e : Int} (hr : useR n z xs t = (m, e)) (h : TK w v n z) (hx : IS w u xs) :
    Calls Try.prog 17 #[v, u, .int .i64 t] w (TwoB m e w) := by
  have := use_any h hx t
  rw [hr] at this
  exact this
theorem hyper_fit {w : World} {v : Value} {n : Nat} {z : Nat → Nat → Int} {p m e : Int} (hr : hyR n z p = (m, e)) (h : TK w v n z) :
    Calls Try.prog 15 #[v, .int .i64 p] w (TwoB m e w) := by
  have := hyper_any h p
  rw [hr] at this
  exact this
theorem check_fit {w : World} {v u : Value} {n : Nat} {z : Nat → Nat → Int} {xs : List Int} {e : Int} (hr : chkE n z xs = e) (h : TK w v n z) (hx : IS w u xs) :
    Calls Try.prog 11 #[v, u] w (YI e w) := by subst hr; exact check_any h hx
def ats : List Int := [3, 4, 8, 9, 10, 14]
def wnt : List Int := [0, 2, 2, 4, 7, 9]
theorem wnt_at : ∀ j : Nat, j < 6 → ofR 2 twz [0, 0] (ats.getD j 0) = (wnt.getD j 0, 0) := by decide +kernel
theorem k_of9 : ofR 1 twz [1] 9 = (6, 0) := by decide +kernel
theorem k_hy4 : hyR 2 twz 4 = (20, 0) := by decide +kernel
theorem k_hy7 : hyR 2 twz 7 = (70, 0) := by decide +kernel
theorem k_use : useR 2 twz [0, 0] 20 = (14, 0) := by decide +kernel
theorem k_hyl : hyR 3 (lz [[64, 1, 1, 0, 0, 0, 0, 0], [63, 1, 1, 0, 0, 0, 0, 0], [61, 1, 1, 0, 0, 0, 0, 0]]) 59 = (0, 5) := by decide +kernel
theorem k_of3 : ofR 1 twz [] 3 = (0, 2) := by decide +kernel
theorem IS.at0 {w : World} {g n cap : Nat} {xs : List Int} (h : IS w (.slice (some ⟨g, 0, none⟩) n cap) xs) {i : Nat} (hi : i < n) : ∃ off, off = 0 ∧ w.cell? ⟨g, off + i, none⟩ = some (.int .i64 (xs.getD i 0)) := by
  obtain ⟨a', cap', e, h1, h2, h3, h4⟩ := h
  obtain ⟨e1, rfl, rfl⟩ : some ⟨g, 0, none⟩ = a' ∧ n = xs.length ∧ cap = cap' := by simpa using e
  obtain ⟨b, off, e2, hc⟩ := h4 (by omega)
  rw [← e1] at e2
  injection e2 with e2
  injection e2 with e3 e4 _
  subst e3
  exact ⟨off, e4.symm, hc i hi⟩
theorem below_lit {W w' : World} {o : Obj} (h : Below (W.alloc o).heap.size (W.alloc o) w') : Below W.heap.size W w' := ((Below.refl _ _).alloc (Nat.le_refl _) o).trans (h.mono (by simp))
theorem TK.drew {w : World} {v : Value} {n : Nat} {z : Nat → Nat → Int} (h : TK w v n z) : TK w.drew v n z := h
theorem IS.drew {w : World} {v : Value} {xs : List Int} (h : IS w v xs) : IS w.drew v xs := h
theorem TK.alloc {w : World} {v : Value} {n : Nat} {z : Nat → Nat → Int} (h : TK w v n z) (o : Obj) : TK (w.alloc o) v n z := h.below ((Below.refl _ w).alloc (Nat.le_refl _) o)
/-- a cell, and all that was there, are kept -/
def SP (W w : World) (p : Addr) (v : Value) : Prop := w.cell? p = some v ∧ Below W.heap.size W w
theorem SP.drew {W w : World} {p : Addr} {v : Value} (h : SP W w p v) : SP W w.drew p v := ⟨h.1, h.2.drew⟩
theorem SP.below {W w w' : World} {p : Addr} {v : Value} (h : SP W w p v) (q : Below w.heap.size w w') : SP W w' p v := ⟨(q.cell (World.block_lt_of_cell? _ _ h.1)).trans h.1, chn h.2 q⟩
theorem SP.alloc {W w : World} {p : Addr} {v : Value} (h : SP W w p v) (o : Obj) : SP W (w.alloc o) p v := h.below ((Below.refl _ w).alloc (Nat.le_refl _) o)
theorem two_S {W w : World} {p : Addr} {y : Value} (h : SP W w p y) :
    Calls Try.prog 29 #[] w (fun e w' => ∃ a, e = .returned (.slice a 2 2) ∧ TK w' (.slice a 2 2) 2 twz ∧ Below w.heap.size w w' ∧ SP W w' p y) :=
  (two_any w).mono fun _ _ ⟨a, he, ht, hb⟩ => ⟨a, he, ht, hb, h.below hb⟩
theorem of_S {W w : World} {p : Addr} {y v u : Value} {n : Nat} {z : Nat → Nat → Int} {xs : List Int} {t m e : Int} (hr : ofR n z xs t = (m, e)) (hs : SP W w p y) (h : TK w v n z) (hx : IS w u xs) :
    Calls Try.prog 9 #[v, u, .int .i64 t] w (fun en w' => en = .returned (.tuple #[.int .i64 m, .int .i64 e]) ∧ SP W w' p y) :=
  (of_fit hr h hx).mono fun _ _ ⟨he, hb⟩ => ⟨he, hs.below hb⟩
set_option maxRecDepth 100000 in
set_option maxHeartbeats 4000000 in
theorem works_any (w : World) : Calls Try.prog 14 #[] w (TrueB w) := by
  have HA := Lib.hid (lit_is w [3, 4, 8, 9, 10, 14] (by decide))
  have HA2 := Lib.hid (HA.out.below ((Below.refl _ _).alloc (Nat.le_refl _) (.cells #[.int .i64 0, .int .i64 2, .int .i64 2, .int .i64 4, .int .i64 7, .int .i64 9] 3)))
  have HW := Lib.hid (lit_is (w.alloc (.cells #[.int .i64 3, .int .i64 4, .int .i64 8, .int .i64 9, .int .i64 10, .int .i64 14] 3)) [0, 2, 2, 4, 7, 9] (by decide))
  have HB := Lib.hid (((Below.refl _ w).alloc (Nat.le_refl _) (.cells #[.int .i64 3, .int .i64 4, .int .i64 8, .int .i64 9, .int .i64 10, .int .i64 14] 3)).alloc (by simp) (.cells #[.int .i64 0, .int .i64 2, .int .i64 2, .int .i64 4, .int .i64 7, .int .i64 9] 3))
  have HW2 := HW
  rw [show (w.alloc (.cells #[.int .i64 3, .int .i64 4, .int .i64 8, .int .i64 9, .int .i64 10, .int .i64 14] 3)).heap.size = w.heap.size + 1 by simp] at HW2
  clear HA HW
  go_enter Try.func14, Try.ntmps14
  go_wp2_with fail
  go_loopw [3] (fun i wr => ∃ j : Nat, j ≤ 6 ∧ i = .int .i64 j ∧ Hid (IS wr (.slice (some ⟨w.heap.size, 0, none⟩) 6 6) ats) ∧ Hid (IS wr (.slice (some ⟨w.heap.size + 1, 0, none⟩) 6 6) wnt) ∧ Hid (Below w.heap.size w wr)) (fun i _ => 6 - (intOf i).toNat)
  case atStart => exact ⟨0, by omega, rfl, HA2.out, HW2.out, HB.out⟩
  case round =>
    clear HA2 HW2 HB
    obtain ⟨j, hj, rfl, HA, HW, HB⟩ := hrel
    by_cases hlt : j < 6
    · obtain ⟨o1, rfl, c1⟩ := HA.out.at0 hlt
      obtain ⟨o2, rfl, c2⟩ := HW.out.at0 hlt
      rw [Nat.zero_add] at c1 c2
      have HO := Lib.hid (wnt_at j hlt)
      generalize ats.getD j 0 = x at *
      generalize wnt.getD j 0 = y at *
      have hj0 : (0 : Int) ≤ j := by omega
      have hj6 : (j : Int) < 6 := by omega
      have hjd : decide ((j : Int) < 6) = true := by simpa using hj6
      go_wp2_with fail
      have HS : Hid (SP wr wr ⟨w.heap.size, j, none⟩ (.int .i64 x)) := ⟨c1, Below.refl _ _⟩
      have HC2 := Lib.hid c2
      clear c1 c2 hjd
      go_region_held3 (fun w' => w'.cell? ⟨w.heap.size, j, none⟩ = some (.int .i64 x) ∧ Below wr.heap.size wr w')
        (first | assumption | exact SP.drew HS.out | exact HS.out | exact SP.alloc (by assumption) _ | exact SP.alloc (SP.drew HS.out) _ | exact SP.alloc HS.out _ | go_keep)
        (first | (go_at_call 29; refine (two_S (by assumption)).mono ?_; rintro e w' ⟨a, rfl, hT, hbT, hq⟩)
               | (go_at_call 9; refine (of_S HO.out (by assumption) (by first | exact hT | exact TK.alloc (by exact hT) _) (by first | exact lit_is _ [0, 0] (by decide) | exact IS.below (IS.drew (lit_is _ [0, 0] (by decide))) hbT | exact IS.below (lit_is _ [0, 0] (by decide)) hbT)).mono ?_; rintro e w' ⟨rfl, hq2⟩))
      all_goals
        rename_i hHeld
        have HA2 := Lib.hid (HA.out.below hq2.2)
        have HW2 := Lib.hid (HW.out.below hq2.2)
        have HB2 := Lib.hid (chn HB.out hq2.2)
        have c2 := (hq2.2.cell (World.block_lt_of_cell? _ _ HC2.out)).trans HC2.out
        clear hHeld hq hq2 hT hbT HA HW HB HC2 HS
        go_wp2_with fail
        go_roundw
        case rel => exact ⟨j + 1, by omega, by go_num, HA2, HW2, HB2⟩
        case measure => simp [intOf]; omega
    · obtain rfl : j = 6 := by omega
      clear HA HW
      go_wp2_with fail
      refine (two_any _).mono ?_
      rintro e w1 ⟨a1, rfl, hT, hb⟩
      have HB1 := Lib.hid (chn HB.out hb)
      have HT1 := Lib.hid (of_fit k_of9 (TK.alloc (hT.take (j := 1) (by decide)) (.cells #[.int .i64 1] 3)) (lit_is w1 [1] (by decide)))
      clear hb hT HB
      go_wp2_with fail
      refine HT1.out.mono ?_
      rintro e w2 ⟨rfl, hb⟩
      have HB2 := Lib.hid (chn HB1.out (below_lit hb))
      clear hb HB1 HT1
      go_wp2_with fail
      refine (two_any _).mono ?_
      rintro e w3 ⟨a3, rfl, hT, hb⟩
      have HB3 := Lib.hid (chn HB2.out hb)
      have HT3 := Lib.hid (hyper_fit k_hy4 hT)
      clear hb hT HB2
      go_wp2_with fail
      refine HT3.out.mono ?_
      rintro e w4 ⟨rfl, hb⟩
      have HB4 := Lib.hid (chn HB3.out hb)
      clear hb HB3 HT3
      go_wp2_with fail
      refine (two_any _).mono ?_
      rintro e w5 ⟨a5, rfl, hT, hb⟩
      have HB5 := Lib.hid (chn HB4.out hb)
      have HT5 := Lib.hid (hyper_fit k_hy7 hT)
      clear hb hT HB4
      go_wp2_with fail
      refine HT5.out.mono ?_
      rintro e w6 ⟨rfl, hb⟩
      have HB6 := Lib.hid (chn HB5.out hb)
      clear hb HB5 HT5
      go_wp2_with fail
      refine (two_any _).mono ?_
      rintro e w7 ⟨a7, rfl, hT, hb⟩
      have HB7 := Lib.hid (chn HB6.out hb)
      have HT7 := Lib.hid (use_fit k_use (TK.alloc hT (.cells #[.int .i64 0, .int .i64 0] 3)) (lit_is w7 [0, 0] (by decide)))
      clear hb hT HB6
      go_wp2_with fail
      refine HT7.out.mono ?_
      rintro e w8 ⟨rfl, hb⟩
      have HB8 := Lib.hid (chn HB7.out (below_lit hb))
      clear hb HB7 HT7
      have HT8 := Lib.hid (hyper_fit k_hyl (lit_tk w8 [[64, 1, 1, 0, 0, 0, 0, 0], [63, 1, 1, 0, 0, 0, 0, 0], [61, 1, 1, 0, 0, 0, 0, 0]] (by decide) (by decide)))
      go_wp2_with fail
      refine HT8.out.mono ?_
      rintro e w9 ⟨rfl, hb⟩
      have HB9 := Lib.hid (chn HB8.out (below_lit hb))
      clear hb HB8 HT8
      go_wp2_with fail
      refine (two_any _).mono ?_
      rintro e w10 ⟨a10, rfl, hT, hb⟩
      have HB10 := Lib.hid (chn HB9.out hb)
      have HT10 := Lib.hid (of_fit k_of3 (hT.take (j := 1) (by decide)) (IS.nil w10))
      clear hb hT HB9
      go_wp2_with fail
      refine HT10.out.mono ?_
      rintro e w11 ⟨rfl, hb⟩
      have HB11 := Lib.hid (chn HB10.out hb)
      clear hb HB10 HT10
      go_wp2_with fail
      go_ret
      exact ⟨rfl, HB11.out⟩
end Go.Proofs.Ytdlhnkjghiphoaa
