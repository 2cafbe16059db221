/- The examples: works; Bring, number. -/
import Derived.Test.YtpdniickflenoaaPackF
namespace Go.Proofs.Ytpdniickflenoaa
open Go.RowKit Pk
set_option linter.unusedVariables false

theorem lit_cell (w : World) (c : Array Value) (t : TypeId) (i : Nat) (v : Value) (h : c[i]? = some v) : (w.alloc (.cells c t)).cell? ⟨w.heap.size, i, none⟩ = some v := (cell_of_row _ _ i c t _ (heap_alloc_new w _)).trans h
theorem bs_lit (w : World) (l : List Int) (hl : l.length ≤ maxLen) : BS (w.alloc (.cells (l.map (Value.int .u8)).toArray 5)) (.slice (some ⟨w.heap.size, 0, none⟩) l.length l.length) l :=
  ⟨_, _, rfl, Nat.le_refl _, hl, (fun h => by cases h), fun _ => ⟨_, 0, rfl, fun i hi => lit_cell w _ 5 _ _ (by simp [List.getElem?_eq_getElem hi, List.getD])⟩⟩
theorem is_lit (w : World) (l : List Int) (hl : l.length ≤ maxLen) : IS (w.alloc (.cells (l.map (Value.int .i64)).toArray 3)) (.slice (some ⟨w.heap.size, 0, none⟩) l.length l.length) l :=
  ⟨_, _, rfl, Nat.le_refl _, hl, (fun h => by cases h), fun _ => ⟨_, 0, rfl, fun i hi => lit_cell w _ 3 _ _ (by simp [List.getElem?_eq_getElem hi, List.getD])⟩⟩

theorem PutP.yes {xs l : List Int} {w w' : World} {e : Ending} (h : PutP xs l w e w') (hl : l.all isN = true) : ∃ v, e = .returned (.tuple #[v, .int .i64 0]) ∧ Ow w' w.heap.size v (xs ++ nums l) ∧ Below w.heap.size w w' := by
  obtain ⟨hb, ⟨_, v, h1, h2⟩ | ⟨h1, _⟩⟩ := h
  · exact ⟨v, h1, h2, hb⟩
  · rw [hl] at h1; cases h1
theorem PutP.no {xs l : List Int} {w w' : World} {e : Ending} (h : PutP xs l w e w') (hl : l.all isN = false) : e = .returned (.tuple #[.slice none 0 0, .int .i64 2]) ∧ Below w.heap.size w w' := by
  obtain ⟨hb, ⟨h1, _⟩ | ⟨_, h1⟩⟩ := h
  · rw [hl] at h1; cases h1
  · exact ⟨h1, hb⟩
theorem TxtP.yes {xs : List Int} {s : ByteArray} {w w' : World} {e : Ending} (h : TxtP xs s w e w') (hs : s.size ≤ 65536) : ∃ v, e = .returned (.tuple #[v, .int .i64 0]) ∧ Ow w' w.heap.size v (xs ++ (num s.size ++ txt s)) ∧ Below w.heap.size w w' := by
  obtain ⟨hb, ⟨_, v, h1, h2⟩ | ⟨h1, _⟩⟩ := h
  · exact ⟨v, h1, h2, hb⟩
  · omega
/-- true is answered; what was there is as it was -/
def TrueB (w : World) (e : Ending) (w' : World) : Prop := e = .returned (.bool true) ∧ Below w.heap.size w w'
theorem eq_lit {w : World} {v : Value} {l : List Int} (h : BS w v l) (hl : l.length ≤ maxLen) : Calls Try.prog 12 #[v, .slice (some ⟨w.heap.size, 0, none⟩) l.length l.length] (w.alloc (.cells (l.map (Value.int .u8)).toArray 5)) (TrueB w) :=
  (eq_any (h.alloc _) (bs_lit w l hl)).mono fun e w' ⟨he, hw⟩ => ⟨he, by rw [← hw]; exact (Below.refl _ w).alloc (Nat.le_refl _) _⟩
theorem Only.rd {w w' : World} {rb B : Nat} (h : Only (fun k => k = rb) w w') (hB : B ≤ rb) (hw : B ≤ w.heap.size) : Below B w w' := h.below hw (fun k _ hk => by omega)
theorem chain {w w1 w2 : World} (h : Below w.heap.size w w1) (k : Below w1.heap.size w1 w2) : Below w.heap.size w w2 := h.trans (k.mono h.size)

theorem lit_put : [] ++ nums [3, 254, 255, 256] = [3, 254, 255, 0, 0, 0, 0, 0, 0, 0, 1, 255, 0, 0, 0, 0, 0, 0, 0, 2] := by decide
theorem lit_txt : [] ++ (num (ByteArray.size ⟨#[97, 98]⟩ : Nat) ++ txt ⟨#[97, 98]⟩) = [2, 97, 98] := by decide
theorem lit_rd1 : rdT [2, 97, 98, 7] 0 9 = ([97, 98], [7], 0) := by decide
theorem lit_rd2 : rdN [7] 0 6 = (0, [], 5) := by decide
theorem lit_rd3 : rdN [] 5 9 = (0, [], 5) := by decide
theorem lit_str : strOfNums [97, 98] = ⟨#[97, 98]⟩ := by rfl

set_option maxRecDepth 100000 in
set_option maxHeartbeats 1000000 in
theorem works_any (w : World) : Calls Try.prog 13 #[] w (TrueB w) := by
  have H1 := put_any (BS.nil _) (is_lit w [3, 254, 255, 256] (by decide)) (by decide)
  go_enter Try.func13, Try.ntmps13
  go_wp2_with fail
  refine Calls.mono H1 ?_
  intro e w1 hp
  obtain ⟨v1, rfl, ho1, hb1⟩ := hp.yes (by decide)
  rw [lit_put] at ho1
  have HB1 : Hid (Below w.heap.size w w1) := ((Below.refl _ w).alloc (Nat.le_refl _) _).trans (hb1.mono (by simp))
  have HA1 := Lib.hid ho1.bs
  clear hp ho1 hb1 H1
  have H2 := Lib.hid (putText_any (w := w1) ⟨#[97, 98]⟩ (BS.nil _) (by decide))
  go_wp2_with fail
  refine H2.out.mono ?_
  intro e w2 hp
  obtain ⟨v2, rfl, ho2, hb2⟩ := hp.yes (by decide)
  rw [lit_txt] at ho2
  have HB2 : Hid (Below w.heap.size w w2) := chain HB1.out hb2
  have HA2 := Lib.hid (HA1.out.below hb2)
  have HC2 := Lib.hid ho2.bs
  clear hp ho2 hb2 H2 HB1 HA1
  have H3 := Lib.hid (put_any (BS.nil _) (is_lit w2 [-1] (by decide)) (by decide))
  go_wp2_with fail
  refine H3.out.mono ?_
  intro e w3 hp
  obtain ⟨rfl, hb3⟩ := hp.no (by decide)
  have HB3 : Hid (Below w2.heap.size w2 w3) := ((Below.refl _ w2).alloc (Nat.le_refl _) _).trans (hb3.mono (by simp))
  have HA3 := Lib.hid (HA2.out.below HB3.out); have HC3 := Lib.hid (HC2.out.below HB3.out)
  have HB4 : Hid (Below w.heap.size w w3) := chain HB2.out HB3.out
  clear hp hb3 H3 HA2 HC2 HB2 HB3
  have H4 := Lib.hid (read_any (bs_lit w3 [2, 97, 98, 7] (by decide)) (by unfold Bys; decide) (by decide))
  go_wp2_with fail
  refine H4.out.mono ?_
  rintro e w4 ⟨rb, rfl, hrb, hrd, hb4⟩
  have HB5 : Hid (Below w3.heap.size w3 w4) := ((Below.refl _ w3).alloc (Nat.le_refl _) _).trans (hb4.mono (by simp))
  have hrb' : w3.heap.size ≤ rb := Nat.le_trans (by simp) hrb
  have HA4 := Lib.hid (HA3.out.below HB5.out); have HC4 := Lib.hid (HC3.out.below HB5.out); have HR4 := Lib.hid hrd
  have HB6 : Hid (Below w.heap.size w w4) := chain HB4.out HB5.out
  have hrw : Hid (w.heap.size ≤ rb) := Nat.le_trans HB4.out.size hrb'
  clear hrb hrd hb4 H4 HA3 HC3 HB4 HB5 hrb'
  have hneq := HR4.out.lt
  have H5 := Lib.hid (eq_lit HA4.out (by decide))
  go_wp2_with fail
  refine H5.out.mono ?_
  rintro e w5 ⟨rfl, hb5⟩
  have HC5 := Lib.hid (HC4.out.below hb5); have HR5 := Lib.hid (HR4.out.below hb5); have HB7 := Lib.hid (chain HB6.out hb5)
  clear hb5 H5 HA4 HC4 HR4 HB6 hneq
  have H6 := Lib.hid (eq_lit HC5.out (by decide))
  go_wp2_with fail
  refine H6.out.mono ?_
  rintro e w6 ⟨rfl, hb6⟩
  have HR6 := Lib.hid (HR5.out.below hb6); have HB8 := Lib.hid (chain HB7.out hb6)
  clear hb6 H6 HC5 HR5 HB7
  have H7 := text_any HR6.out 9
  rw [lit_rd1] at H7
  have H8 := Lib.hid H7
  clear H7
  go_wp2_with fail
  refine H8.out.mono ?_
  rintro e w7 ⟨rfl, hr7, ho7⟩
  have HR7 := Lib.hid hr7; have HB9 := Lib.hid (HB8.out.trans (ho7.rd hrw.out HB8.out.size))
  clear hr7 ho7 H8 HR6 HB8
  have H9 := num_any HR7.out 6
  rw [lit_rd2] at H9
  have H10 := Lib.hid H9
  clear H9
  rw [lit_str]
  go_wp2_with fail
  refine H10.out.mono ?_
  rintro e w8 ⟨rfl, hr8, ho8⟩
  have HR8 := Lib.hid hr8; have HB10 := Lib.hid (HB9.out.trans (ho8.rd hrw.out HB9.out.size))
  clear hr8 ho8 H10 HR7 HB9
  have H11 := Lib.hid (err_any HR8.out)
  go_wp2_with fail
  refine H11.out.mono ?_
  rintro e w9 ⟨rfl, rfl⟩
  have H12 := num_any HR8.out 9
  rw [lit_rd3] at H12
  have H13 := Lib.hid H12
  clear H12 H11
  go_wp2_with fail
  refine H13.out.mono ?_
  rintro e w10 ⟨rfl, hr10, ho10⟩
  have HB11 := Lib.hid (HB10.out.trans (ho10.rd hrw.out HB10.out.size))
  clear hr10 ho10 H13 HR8 HB10
  go_wp2_with fail
  go_ret
  exact ⟨rfl, HB11.out⟩

/-! Bring, number -/
set_option maxHeartbeats 400000 in
theorem bring_any (a n : Int) (w : World) (h : 1 ≤ n) (hn : n ≤ 9007199254740992) : Calls Try.prog 21 #[.int .i64 a, .int .i64 n] w (IsI (bring a n) w) := by
  unfold bring
  have h1 := Int.lt_tmod_of_pos a (by omega : 0 < n)
  have h2 := Int.tmod_lt_of_pos a (by omega : 0 < n)
  have hz : (n == 0) = false := by simp; omega
  have hw64 : wrap64 (a.tmod n) = a.tmod n := by unfold wrap64; omega
  by_cases hr : a.tmod n < 0
  · rw [if_pos hr]
    have hd : decide (a.tmod n < 0) = true := by simpa using hr
    have hw2 : wrap64 (a.tmod n + n) = a.tmod n + n := by unfold wrap64; omega
    go_enter Try.func21, Try.ntmps21
    go_wp2
    go_ret
    exact ⟨rfl, rfl⟩
  · rw [if_neg hr]
    have hd : decide (a.tmod n < 0) = false := by simpa using hr
    go_enter Try.func21, Try.ntmps21
    go_wp2
    go_ret
    exact ⟨rfl, rfl⟩
set_option maxHeartbeats 400000 in
theorem number_any (n : Int) (w : World) (h1 : -9223372036854775808 ≤ n) (h2 : n ≤ 9223372036854775807) : Calls Try.prog 14 #[.int .i64 n] w (IsI (number n) w) := by
  unfold number
  have hw1 : wrap64 (n.tmod 3) = n.tmod 3 := by
    have g1 := Int.lt_tmod_of_pos n (show (0 : Int) < 3 by decide)
    have g2 := Int.tmod_lt_of_pos n (show (0 : Int) < 3 by decide)
    unfold wrap64; omega
  have hw2 : wrap64 (n.tdiv 3) = n.tdiv 3 := by
    have g3 := Int.tmod_add_mul_tdiv n 3
    have g1 := Int.lt_tmod_of_pos n (show (0 : Int) < 3 by decide)
    have g2 := Int.tmod_lt_of_pos n (show (0 : Int) < 3 by decide)
    unfold wrap64; omega
  by_cases hr : n.tmod 3 = 0
  · rw [if_pos hr]
    have HB := Lib.hid (bring_any (n.tdiv 3) 600 w (by decide) (by decide))
    have hd : (n.tmod 3 == 0) = true := by simpa using hr
    clear hr hw1
    go_enter Try.func14, Try.ntmps14
    go_wp2_with fail
    refine HB.out.mono ?_
    rintro e w1 ⟨rfl, rfl⟩
    go_wp2_with fail
    go_ret
    exact ⟨rfl, rfl⟩
  · rw [if_neg hr]
    have HB := Lib.hid (bring_any n 9007199254740992 w (by decide) (by decide))
    have hd : (n.tmod 3 == 0) = false := by simpa using hr
    clear hr hw1
    go_enter Try.func14, Try.ntmps14
    go_wp2_with fail
    refine HB.out.mono ?_
    rintro e w1 ⟨rfl, rfl⟩
    go_wp2_with fail
    go_ret
    exact ⟨rfl, rfl⟩

end Go.Proofs.Ytpdniickflenoaa
