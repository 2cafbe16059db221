/- The program's room: is there one, a task, a job; what asks a job. -/
import Derived.Test.YtkkmfpllgjoceaaGreatRooN
import Derived.Deep.RegionHeld3
import Derived.Lib.QuietBelow
namespace Go.Proofs.YtkkmfpllgjoceaaGreat.Ro
open Go.RowKit Go.Sort Ac Jo
set_option linter.unusedVariables false
set_option maxRecDepth 100000

section
variable {m : Mm} {w w' : World} {rb : Nat} {s : Rm}
theorem PRM.cells (h : PRM m w rb s) : w.cell? ⟨rb, 0, none⟩ = some (.pointer (some ⟨m.sb, 0, none⟩)) ∧ w.cell? ⟨rb, 0 + 1, none⟩ = some (.pointer (some ⟨m.qb, 0, none⟩)) ∧ w.cell? ⟨rb, 0 + 2, none⟩ = some m.tv ∧ w.cell? ⟨rb, 0 + 3, none⟩ = some m.gv ∧ w.cell? ⟨rb, 0 + 4, none⟩ = some (.slice (some ⟨m.jv, 0, none⟩) s.n s.n) :=
  ⟨cell_of_row _ _ 0 _ _ _ h.ob, cell_of_row _ _ 1 _ _ _ h.ob, cell_of_row _ _ 2 _ _ _ h.ob, cell_of_row _ _ 3 _ _ _ h.ob, cell_of_row _ _ 4 _ _ _ h.ob⟩
theorem PRM.jcell (h : PRM m w rb s) {i : Nat} (hi : i < s.n) : w.cell? ⟨m.jv, i, none⟩ = some (m.jp i) := by
  have := cell_of_row _ _ i _ _ _ h.jo
  rw [jcl_at _ _ _ hi] at this
  exact this
/-- of which tasks there are jobs -/
def Jp (m : Mm) (s : Rm) : Prop := ∀ i, i < s.n → m.p i = decide (0 ≤ s.dl i)
theorem asked_p (hp : Jp m s) {t : Int} (h : asked s t = 0) : ∃ i : Nat, t = i ∧ i < s.n ∧ m.p i = true ∧ m.jp i = .pointer (some ⟨m.ja i, 0, none⟩) ∧ s.j t = s.J i := by
  obtain ⟨a1, a2, a3⟩ := asked_in h
  refine ⟨t.toNat, by omega, by omega, ?_, ?_, rfl⟩
  · rw [hp _ (by omega), show ((t.toNat : Nat) : Int) = t by omega]; simpa using a3
  · unfold Mm.jp
    rw [hp _ (by omega), show ((t.toNat : Nat) : Int) = t by omega, if_pos (by simpa using a3)]
theorem none_no (h : PRM m w rb s) : Calls Tryz.prog 73 #[.pointer (some ⟨rb, 0, none⟩)] w (IsB false w) := by
  obtain ⟨c0, c1, c2, c3, c4⟩ := h.cells
  clear h c1 c2 c3 c4
  go_enter Tryz.func73, Tryz.ntmps73
  go_wp2_with fail
  go_ret
  exact ⟨rfl, rfl⟩
def lackE (s : Rm) (t : Int) : Int := if t < 0 ∨ (s.n : Int) ≤ t then 9 else 0
theorem lt_any (h : PRM m w rb s) (t : Int) : Calls Tryz.prog 88 #[.pointer (some ⟨rb, 0, none⟩), .int .i64 t] w (IsI (lackE s t) w) := by
  have HN := Lib.hid (none_no h)
  obtain ⟨c0, c1, c2, c3, c4⟩ := h.cells
  obtain ⟨a, cap, ht, hc1, hc2⟩ := h.tk.slice
  rw [ht] at c2
  obtain ⟨n, hn⟩ : ∃ n, n = s.n := ⟨_, rfl⟩
  have hcase : (t < 0 ∧ lackE s t = 9) ∨ (0 ≤ t ∧ (n : Int) ≤ t ∧ lackE s t = 9) ∨ (0 ≤ t ∧ t < n ∧ lackE s t = 0) := by
    unfold lackE
    rw [hn]
    split <;> omega
  rw [← hn] at c2
  clear h c0 c1 c3 c4 ht hn hc1 hc2
  rcases hcase with ⟨q1, q⟩ | ⟨q1, q2, q⟩ | ⟨q1, q2, q⟩
  · have d1 : decide (t < 0) = true := by simpa using q1
    rw [q]
    clear q
    go_enter Tryz.func88, Tryz.ntmps88
    go_wp2_with fail
    refine HN.out.mono ?_
    rintro e w1 ⟨rfl, rfl⟩
    go_wp2_with fail
    go_ret
    exact ⟨rfl, rfl⟩
  · have d1 : decide (t < 0) = false := by simpa using q1
    have d2 : decide ((n : Int) ≤ t) = true := by simpa using q2
    rw [q]
    clear q
    go_enter Tryz.func88, Tryz.ntmps88
    go_wp2_with fail
    refine HN.out.mono ?_
    rintro e w1 ⟨rfl, rfl⟩
    go_wp2_with fail
    go_ret
    exact ⟨rfl, rfl⟩
  · have d1 : decide (t < 0) = false := by simpa using q1
    have d2 : decide ((n : Int) ≤ t) = false := by simpa using q2
    rw [q]
    clear q
    go_enter Tryz.func88, Tryz.ntmps88
    go_wp2_with fail
    refine HN.out.mono ?_
    rintro e w1 ⟨rfl, rfl⟩
    go_wp2_with fail
    go_ret
    exact ⟨rfl, rfl⟩
theorem asked_cases (hp : Jp m s) (t : Int) : (lackE s t = 9 ∧ asked s t = 9) ∨ (∃ i : Nat, t = i ∧ i < s.n ∧ lackE s t = 0 ∧ m.jp i = .pointer none ∧ asked s t = 250) ∨ (∃ i : Nat, t = i ∧ i < s.n ∧ lackE s t = 0 ∧ m.jp i = .pointer (some ⟨m.ja i, 0, none⟩) ∧ asked s t = 0) := by
  by_cases h : t < 0 ∨ (s.n : Int) ≤ t
  · exact Or.inl ⟨if_pos h, if_pos h⟩
  · right
    have e0 : t = ((t.toNat : Nat) : Int) := by omega
    have hd := hp t.toNat (by omega)
    rw [← e0] at hd
    unfold asked lackE Mm.jp
    rw [if_neg h, if_neg h]
    by_cases hd2 : s.dl t < 0
    · refine Or.inl ⟨t.toNat, e0, by omega, rfl, ?_, if_pos hd2⟩
      rw [hd, if_neg (by simp; omega)]
    · refine Or.inr ⟨t.toNat, e0, by omega, rfl, ?_, if_neg hd2⟩
      rw [hd, if_pos (by simp; omega)]
theorem lj_any (h : PRM m w rb s) (hp : Jp m s) (t : Int) : Calls Tryz.prog 71 #[.pointer (some ⟨rb, 0, none⟩), .int .i64 t] w (IsI (asked s t) w) := by
  have HL := Lib.hid (lt_any h t)
  obtain ⟨c0, c1, c2, c3, c4⟩ := h.cells
  clear c0 c1 c2 c3
  rcases asked_cases hp t with ⟨q1, q2⟩ | ⟨i, rfl, hi, q1, q2, q3⟩ | ⟨i, rfl, hi, q1, q2, q3⟩
  · rw [q1] at HL
    rw [q2]
    clear q1 q2 h c4
    go_enter Tryz.func71, Tryz.ntmps71
    go_wp2_with fail
    refine HL.out.mono ?_
    rintro e w1 ⟨rfl, rfl⟩
    go_wp2_with fail
    go_ret
    exact ⟨rfl, rfl⟩
  all_goals
    have cj := h.jcell hi
    rw [q2] at cj
    rw [q1] at HL
    rw [q3]
    generalize s.n = n at *
    clear q1 q2 q3 h
    go_enter Tryz.func71, Tryz.ntmps71
    go_wp2_with fail
    refine HL.out.mono ?_
    rintro e w1 ⟨rfl, rfl⟩
    go_wp2_with fail
    go_ret
    exact ⟨rfl, rfl⟩
/-- a closure is answered over what stands in a box -/
def ClV (F : Nat) (M : Value) (T : TypeId) (w : World) (e : Ending) (w' : World) : Prop := ∃ B, e = .returned (.func (.func F) #[] #[.pointer (some ⟨B, 0, none⟩)]) ∧ w'.heap[B]? = some (.cells #[M] T (0, 0)) ∧ Below w.heap.size w w'
theorem asks_int (w : World) (F : Nat) (C : Array Value) : Calls Tryz.prog 69 #[.func (.func F) #[] C] w (ClV 121 (.func (.func F) #[] C) 105 w) := by
  go_enter Tryz.func69, Tryz.ntmps69
  go_wp2_with fail
  go_ret
  exact ⟨w.heap.size, rfl, heap_alloc_new w _, (Below.refl _ _).alloc (Nat.le_refl _) _⟩
theorem no_int {B : Nat} {M : Value} (h : PRM m w rb s) (hp : Jp m s) {t : Int} (ha : asked s t ≠ 0) : Calls Tryz.prog 121 #[.pointer (some ⟨rb, 0, none⟩), .int .i64 t, .pointer (some ⟨B, 0, none⟩)] w (VB (.tuple #[.int .i64 0, .int .i64 (asked s t)]) w) := by
  have HJ := Lib.hid (lj_any h hp t)
  generalize asked s t = x at *
  have d1 : (x != 0) = true := by simpa using ha
  clear h hp ha
  go_enter Tryz.func121, Tryz.ntmps121
  go_wp2_with fail
  refine HJ.out.mono ?_
  rintro e w1 ⟨rfl, rfl⟩
  go_wp2_with fail
  go_ret2
  exact ⟨rfl, Below.refl _ _⟩
theorem asks_bool (w : World) (F : Nat) (C : Array Value) : Calls Tryz.prog 128 #[.func (.func F) #[] C] w (ClV 173 (.func (.func F) #[] C) 158 w) := by
  go_enter Tryz.func128, Tryz.ntmps128
  go_wp2_with fail
  go_ret
  exact ⟨w.heap.size, rfl, heap_alloc_new w _, (Below.refl _ _).alloc (Nat.le_refl _) _⟩
theorem no_bool {B : Nat} {M : Value} (h : PRM m w rb s) (hp : Jp m s) {t : Int} (ha : asked s t ≠ 0) : Calls Tryz.prog 173 #[.pointer (some ⟨rb, 0, none⟩), .int .i64 t, .pointer (some ⟨B, 0, none⟩)] w (VB (.tuple #[.bool false, .int .i64 (asked s t)]) w) := by
  have HJ := Lib.hid (lj_any h hp t)
  generalize asked s t = x at *
  have d1 : (x != 0) = true := by simpa using ha
  clear h hp ha
  go_enter Tryz.func173, Tryz.ntmps173
  go_wp2_with fail
  refine HJ.out.mono ?_
  rintro e w1 ⟨rfl, rfl⟩
  go_wp2_with fail
  go_ret2
  exact ⟨rfl, Below.refl _ _⟩
theorem asks_err (w : World) (F : Nat) (C : Array Value) : Calls Tryz.prog 135 #[.func (.func F) #[] C] w (ClV 176 (.func (.func F) #[] C) 108 w) := by
  go_enter Tryz.func135, Tryz.ntmps135
  go_wp2_with fail
  go_ret
  exact ⟨w.heap.size, rfl, heap_alloc_new w _, (Below.refl _ _).alloc (Nat.le_refl _) _⟩
theorem no_err {B : Nat} {M : Value} (h : PRM m w rb s) (hp : Jp m s) {t : Int} (ha : asked s t ≠ 0) : Calls Tryz.prog 176 #[.pointer (some ⟨rb, 0, none⟩), .int .i64 t, .pointer (some ⟨B, 0, none⟩)] w (VB (.tuple #[.int .i64 0, .int .i64 (asked s t)]) w) := by
  have HJ := Lib.hid (lj_any h hp t)
  generalize asked s t = x at *
  have d1 : (x != 0) = true := by simpa using ha
  clear h hp ha
  go_enter Tryz.func176, Tryz.ntmps176
  go_wp2_with fail
  refine HJ.out.mono ?_
  rintro e w1 ⟨rfl, rfl⟩
  go_wp2_with fail
  go_ret2
  exact ⟨rfl, Below.refl _ _⟩
theorem yes_dead {B : Nat} {v : Value} (h : PRM m w rb s) (hp : Jp m s) {i : Nat} (hi : i < s.n) (hpi : m.p i = true) (ha : asked s i = 0) (hB : w.heap[B]? = some (.cells #[.func (.func 70) #[] #[]] 105 (0, 0)))
    (HM : ∀ w1, Below w.heap.size w w1 → Calls Tryz.prog 70 #[.pointer (some ⟨m.ja i, 0, none⟩)] w1 (VB v w1)) : Calls Tryz.prog 121 #[.pointer (some ⟨rb, 0, none⟩), .int .i64 i, .pointer (some ⟨B, 0, none⟩)] w (VB (.tuple #[v, .int .i64 0]) w) := by
  have HJ := Lib.hid (lj_any h hp i)
  rw [ha] at HJ
  obtain ⟨c0, c1, c2, c3, c4⟩ := h.cells
  have cj := h.jcell hi
  rw [show m.jp i = .pointer (some ⟨m.ja i, 0, none⟩) from if_pos hpi] at cj
  have cB := cell_of_row _ _ 0 _ _ _ hB
  have HM := Lib.hid HM
  generalize s.n = n at *
  generalize m.ja i = jb at *
  generalize m.jv = jv at *
  clear h hp ha hB c0 c1 c2 c3 hpi
  go_enter Tryz.func121, Tryz.ntmps121
  go_wp2_with fail
  refine HJ.out.mono ?_
  rintro e w1 ⟨rfl, rfl⟩
  clear HJ
  have HS0 := Lib.hid (And.intro cB (And.intro c4 (And.intro cj (Below.refl w.heap.size w))))
  go_wp2_with fail
  go_region_held3 (fun w' => w'.cell? ⟨B, 0, none⟩ = some (.func (.func 70) #[] #[]) ∧ w'.cell? ⟨rb, 0 + 4, none⟩ = some (.slice (some ⟨jv, 0, none⟩) n n) ∧ w'.cell? ⟨jv, i, none⟩ = some (.pointer (some ⟨jb, 0, none⟩)) ∧ Below w.heap.size w w')
    (first | assumption | exact HS0.out | exact ⟨HS0.out.1, HS0.out.2.1, HS0.out.2.2.1, HS0.out.2.2.2.drew⟩ | go_keep)
    (first | (go_at_call 70; refine (HM.out _ (by first | exact Below.refl _ _ | exact (Below.refl _ _).drew)).mono ?_; rintro e w2 ⟨rfl, hb2⟩; have HB2 := Lib.hid (show Below w.heap.size w w2 from chn (Below.drew (Below.refl _ _)) hb2); have hS2 : w2.cell? ⟨B, 0, none⟩ = some (.func (.func 70) #[] #[]) ∧ w2.cell? ⟨rb, 0 + 4, none⟩ = some (.slice (some ⟨jv, 0, none⟩) n n) ∧ w2.cell? ⟨jv, i, none⟩ = some (.pointer (some ⟨jb, 0, none⟩)) ∧ Below w.heap.size w w2 := ⟨(HB2.out.cell (lt_of_cell cB)).trans cB, (HB2.out.cell (lt_of_cell c4)).trans c4, (HB2.out.cell (lt_of_cell cj)).trans cj, HB2.out⟩))
  all_goals
    go_wp2_with fail
    go_ret2
    exact ⟨rfl, HB2.out⟩
theorem yes_with {B : Nat} {p1 p2 v : Value} (h : PRM m w rb s) (hp : Jp m s) {i : Nat} (hi : i < s.n) (hpi : m.p i = true) (ha : asked s i = 0) (hB : w.heap[B]? = some (.cells #[.func (.func 156) #[] #[p1, p2]] 105 (0, 0)))
    (HM : ∀ w1, Below w.heap.size w w1 → Calls Tryz.prog 156 #[.pointer (some ⟨m.ja i, 0, none⟩), p1, p2] w1 (VB v w1)) : Calls Tryz.prog 121 #[.pointer (some ⟨rb, 0, none⟩), .int .i64 i, .pointer (some ⟨B, 0, none⟩)] w (VB (.tuple #[v, .int .i64 0]) w) := by
  have HJ := Lib.hid (lj_any h hp i)
  rw [ha] at HJ
  obtain ⟨c0, c1, c2, c3, c4⟩ := h.cells
  have cj := h.jcell hi
  rw [show m.jp i = .pointer (some ⟨m.ja i, 0, none⟩) from if_pos hpi] at cj
  have cB := cell_of_row _ _ 0 _ _ _ hB
  have HM := Lib.hid HM
  generalize s.n = n at *
  generalize m.ja i = jb at *
  generalize m.jv = jv at *
  clear h hp ha hB c0 c1 c2 c3 hpi
  go_enter Tryz.func121, Tryz.ntmps121
  go_wp2_with fail
  refine HJ.out.mono ?_
  rintro e w1 ⟨rfl, rfl⟩
  clear HJ
  have HS0 := Lib.hid (And.intro cB (And.intro c4 (And.intro cj (Below.refl w.heap.size w))))
  go_wp2_with fail
  go_region_held3 (fun w' => w'.cell? ⟨B, 0, none⟩ = some (.func (.func 156) #[] #[p1, p2]) ∧ w'.cell? ⟨rb, 0 + 4, none⟩ = some (.slice (some ⟨jv, 0, none⟩) n n) ∧ w'.cell? ⟨jv, i, none⟩ = some (.pointer (some ⟨jb, 0, none⟩)) ∧ Below w.heap.size w w')
    (first | assumption | exact HS0.out | exact ⟨HS0.out.1, HS0.out.2.1, HS0.out.2.2.1, HS0.out.2.2.2.drew⟩ | go_keep)
    (first | (go_at_call 156; refine (HM.out _ (by first | exact Below.refl _ _ | exact (Below.refl _ _).drew)).mono ?_; rintro e w2 ⟨rfl, hb2⟩; have HB2 := Lib.hid (show Below w.heap.size w w2 from chn (Below.drew (Below.refl _ _)) hb2); have hS2 : w2.cell? ⟨B, 0, none⟩ = some (.func (.func 156) #[] #[p1, p2]) ∧ w2.cell? ⟨rb, 0 + 4, none⟩ = some (.slice (some ⟨jv, 0, none⟩) n n) ∧ w2.cell? ⟨jv, i, none⟩ = some (.pointer (some ⟨jb, 0, none⟩)) ∧ Below w.heap.size w w2 := ⟨(HB2.out.cell (lt_of_cell cB)).trans cB, (HB2.out.cell (lt_of_cell c4)).trans c4, (HB2.out.cell (lt_of_cell cj)).trans cj, HB2.out⟩))
  all_goals
    go_wp2_with fail
    go_ret2
    exact ⟨rfl, HB2.out⟩
theorem yes_begun {B : Nat} {v : Value} (h : PRM m w rb s) (hp : Jp m s) {i : Nat} (hi : i < s.n) (hpi : m.p i = true) (ha : asked s i = 0) (hB : w.heap[B]? = some (.cells #[.func (.func 129) #[] #[]] 158 (0, 0)))
    (HM : ∀ w1, Below w.heap.size w w1 → Calls Tryz.prog 129 #[.pointer (some ⟨m.ja i, 0, none⟩)] w1 (VB v w1)) : Calls Tryz.prog 173 #[.pointer (some ⟨rb, 0, none⟩), .int .i64 i, .pointer (some ⟨B, 0, none⟩)] w (VB (.tuple #[v, .int .i64 0]) w) := by
  have HJ := Lib.hid (lj_any h hp i)
  rw [ha] at HJ
  obtain ⟨c0, c1, c2, c3, c4⟩ := h.cells
  have cj := h.jcell hi
  rw [show m.jp i = .pointer (some ⟨m.ja i, 0, none⟩) from if_pos hpi] at cj
  have cB := cell_of_row _ _ 0 _ _ _ hB
  have HM := Lib.hid HM
  generalize s.n = n at *
  generalize m.ja i = jb at *
  generalize m.jv = jv at *
  clear h hp ha hB c0 c1 c2 c3 hpi
  go_enter Tryz.func173, Tryz.ntmps173
  go_wp2_with fail
  refine HJ.out.mono ?_
  rintro e w1 ⟨rfl, rfl⟩
  clear HJ
  have HS0 := Lib.hid (And.intro cB (And.intro c4 (And.intro cj (Below.refl w.heap.size w))))
  go_wp2_with fail
  go_region_held3 (fun w' => w'.cell? ⟨B, 0, none⟩ = some (.func (.func 129) #[] #[]) ∧ w'.cell? ⟨rb, 0 + 4, none⟩ = some (.slice (some ⟨jv, 0, none⟩) n n) ∧ w'.cell? ⟨jv, i, none⟩ = some (.pointer (some ⟨jb, 0, none⟩)) ∧ Below w.heap.size w w')
    (first | assumption | exact HS0.out | exact ⟨HS0.out.1, HS0.out.2.1, HS0.out.2.2.1, HS0.out.2.2.2.drew⟩ | go_keep)
    (first | (go_at_call 129; refine (HM.out _ (by first | exact Below.refl _ _ | exact (Below.refl _ _).drew)).mono ?_; rintro e w2 ⟨rfl, hb2⟩; have HB2 := Lib.hid (show Below w.heap.size w w2 from chn (Below.drew (Below.refl _ _)) hb2); have hS2 : w2.cell? ⟨B, 0, none⟩ = some (.func (.func 129) #[] #[]) ∧ w2.cell? ⟨rb, 0 + 4, none⟩ = some (.slice (some ⟨jv, 0, none⟩) n n) ∧ w2.cell? ⟨jv, i, none⟩ = some (.pointer (some ⟨jb, 0, none⟩)) ∧ Below w.heap.size w w2 := ⟨(HB2.out.cell (lt_of_cell cB)).trans cB, (HB2.out.cell (lt_of_cell c4)).trans c4, (HB2.out.cell (lt_of_cell cj)).trans cj, HB2.out⟩))
  all_goals
    go_wp2_with fail
    go_ret2
    exact ⟨rfl, HB2.out⟩
/-- a job's call through the closure: an answer, the job behind it -/
def AP (v : Value) (jb rg g : Nat) (j : Jb) (w : World) (e : Ending) (w' : World) : Prop := e = .returned (.tuple #[v, .int .i64 0]) ∧ PJ w' jb rg g j ∧ Only (Tri jb rg g) w w'
theorem only_cell {S : Nat → Prop} {a b : World} (o : Only S a b) {p : Addr} {v : Value} (c : a.cell? p = some v) (hS : ¬ S p.block) : b.cell? p = some v := (World.cell?_of_block (o.block _ (lt_of_cell c) hS)).trans c
theorem wr_did {B : Nat} {v : Value} {j : Jb} (h : PRM m w rb s) (hp : Jp m s) {i : Nat} (hi : i < s.n) (hpi : m.p i = true) (ha : asked s i = 0) (hB : w.heap[B]? = some (.cells #[.func (.func 78) #[] #[]] 108 (0, 0))) (hBl : m.lab B = 0)
    (HM : ∀ w1, Below w.heap.size w w1 → Calls Tryz.prog 78 #[.pointer (some ⟨m.ja i, 0, none⟩)] w1 (PP v (m.ja i) (m.jr i) (m.jg i) j w1)) : Calls Tryz.prog 176 #[.pointer (some ⟨rb, 0, none⟩), .int .i64 i, .pointer (some ⟨B, 0, none⟩)] w (AP v (m.ja i) (m.jr i) (m.jg i) j w) := by
  have HJ := Lib.hid (lj_any h hp i)
  rw [ha] at HJ
  obtain ⟨c0, c1, c2, c3, c4⟩ := h.cells
  have cj := h.jcell hi
  rw [show m.jp i = .pointer (some ⟨m.ja i, 0, none⟩) from if_pos hpi] at cj
  have cB := cell_of_row _ _ 0 _ _ _ hB
  have HM := Lib.hid HM
  have HNB : Hid (¬ Tri (m.ja i) (m.jr i) (m.jg i) B) := fun y => by have := h.l8 i hi hpi B y; omega
  have HNR : Hid (¬ Tri (m.ja i) (m.jr i) (m.jg i) rb) := fun y => by have := h.l8 i hi hpi rb y; have := h.l1; omega
  have HNJ : Hid (¬ Tri (m.ja i) (m.jr i) (m.jg i) m.jv) := fun y => by have := h.l8 i hi hpi m.jv y; have := h.l6; omega
  have HS0 : Hid (w.cell? ⟨B, 0, none⟩ = some (.func (.func 78) #[] #[]) ∧ w.cell? ⟨rb, 0 + 4, none⟩ = some (.slice (some ⟨m.jv, 0, none⟩) s.n s.n) ∧ w.cell? ⟨m.jv, i, none⟩ = some (.pointer (some ⟨m.ja i, 0, none⟩)) ∧ Only (Tri (m.ja i) (m.jr i) (m.jg i)) w w) := ⟨cB, c4, cj, Only.refl _ _⟩
  generalize s.n = n at *
  generalize m.ja i = jb at *
  generalize m.jr i = jrr at *
  generalize m.jg i = jgg at *
  generalize m.jv = jv at *
  clear h hp ha hB c0 c1 c2 c3 hpi hBl
  go_enter Tryz.func176, Tryz.ntmps176
  go_wp2_with fail
  refine HJ.out.mono ?_
  rintro e w1 ⟨rfl, rfl⟩
  clear HJ
  go_wp2_with fail
  go_region_held3 (fun w' => w'.cell? ⟨B, 0, none⟩ = some (.func (.func 78) #[] #[]) ∧ w'.cell? ⟨rb, 0 + 4, none⟩ = some (.slice (some ⟨jv, 0, none⟩) n n) ∧ w'.cell? ⟨jv, i, none⟩ = some (.pointer (some ⟨jb, 0, none⟩)) ∧ Only (Tri jb jrr jgg) w w')
    (first | assumption | exact HS0.out | exact ⟨HS0.out.1, HS0.out.2.1, HS0.out.2.2.1, HS0.out.2.2.2.drew⟩ | go_keep)
    (first | (go_at_call 78; refine (HM.out _ (by first | exact Below.refl _ _ | exact (Below.refl _ _).drew)).mono ?_; rintro e w2 ⟨rfl, hj2, ho2⟩; have HJ2 := Lib.hid hj2; have HO2 := Lib.hid (show Only (Tri jb jrr jgg) w w2 from (Only.refl _ _).drew.trans ho2); have hS2 : w2.cell? ⟨B, 0, none⟩ = some (.func (.func 78) #[] #[]) ∧ w2.cell? ⟨rb, 0 + 4, none⟩ = some (.slice (some ⟨jv, 0, none⟩) n n) ∧ w2.cell? ⟨jv, i, none⟩ = some (.pointer (some ⟨jb, 0, none⟩)) ∧ Only (Tri jb jrr jgg) w w2 := ⟨only_cell HO2.out cB HNB.out, only_cell HO2.out c4 HNR.out, only_cell HO2.out cj HNJ.out, HO2.out⟩))
  all_goals
    go_wp2_with fail
    go_ret2
    exact ⟨rfl, HJ2.out, HO2.out⟩
theorem wr_run {B : Nat} {v : Value} {j : Jb} (h : PRM m w rb s) (hp : Jp m s) {i : Nat} (hi : i < s.n) (hpi : m.p i = true) (ha : asked s i = 0) (hB : w.heap[B]? = some (.cells #[.func (.func 79) #[] #[]] 108 (0, 0))) (hBl : m.lab B = 0)
    (HM : ∀ w1, Below w.heap.size w w1 → Calls Tryz.prog 79 #[.pointer (some ⟨m.ja i, 0, none⟩)] w1 (PP v (m.ja i) (m.jr i) (m.jg i) j w1)) : Calls Tryz.prog 176 #[.pointer (some ⟨rb, 0, none⟩), .int .i64 i, .pointer (some ⟨B, 0, none⟩)] w (AP v (m.ja i) (m.jr i) (m.jg i) j w) := by
  have HJ := Lib.hid (lj_any h hp i)
  rw [ha] at HJ
  obtain ⟨c0, c1, c2, c3, c4⟩ := h.cells
  have cj := h.jcell hi
  rw [show m.jp i = .pointer (some ⟨m.ja i, 0, none⟩) from if_pos hpi] at cj
  have cB := cell_of_row _ _ 0 _ _ _ hB
  have HM := Lib.hid HM
  have HNB : Hid (¬ Tri (m.ja i) (m.jr i) (m.jg i) B) := fun y => by have := h.l8 i hi hpi B y; omega
  have HNR : Hid (¬ Tri (m.ja i) (m.jr i) (m.jg i) rb) := fun y => by have := h.l8 i hi hpi rb y; have := h.l1; omega
  have HNJ : Hid (¬ Tri (m.ja i) (m.jr i) (m.jg i) m.jv) := fun y => by have := h.l8 i hi hpi m.jv y; have := h.l6; omega
  have HS0 : Hid (w.cell? ⟨B, 0, none⟩ = some (.func (.func 79) #[] #[]) ∧ w.cell? ⟨rb, 0 + 4, none⟩ = some (.slice (some ⟨m.jv, 0, none⟩) s.n s.n) ∧ w.cell? ⟨m.jv, i, none⟩ = some (.pointer (some ⟨m.ja i, 0, none⟩)) ∧ Only (Tri (m.ja i) (m.jr i) (m.jg i)) w w) := ⟨cB, c4, cj, Only.refl _ _⟩
  generalize s.n = n at *
  generalize m.ja i = jb at *
  generalize m.jr i = jrr at *
  generalize m.jg i = jgg at *
  generalize m.jv = jv at *
  clear h hp ha hB c0 c1 c2 c3 hpi hBl
  go_enter Tryz.func176, Tryz.ntmps176
  go_wp2_with fail
  refine HJ.out.mono ?_
  rintro e w1 ⟨rfl, rfl⟩
  clear HJ
  go_wp2_with fail
  go_region_held3 (fun w' => w'.cell? ⟨B, 0, none⟩ = some (.func (.func 79) #[] #[]) ∧ w'.cell? ⟨rb, 0 + 4, none⟩ = some (.slice (some ⟨jv, 0, none⟩) n n) ∧ w'.cell? ⟨jv, i, none⟩ = some (.pointer (some ⟨jb, 0, none⟩)) ∧ Only (Tri jb jrr jgg) w w')
    (first | assumption | exact HS0.out | exact ⟨HS0.out.1, HS0.out.2.1, HS0.out.2.2.1, HS0.out.2.2.2.drew⟩ | go_keep)
    (first | (go_at_call 79; refine (HM.out _ (by first | exact Below.refl _ _ | exact (Below.refl _ _).drew)).mono ?_; rintro e w2 ⟨rfl, hj2, ho2⟩; have HJ2 := Lib.hid hj2; have HO2 := Lib.hid (show Only (Tri jb jrr jgg) w w2 from (Only.refl _ _).drew.trans ho2); have hS2 : w2.cell? ⟨B, 0, none⟩ = some (.func (.func 79) #[] #[]) ∧ w2.cell? ⟨rb, 0 + 4, none⟩ = some (.slice (some ⟨jv, 0, none⟩) n n) ∧ w2.cell? ⟨jv, i, none⟩ = some (.pointer (some ⟨jb, 0, none⟩)) ∧ Only (Tri jb jrr jgg) w w2 := ⟨only_cell HO2.out cB HNB.out, only_cell HO2.out c4 HNR.out, only_cell HO2.out cj HNJ.out, HO2.out⟩))
  all_goals
    go_wp2_with fail
    go_ret2
    exact ⟨rfl, HJ2.out, HO2.out⟩
theorem wr_lea {B : Nat} {v : Value} {j : Jb} (h : PRM m w rb s) (hp : Jp m s) {i : Nat} (hi : i < s.n) (hpi : m.p i = true) (ha : asked s i = 0) (hB : w.heap[B]? = some (.cells #[.func (.func 148) #[] #[]] 108 (0, 0))) (hBl : m.lab B = 0)
    (HM : ∀ w1, Below w.heap.size w w1 → Calls Tryz.prog 148 #[.pointer (some ⟨m.ja i, 0, none⟩)] w1 (PP v (m.ja i) (m.jr i) (m.jg i) j w1)) : Calls Tryz.prog 176 #[.pointer (some ⟨rb, 0, none⟩), .int .i64 i, .pointer (some ⟨B, 0, none⟩)] w (AP v (m.ja i) (m.jr i) (m.jg i) j w) := by
  have HJ := Lib.hid (lj_any h hp i)
  rw [ha] at HJ
  obtain ⟨c0, c1, c2, c3, c4⟩ := h.cells
  have cj := h.jcell hi
  rw [show m.jp i = .pointer (some ⟨m.ja i, 0, none⟩) from if_pos hpi] at cj
  have cB := cell_of_row _ _ 0 _ _ _ hB
  have HM := Lib.hid HM
  have HNB : Hid (¬ Tri (m.ja i) (m.jr i) (m.jg i) B) := fun y => by have := h.l8 i hi hpi B y; omega
  have HNR : Hid (¬ Tri (m.ja i) (m.jr i) (m.jg i) rb) := fun y => by have := h.l8 i hi hpi rb y; have := h.l1; omega
  have HNJ : Hid (¬ Tri (m.ja i) (m.jr i) (m.jg i) m.jv) := fun y => by have := h.l8 i hi hpi m.jv y; have := h.l6; omega
  have HS0 : Hid (w.cell? ⟨B, 0, none⟩ = some (.func (.func 148) #[] #[]) ∧ w.cell? ⟨rb, 0 + 4, none⟩ = some (.slice (some ⟨m.jv, 0, none⟩) s.n s.n) ∧ w.cell? ⟨m.jv, i, none⟩ = some (.pointer (some ⟨m.ja i, 0, none⟩)) ∧ Only (Tri (m.ja i) (m.jr i) (m.jg i)) w w) := ⟨cB, c4, cj, Only.refl _ _⟩
  generalize s.n = n at *
  generalize m.ja i = jb at *
  generalize m.jr i = jrr at *
  generalize m.jg i = jgg at *
  generalize m.jv = jv at *
  clear h hp ha hB c0 c1 c2 c3 hpi hBl
  go_enter Tryz.func176, Tryz.ntmps176
  go_wp2_with fail
  refine HJ.out.mono ?_
  rintro e w1 ⟨rfl, rfl⟩
  clear HJ
  go_wp2_with fail
  go_region_held3 (fun w' => w'.cell? ⟨B, 0, none⟩ = some (.func (.func 148) #[] #[]) ∧ w'.cell? ⟨rb, 0 + 4, none⟩ = some (.slice (some ⟨jv, 0, none⟩) n n) ∧ w'.cell? ⟨jv, i, none⟩ = some (.pointer (some ⟨jb, 0, none⟩)) ∧ Only (Tri jb jrr jgg) w w')
    (first | assumption | exact HS0.out | exact ⟨HS0.out.1, HS0.out.2.1, HS0.out.2.2.1, HS0.out.2.2.2.drew⟩ | go_keep)
    (first | (go_at_call 148; refine (HM.out _ (by first | exact Below.refl _ _ | exact (Below.refl _ _).drew)).mono ?_; rintro e w2 ⟨rfl, hj2, ho2⟩; have HJ2 := Lib.hid hj2; have HO2 := Lib.hid (show Only (Tri jb jrr jgg) w w2 from (Only.refl _ _).drew.trans ho2); have hS2 : w2.cell? ⟨B, 0, none⟩ = some (.func (.func 148) #[] #[]) ∧ w2.cell? ⟨rb, 0 + 4, none⟩ = some (.slice (some ⟨jv, 0, none⟩) n n) ∧ w2.cell? ⟨jv, i, none⟩ = some (.pointer (some ⟨jb, 0, none⟩)) ∧ Only (Tri jb jrr jgg) w w2 := ⟨only_cell HO2.out cB HNB.out, only_cell HO2.out c4 HNR.out, only_cell HO2.out cj HNJ.out, HO2.out⟩))
  all_goals
    go_wp2_with fail
    go_ret2
    exact ⟨rfl, HJ2.out, HO2.out⟩
theorem wr_ent {B : Nat} {p1 p2 v : Value} {j : Jb} (h : PRM m w rb s) (hp : Jp m s) {i : Nat} (hi : i < s.n) (hpi : m.p i = true) (ha : asked s i = 0) (hB : w.heap[B]? = some (.cells #[.func (.func 183) #[] #[p1, p2]] 108 (0, 0))) (hBl : m.lab B = 0)
    (HM : ∀ w1, Below w.heap.size w w1 → Calls Tryz.prog 183 #[.pointer (some ⟨m.ja i, 0, none⟩), p1, p2] w1 (PP v (m.ja i) (m.jr i) (m.jg i) j w1)) : Calls Tryz.prog 176 #[.pointer (some ⟨rb, 0, none⟩), .int .i64 i, .pointer (some ⟨B, 0, none⟩)] w (AP v (m.ja i) (m.jr i) (m.jg i) j w) := by
  have HJ := Lib.hid (lj_any h hp i)
  rw [ha] at HJ
  obtain ⟨c0, c1, c2, c3, c4⟩ := h.cells
  have cj := h.jcell hi
  rw [show m.jp i = .pointer (some ⟨m.ja i, 0, none⟩) from if_pos hpi] at cj
  have cB := cell_of_row _ _ 0 _ _ _ hB
  have HM := Lib.hid HM
  have HNB : Hid (¬ Tri (m.ja i) (m.jr i) (m.jg i) B) := fun y => by have := h.l8 i hi hpi B y; omega
  have HNR : Hid (¬ Tri (m.ja i) (m.jr i) (m.jg i) rb) := fun y => by have := h.l8 i hi hpi rb y; have := h.l1; omega
  have HNJ : Hid (¬ Tri (m.ja i) (m.jr i) (m.jg i) m.jv) := fun y => by have := h.l8 i hi hpi m.jv y; have := h.l6; omega
  have HS0 : Hid (w.cell? ⟨B, 0, none⟩ = some (.func (.func 183) #[] #[p1, p2]) ∧ w.cell? ⟨rb, 0 + 4, none⟩ = some (.slice (some ⟨m.jv, 0, none⟩) s.n s.n) ∧ w.cell? ⟨m.jv, i, none⟩ = some (.pointer (some ⟨m.ja i, 0, none⟩)) ∧ Only (Tri (m.ja i) (m.jr i) (m.jg i)) w w) := ⟨cB, c4, cj, Only.refl _ _⟩
  generalize s.n = n at *
  generalize m.ja i = jb at *
  generalize m.jr i = jrr at *
  generalize m.jg i = jgg at *
  generalize m.jv = jv at *
  clear h hp ha hB c0 c1 c2 c3 hpi hBl
  go_enter Tryz.func176, Tryz.ntmps176
  go_wp2_with fail
  refine HJ.out.mono ?_
  rintro e w1 ⟨rfl, rfl⟩
  clear HJ
  go_wp2_with fail
  go_region_held3 (fun w' => w'.cell? ⟨B, 0, none⟩ = some (.func (.func 183) #[] #[p1, p2]) ∧ w'.cell? ⟨rb, 0 + 4, none⟩ = some (.slice (some ⟨jv, 0, none⟩) n n) ∧ w'.cell? ⟨jv, i, none⟩ = some (.pointer (some ⟨jb, 0, none⟩)) ∧ Only (Tri jb jrr jgg) w w')
    (first | assumption | exact HS0.out | exact ⟨HS0.out.1, HS0.out.2.1, HS0.out.2.2.1, HS0.out.2.2.2.drew⟩ | go_keep)
    (first | (go_at_call 183; refine (HM.out _ (by first | exact Below.refl _ _ | exact (Below.refl _ _).drew)).mono ?_; rintro e w2 ⟨rfl, hj2, ho2⟩; have HJ2 := Lib.hid hj2; have HO2 := Lib.hid (show Only (Tri jb jrr jgg) w w2 from (Only.refl _ _).drew.trans ho2); have hS2 : w2.cell? ⟨B, 0, none⟩ = some (.func (.func 183) #[] #[p1, p2]) ∧ w2.cell? ⟨rb, 0 + 4, none⟩ = some (.slice (some ⟨jv, 0, none⟩) n n) ∧ w2.cell? ⟨jv, i, none⟩ = some (.pointer (some ⟨jb, 0, none⟩)) ∧ Only (Tri jb jrr jgg) w w2 := ⟨only_cell HO2.out cB HNB.out, only_cell HO2.out c4 HNR.out, only_cell HO2.out cj HNJ.out, HO2.out⟩))
  all_goals
    go_wp2_with fail
    go_ret2
    exact ⟨rfl, HJ2.out, HO2.out⟩
theorem asks_pb (w : World) (F : Nat) (C : Array Value) : Calls Tryz.prog 96 #[.func (.func F) #[] C] w (ClV 160 (.func (.func F) #[] C) 121 w) := by
  go_enter Tryz.func96, Tryz.ntmps96
  go_wp2_with fail
  go_ret
  exact ⟨w.heap.size, rfl, heap_alloc_new w _, (Below.refl _ _).alloc (Nat.le_refl _) _⟩
theorem no_pb {B : Nat} (h : PRM m w rb s) (hp : Jp m s) {t : Int} (ha : asked s t ≠ 0) : Calls Tryz.prog 160 #[.pointer (some ⟨rb, 0, none⟩), .int .i64 t, .pointer (some ⟨B, 0, none⟩)] w (VB (.tuple #[.agg #[.int .i64 0, .int .i64 0, .string ⟨#[]⟩, .bool false], .int .i64 (asked s t)]) w) := by
  have HB0 := Lib.hid (below_al w (.cells #[.int .i64 0, .int .i64 0, .string ⟨#[]⟩, .bool false] 117))
  have HJ := Lib.hid (lj_any (h.below HB0.out) hp t)
  generalize asked s t = x at *
  have d1 : (x != 0) = true := by simpa using ha
  clear h hp ha
  go_enter Tryz.func160, Tryz.ntmps160
  go_wp2_with fail
  refine HJ.out.mono ?_
  rintro e w1 ⟨rfl, rfl⟩
  go_wp2_with fail
  go_returns
  exact ⟨rfl, HB0.out⟩
theorem yes_pb {B : Nat} {p1 : Value} {x0 x1 : Int} {x2 : ByteArray} {x3 : Bool} (h : PRM m w rb s) (hp : Jp m s) {i : Nat} (hi : i < s.n) (hpi : m.p i = true) (ha : asked s i = 0) (hB : w.heap[B]? = some (.cells #[.func (.func 161) #[] #[p1]] 121 (0, 0)))
    (HM : ∀ w1, Below w.heap.size w w1 → Calls Tryz.prog 161 #[.pointer (some ⟨m.ja i, 0, none⟩), p1] w1 (VB (.agg #[.int .i64 x0, .int .i64 x1, .string x2, .bool x3]) w1)) : Calls Tryz.prog 160 #[.pointer (some ⟨rb, 0, none⟩), .int .i64 i, .pointer (some ⟨B, 0, none⟩)] w (VB (.tuple #[.agg #[.int .i64 x0, .int .i64 x1, .string x2, .bool x3], .int .i64 0]) w) := by
  have hb0 := below_al w (.cells #[.int .i64 0, .int .i64 0, .string ⟨#[]⟩, .bool false] 117)
  have HB0 := Lib.hid hb0
  have HJ := Lib.hid (lj_any (h.below hb0) hp i)
  rw [ha] at HJ
  obtain ⟨c0, c1, c2, c3, c4⟩ := (h.below hb0).cells
  have cj := (h.below hb0).jcell hi
  rw [show m.jp i = .pointer (some ⟨m.ja i, 0, none⟩) from if_pos hpi] at cj
  have cB : (w.alloc (.cells #[.int .i64 0, .int .i64 0, .string ⟨#[]⟩, .bool false] 117)).cell? ⟨B, 0, none⟩ = some (.func (.func 161) #[] #[p1]) := cell_of_row _ _ 0 _ _ _ ((hb0.block _ (lt_of_block hB)).trans hB)
  have HZ := Lib.hid (heap_alloc_new w (.cells #[.int .i64 0, .int .i64 0, .string ⟨#[]⟩, .bool false] 117))
  have hM := HM
  clear HM
  have HM := Lib.hid hM
  clear hM
  generalize s.n = n at *
  generalize m.ja i = jb at *
  generalize m.jv = jv at *
  clear h hp ha hB c0 c1 c2 c3 hpi hb0
  go_enter Tryz.func160, Tryz.ntmps160
  go_wp2_with fail
  refine HJ.out.mono ?_
  rintro e w1 ⟨rfl, rfl⟩
  clear HJ
  go_wp2_with fail
  have mixed : Tryz.prog.follows .mixedOrders = true := by kernel_rfl
  have cB : (w.alloc (.cells #[.int .i64 0, .int .i64 0, .string ⟨#[]⟩, .bool false] 117)).drew.cell? ⟨B, 0, none⟩ = some (.func (.func 161) #[] #[p1]) := cB
  have c4 : (w.alloc (.cells #[.int .i64 0, .int .i64 0, .string ⟨#[]⟩, .bool false] 117)).drew.cell? ⟨rb, 0 + 4, none⟩ = some (.slice (some ⟨jv, 0, none⟩) n n) := c4
  have cj : (w.alloc (.cells #[.int .i64 0, .int .i64 0, .string ⟨#[]⟩, .bool false] 117)).drew.cell? ⟨jv, i, none⟩ = some (.pointer (some ⟨jb, 0, none⟩)) := cj
  refine wp_region_still_tail 8 mixed (by kernel_rfl) ?_
  simp only [List.take_succ_cons, List.take_zero, List.drop_succ_cons, List.drop_zero]
  change wpStill _ _ (w.alloc (.cells #[.int .i64 0, .int .i64 0, .string ⟨#[]⟩, .bool false] 117)).drew _ _ _
  clear mixed
  repeat still_step
  refine wpStill_nil ?_
  go_wp2_with fail
  refine (HM.out _ (below_drew HB0.out)).mono ?_
  rintro e w2 ⟨rfl, hb2⟩
  have hob : w2.heap[w.heap.size]? = some (.cells #[.int .i64 0, .int .i64 0, .string ⟨#[]⟩, .bool false] 117 (0, 0)) := (hb2.block w.heap.size (by show w.heap.size < (w.alloc (.cells #[.int .i64 0, .int .i64 0, .string ⟨#[]⟩, .bool false] 117)).heap.size; rw [World.size_alloc]; omega)).trans HZ.out
  have f0 : w2.frozen? ⟨w.heap.size, 0, none⟩ = false := frozen_of_row _ _ 0 _ _ hob
  have v0 : w2.cell? ⟨w.heap.size, 0, none⟩ = some (.int .i64 0) := cell_of_row _ _ 0 _ _ _ hob
  have f1 : w2.frozen? ⟨w.heap.size, 0 + 1, none⟩ = false := frozen_of_row _ _ 1 _ _ hob
  have v1 : w2.cell? ⟨w.heap.size, 0 + 1, none⟩ = some (.int .i64 0) := cell_of_row _ _ 1 _ _ _ hob
  have f2 : w2.frozen? ⟨w.heap.size, 0 + 2, none⟩ = false := frozen_of_row _ _ 2 _ _ hob
  have v2 : w2.cell? ⟨w.heap.size, 0 + 2, none⟩ = some (.string ⟨#[]⟩) := cell_of_row _ _ 2 _ _ _ hob
  have f3 : w2.frozen? ⟨w.heap.size, 0 + 3, none⟩ = false := frozen_of_row _ _ 3 _ _ hob
  have v3 : w2.cell? ⟨w.heap.size, 0 + 3, none⟩ = some (.bool false) := cell_of_row _ _ 3 _ _ _ hob
  have HB2 : Hid (Below w.heap.size w w2) := (below_drew HB0.out).trans (hb2.mono (by show w.heap.size ≤ (w.alloc (.cells #[.int .i64 0, .int .i64 0, .string ⟨#[]⟩, .bool false] 117)).heap.size; rw [World.size_alloc]; omega))
  have HF : Hid (Below w.heap.size w ((((w2.setCell ⟨w.heap.size, 0, none⟩ (.int .i64 x0)).setCell ⟨w.heap.size, 1, none⟩ (.int .i64 x1)).setCell ⟨w.heap.size, 2, none⟩ (.string x2)).setCell ⟨w.heap.size, 3, none⟩ (.bool x3))) := ((((HB2.out).setCell (p := ⟨w.heap.size, 0, none⟩) (Nat.le_refl _) _).setCell (p := ⟨w.heap.size, 1, none⟩) (Nat.le_refl _) _).setCell (p := ⟨w.heap.size, 2, none⟩) (Nat.le_refl _) _).setCell (p := ⟨w.heap.size, 3, none⟩) (Nat.le_refl _) _
  have hfin : ((((w2.setCell ⟨w.heap.size, 0, none⟩ (.int .i64 x0)).setCell ⟨w.heap.size, 1, none⟩ (.int .i64 x1)).setCell ⟨w.heap.size, 2, none⟩ (.string x2)).setCell ⟨w.heap.size, 3, none⟩ (.bool x3)).heap[w.heap.size]? = some (.cells #[.int .i64 x0, .int .i64 x1, .string x2, .bool x3] 117 (0, 0)) := (heap_setCell_same (((w2.setCell ⟨w.heap.size, 0, none⟩ (.int .i64 x0)).setCell ⟨w.heap.size, 1, none⟩ (.int .i64 x1)).setCell ⟨w.heap.size, 2, none⟩ (.string x2)) w.heap.size 3 _ _ (.bool x3) (heap_setCell_same ((w2.setCell ⟨w.heap.size, 0, none⟩ (.int .i64 x0)).setCell ⟨w.heap.size, 1, none⟩ (.int .i64 x1)) w.heap.size 2 _ _ (.string x2) (heap_setCell_same (w2.setCell ⟨w.heap.size, 0, none⟩ (.int .i64 x0)) w.heap.size 1 _ _ (.int .i64 x1) (heap_setCell_same w2 w.heap.size 0 _ _ (.int .i64 x0) hob))))
  have e0 : ((((w2.setCell ⟨w.heap.size, 0, none⟩ (.int .i64 x0)).setCell ⟨w.heap.size, 1, none⟩ (.int .i64 x1)).setCell ⟨w.heap.size, 2, none⟩ (.string x2)).setCell ⟨w.heap.size, 3, none⟩ (.bool x3)).cell? ⟨w.heap.size, 0, none⟩ = some (.int .i64 x0) := cell_of_row _ _ 0 _ _ _ hfin
  have e1 : ((((w2.setCell ⟨w.heap.size, 0, none⟩ (.int .i64 x0)).setCell ⟨w.heap.size, 1, none⟩ (.int .i64 x1)).setCell ⟨w.heap.size, 2, none⟩ (.string x2)).setCell ⟨w.heap.size, 3, none⟩ (.bool x3)).cell? ⟨w.heap.size, 0 + 1, none⟩ = some (.int .i64 x1) := cell_of_row _ _ 1 _ _ _ hfin
  have e2 : ((((w2.setCell ⟨w.heap.size, 0, none⟩ (.int .i64 x0)).setCell ⟨w.heap.size, 1, none⟩ (.int .i64 x1)).setCell ⟨w.heap.size, 2, none⟩ (.string x2)).setCell ⟨w.heap.size, 3, none⟩ (.bool x3)).cell? ⟨w.heap.size, 0 + 2, none⟩ = some (.string x2) := cell_of_row _ _ 2 _ _ _ hfin
  have e3 : ((((w2.setCell ⟨w.heap.size, 0, none⟩ (.int .i64 x0)).setCell ⟨w.heap.size, 1, none⟩ (.int .i64 x1)).setCell ⟨w.heap.size, 2, none⟩ (.string x2)).setCell ⟨w.heap.size, 3, none⟩ (.bool x3)).cell? ⟨w.heap.size, 0 + 3, none⟩ = some (.bool x3) := cell_of_row _ _ 3 _ _ _ hfin
  clear hb2 HM HZ cB c4 cj hob hfin
  generalize hoe : w.heap.size = ob at *
  have HOE := Lib.hid hoe
  clear hoe
  go_wp2_with fail
  refine bodyPost_ret (v := .tuple #[.agg #[.int .i64 x0, .int .i64 x1, .string x2, .bool x3], .int .i64 0]) (by simp [results, Tryz.results160, go_sem, e0, e1, e2, e3]) rfl ?_
  exact ⟨rfl, by rw [HOE.out]; exact HF.out⟩
theorem asks_pi (w : World) (F : Nat) (C : Array Value) : Calls Tryz.prog 138 #[.func (.func F) #[] C] w (ClV 179 (.func (.func F) #[] C) 171 w) := by
  go_enter Tryz.func138, Tryz.ntmps138
  go_wp2_with fail
  go_ret
  exact ⟨w.heap.size, rfl, heap_alloc_new w _, (Below.refl _ _).alloc (Nat.le_refl _) _⟩
theorem no_pi {B : Nat} (h : PRM m w rb s) (hp : Jp m s) {t : Int} (ha : asked s t ≠ 0) : Calls Tryz.prog 179 #[.pointer (some ⟨rb, 0, none⟩), .int .i64 t, .pointer (some ⟨B, 0, none⟩)] w (VB (.tuple #[.agg #[.int .i64 0, .int .i64 0], .int .i64 (asked s t)]) w) := by
  have HB0 := Lib.hid (below_al w (.cells #[.int .i64 0, .int .i64 0] 167))
  have HJ := Lib.hid (lj_any (h.below HB0.out) hp t)
  generalize asked s t = x at *
  have d1 : (x != 0) = true := by simpa using ha
  clear h hp ha
  go_enter Tryz.func179, Tryz.ntmps179
  go_wp2_with fail
  refine HJ.out.mono ?_
  rintro e w1 ⟨rfl, rfl⟩
  go_wp2_with fail
  go_returns
  exact ⟨rfl, HB0.out⟩
theorem yes_pi {B : Nat} {p1 : Value} {x0 x1 : Int} (h : PRM m w rb s) (hp : Jp m s) {i : Nat} (hi : i < s.n) (hpi : m.p i = true) (ha : asked s i = 0) (hB : w.heap[B]? = some (.cells #[.func (.func 180) #[] #[p1]] 171 (0, 0)))
    (HM : ∀ w1, Below w.heap.size w w1 → Calls Tryz.prog 180 #[.pointer (some ⟨m.ja i, 0, none⟩), p1] w1 (VB (.agg #[.int .i64 x0, .int .i64 x1]) w1)) : Calls Tryz.prog 179 #[.pointer (some ⟨rb, 0, none⟩), .int .i64 i, .pointer (some ⟨B, 0, none⟩)] w (VB (.tuple #[.agg #[.int .i64 x0, .int .i64 x1], .int .i64 0]) w) := by
  have hb0 := below_al w (.cells #[.int .i64 0, .int .i64 0] 167)
  have HB0 := Lib.hid hb0
  have HJ := Lib.hid (lj_any (h.below hb0) hp i)
  rw [ha] at HJ
  obtain ⟨c0, c1, c2, c3, c4⟩ := (h.below hb0).cells
  have cj := (h.below hb0).jcell hi
  rw [show m.jp i = .pointer (some ⟨m.ja i, 0, none⟩) from if_pos hpi] at cj
  have cB : (w.alloc (.cells #[.int .i64 0, .int .i64 0] 167)).cell? ⟨B, 0, none⟩ = some (.func (.func 180) #[] #[p1]) := cell_of_row _ _ 0 _ _ _ ((hb0.block _ (lt_of_block hB)).trans hB)
  have HZ := Lib.hid (heap_alloc_new w (.cells #[.int .i64 0, .int .i64 0] 167))
  have hM := HM
  clear HM
  have HM := Lib.hid hM
  clear hM
  generalize s.n = n at *
  generalize m.ja i = jb at *
  generalize m.jv = jv at *
  clear h hp ha hB c0 c1 c2 c3 hpi hb0
  go_enter Tryz.func179, Tryz.ntmps179
  go_wp2_with fail
  refine HJ.out.mono ?_
  rintro e w1 ⟨rfl, rfl⟩
  clear HJ
  go_wp2_with fail
  have mixed : Tryz.prog.follows .mixedOrders = true := by kernel_rfl
  have cB : (w.alloc (.cells #[.int .i64 0, .int .i64 0] 167)).drew.cell? ⟨B, 0, none⟩ = some (.func (.func 180) #[] #[p1]) := cB
  have c4 : (w.alloc (.cells #[.int .i64 0, .int .i64 0] 167)).drew.cell? ⟨rb, 0 + 4, none⟩ = some (.slice (some ⟨jv, 0, none⟩) n n) := c4
  have cj : (w.alloc (.cells #[.int .i64 0, .int .i64 0] 167)).drew.cell? ⟨jv, i, none⟩ = some (.pointer (some ⟨jb, 0, none⟩)) := cj
  refine wp_region_still_tail 8 mixed (by kernel_rfl) ?_
  simp only [List.take_succ_cons, List.take_zero, List.drop_succ_cons, List.drop_zero]
  change wpStill _ _ (w.alloc (.cells #[.int .i64 0, .int .i64 0] 167)).drew _ _ _
  clear mixed
  repeat still_step
  refine wpStill_nil ?_
  go_wp2_with fail
  refine (HM.out _ (below_drew HB0.out)).mono ?_
  rintro e w2 ⟨rfl, hb2⟩
  have hob : w2.heap[w.heap.size]? = some (.cells #[.int .i64 0, .int .i64 0] 167 (0, 0)) := (hb2.block w.heap.size (by show w.heap.size < (w.alloc (.cells #[.int .i64 0, .int .i64 0] 167)).heap.size; rw [World.size_alloc]; omega)).trans HZ.out
  have f0 : w2.frozen? ⟨w.heap.size, 0, none⟩ = false := frozen_of_row _ _ 0 _ _ hob
  have v0 : w2.cell? ⟨w.heap.size, 0, none⟩ = some (.int .i64 0) := cell_of_row _ _ 0 _ _ _ hob
  have f1 : w2.frozen? ⟨w.heap.size, 0 + 1, none⟩ = false := frozen_of_row _ _ 1 _ _ hob
  have v1 : w2.cell? ⟨w.heap.size, 0 + 1, none⟩ = some (.int .i64 0) := cell_of_row _ _ 1 _ _ _ hob
  have HB2 : Hid (Below w.heap.size w w2) := (below_drew HB0.out).trans (hb2.mono (by show w.heap.size ≤ (w.alloc (.cells #[.int .i64 0, .int .i64 0] 167)).heap.size; rw [World.size_alloc]; omega))
  have HF : Hid (Below w.heap.size w ((w2.setCell ⟨w.heap.size, 0, none⟩ (.int .i64 x0)).setCell ⟨w.heap.size, 1, none⟩ (.int .i64 x1))) := ((HB2.out).setCell (p := ⟨w.heap.size, 0, none⟩) (Nat.le_refl _) _).setCell (p := ⟨w.heap.size, 1, none⟩) (Nat.le_refl _) _
  have hfin : ((w2.setCell ⟨w.heap.size, 0, none⟩ (.int .i64 x0)).setCell ⟨w.heap.size, 1, none⟩ (.int .i64 x1)).heap[w.heap.size]? = some (.cells #[.int .i64 x0, .int .i64 x1] 167 (0, 0)) := (heap_setCell_same (w2.setCell ⟨w.heap.size, 0, none⟩ (.int .i64 x0)) w.heap.size 1 _ _ (.int .i64 x1) (heap_setCell_same w2 w.heap.size 0 _ _ (.int .i64 x0) hob))
  have e0 : ((w2.setCell ⟨w.heap.size, 0, none⟩ (.int .i64 x0)).setCell ⟨w.heap.size, 1, none⟩ (.int .i64 x1)).cell? ⟨w.heap.size, 0, none⟩ = some (.int .i64 x0) := cell_of_row _ _ 0 _ _ _ hfin
  have e1 : ((w2.setCell ⟨w.heap.size, 0, none⟩ (.int .i64 x0)).setCell ⟨w.heap.size, 1, none⟩ (.int .i64 x1)).cell? ⟨w.heap.size, 0 + 1, none⟩ = some (.int .i64 x1) := cell_of_row _ _ 1 _ _ _ hfin
  clear hb2 HM HZ cB c4 cj hob hfin
  generalize hoe : w.heap.size = ob at *
  have HOE := Lib.hid hoe
  clear hoe
  go_wp2_with fail
  refine bodyPost_ret (v := .tuple #[.agg #[.int .i64 x0, .int .i64 x1], .int .i64 0]) (by simp [results, Tryz.results179, go_sem, e0, e1]) rfl ?_
  exact ⟨rfl, by rw [HOE.out]; exact HF.out⟩
end
end Go.Proofs.YtkkmfpllgjoceaaGreat.Ro
