/- The program's room, read: what its jobs answer; its section; who goes on. -/
import Derived.Test.YtkkmfpllgjoceaaGreatRooA
import Derived.Test.YtkkmfpllgjoceaaGreatZr
import Derived.Test.YtkkmfpllgjoceaaGreatZt
namespace Go.Proofs.YtkkmfpllgjoceaaGreat.Ro
open Go.RowKit Go.Sort Ac Jo
set_option linter.unusedVariables false
set_option maxRecDepth 100000

/-- a closure over a method and a number -/
def Wi_int (F : Nat) (n : Int) (w : World) (e : Ending) (w' : World) : Prop := ∃ B1 B2, e = .returned (.func (.func 156) #[] #[.pointer (some ⟨B1, 0, none⟩), .pointer (some ⟨B2, 0, none⟩)]) ∧ w'.heap[B1]? = some (.cells #[.func (.func F) #[] #[]] 115 (0, 0)) ∧ w'.heap[B2]? = some (.cells #[.int .i64 n] 3 (0, 0)) ∧ Below w.heap.size w w'
theorem with_int (w : World) (F : Nat) (n : Int) : Calls Tryz.prog 93 #[.func (.func F) #[] #[], .int .i64 n] w (Wi_int F n w) := by
  have hb := below_al w (.cells #[.func (.func F) #[] #[]] 115)
  have H1 := Lib.hid (((below_al (w.alloc (.cells #[.func (.func F) #[] #[]] 115)) (.cells #[.int .i64 n] 3)).block w.heap.size (by rw [World.size_alloc]; omega)).trans (heap_alloc_new w (.cells #[.func (.func F) #[] #[]] 115)))
  have H2 := Lib.hid (heap_alloc_new (w.alloc (.cells #[.func (.func F) #[] #[]] 115)) (.cells #[.int .i64 n] 3))
  have HB := Lib.hid (hb.alloc (by rw [World.size_alloc]; omega) (.cells #[.int .i64 n] 3))
  clear hb
  go_enter Tryz.func93, Tryz.ntmps93
  go_wp2_with fail
  go_ret
  exact ⟨_, _, rfl, H1.out, by first | exact H2.out | simpa using H2.out, HB.out⟩
/-- a closure over a method and a number -/
def Wi_err (F : Nat) (n : Int) (w : World) (e : Ending) (w' : World) : Prop := ∃ B1 B2, e = .returned (.func (.func 183) #[] #[.pointer (some ⟨B1, 0, none⟩), .pointer (some ⟨B2, 0, none⟩)]) ∧ w'.heap[B1]? = some (.cells #[.func (.func F) #[] #[]] 178 (0, 0)) ∧ w'.heap[B2]? = some (.cells #[.int .i64 n] 3 (0, 0)) ∧ Below w.heap.size w w'
theorem with_err (w : World) (F : Nat) (n : Int) : Calls Tryz.prog 145 #[.func (.func F) #[] #[], .int .i64 n] w (Wi_err F n w) := by
  have hb := below_al w (.cells #[.func (.func F) #[] #[]] 178)
  have H1 := Lib.hid (((below_al (w.alloc (.cells #[.func (.func F) #[] #[]] 178)) (.cells #[.int .i64 n] 3)).block w.heap.size (by rw [World.size_alloc]; omega)).trans (heap_alloc_new w (.cells #[.func (.func F) #[] #[]] 178)))
  have H2 := Lib.hid (heap_alloc_new (w.alloc (.cells #[.func (.func F) #[] #[]] 178)) (.cells #[.int .i64 n] 3))
  have HB := Lib.hid (hb.alloc (by rw [World.size_alloc]; omega) (.cells #[.int .i64 n] 3))
  clear hb
  go_enter Tryz.func145, Tryz.ntmps145
  go_wp2_with fail
  go_ret
  exact ⟨_, _, rfl, H1.out, by first | exact H2.out | simpa using H2.out, HB.out⟩
theorem with1_fault {w : World} {B1 B2 jb : Nat} {n : Int} {v : Value} (h1 : w.heap[B1]? = some (.cells #[.func (.func 94) #[] #[]] 115 (0, 0))) (h2 : w.heap[B2]? = some (.cells #[.int .i64 n] 3 (0, 0)))
    (HM : Calls Tryz.prog 94 #[.pointer (some ⟨jb, 0, none⟩), .int .i64 n] w (VB v w)) : Calls Tryz.prog 156 #[.pointer (some ⟨jb, 0, none⟩), .pointer (some ⟨B1, 0, none⟩), .pointer (some ⟨B2, 0, none⟩)] w (VB v w) := by
  have c1 := cell_of_row _ _ 0 _ _ _ h1
  have c2 := cell_of_row _ _ 0 _ _ _ h2
  have HM := Lib.hid HM
  clear h1 h2
  go_enter Tryz.func156, Tryz.ntmps156
  go_wp2_with fail
  refine HM.out.mono ?_
  rintro e w2 ⟨rfl, hb⟩
  have HB := Lib.hid hb
  clear hb
  go_wp2_with fail
  go_ret
  exact ⟨rfl, HB.out⟩
theorem with1_ent {w : World} {B1 B2 jb rg g : Nat} {n x : Int} {j : Jb} (h1 : w.heap[B1]? = some (.cells #[.func (.func 146) #[] #[]] 178 (0, 0))) (h2 : w.heap[B2]? = some (.cells #[.int .i64 n] 3 (0, 0)))
    (HM : Calls Tryz.prog 146 #[.pointer (some ⟨jb, 0, none⟩), .int .i64 n] w (PP (.int .i64 x) jb rg g j w)) : Calls Tryz.prog 183 #[.pointer (some ⟨jb, 0, none⟩), .pointer (some ⟨B1, 0, none⟩), .pointer (some ⟨B2, 0, none⟩)] w (PP (.int .i64 x) jb rg g j w) := by
  have c1 := cell_of_row _ _ 0 _ _ _ h1
  have c2 := cell_of_row _ _ 0 _ _ _ h2
  have HM := Lib.hid HM
  clear h1 h2
  go_enter Tryz.func183, Tryz.ntmps183
  go_wp2_with fail
  refine HM.out.mono ?_
  rintro e w2 ⟨rfl, hj, ho⟩
  have HJ := Lib.hid hj
  have HO := Lib.hid ho
  clear hj ho
  go_wp2_with fail
  go_ret
  exact ⟨rfl, HJ.out, HO.out⟩
theorem both_pb (w : World) (F : Nat) : Calls Tryz.prog 97 #[.func (.func F) #[] #[]] w (ClV 161 (.func (.func F) #[] #[]) 123 w) := by
  go_enter Tryz.func97, Tryz.ntmps97
  go_wp2_with fail
  go_ret
  exact ⟨w.heap.size, rfl, heap_alloc_new w _, (Below.refl _ _).alloc (Nat.le_refl _) _⟩
theorem both_pi (w : World) (F : Nat) : Calls Tryz.prog 139 #[.func (.func F) #[] #[]] w (ClV 180 (.func (.func F) #[] #[]) 173 w) := by
  go_enter Tryz.func139, Tryz.ntmps139
  go_wp2_with fail
  go_ret
  exact ⟨w.heap.size, rfl, heap_alloc_new w _, (Below.refl _ _).alloc (Nat.le_refl _) _⟩
theorem both1_next {w : World} {B jb : Nat} {k n : Int} {u : ByteArray} {b : Bool} (h1 : w.heap[B]? = some (.cells #[.func (.func 98) #[] #[]] 123 (0, 0)))
    (HM : ∀ w1, Below w.heap.size w w1 → Calls Tryz.prog 98 #[.pointer (some ⟨jb, 0, none⟩)] w1 (VB (.tuple #[.agg #[.int .i64 k, .int .i64 n, .string u], .bool b]) w1)) : Calls Tryz.prog 161 #[.pointer (some ⟨jb, 0, none⟩), .pointer (some ⟨B, 0, none⟩)] w (VB (.agg #[.int .i64 k, .int .i64 n, .string u, .bool b]) w) := by
  have hb0 := below_al w (.cells #[.int .i64 0, .int .i64 0, .string ⟨#[]⟩, .bool false] 117)
  have c1 : (w.alloc (.cells #[.int .i64 0, .int .i64 0, .string ⟨#[]⟩, .bool false] 117)).cell? ⟨B, 0, none⟩ = some (.func (.func 98) #[] #[]) := cell_of_row _ _ 0 _ _ _ ((hb0.block _ (lt_of_block h1)).trans h1)
  have HM1 := Lib.hid (HM _ hb0)
  have HB0 := Lib.hid hb0
  have HZ := Lib.hid (heap_alloc_new w (.cells #[.int .i64 0, .int .i64 0, .string ⟨#[]⟩, .bool false] 117))
  clear h1 HM hb0
  go_enter Tryz.func161, Tryz.ntmps161
  go_wp2_with fail
  refine HM1.out.mono ?_
  rintro e w1 ⟨rfl, hb1⟩
  have hob : w1.heap[w.heap.size]? = some (.cells #[.int .i64 0, .int .i64 0, .string ⟨#[]⟩, .bool false] 117 (0, 0)) := (hb1.block w.heap.size (by rw [World.size_alloc]; omega)).trans HZ.out
  have hob2 : (w1.alloc (.cells #[.int .i64 k, .int .i64 n, .string u] 57)).heap[w.heap.size]? = some (.cells #[.int .i64 0, .int .i64 0, .string ⟨#[]⟩, .bool false] 117 (0, 0)) := ((below_al w1 _).block _ (lt_of_block hob)).trans hob
  have HB1 : Hid (Below w.heap.size w w1) := HB0.out.trans (hb1.mono (by rw [World.size_alloc]; omega))
  have HB2 := Lib.hid (HB1.out.alloc HB1.out.size (.cells #[.int .i64 k, .int .i64 n, .string u] 57))
  clear hb1 HM1 HZ hob
  have f0 : (w1.alloc (.cells #[.int .i64 k, .int .i64 n, .string u] 57)).frozen? ⟨w.heap.size, 0, none⟩ = false := frozen_of_row _ _ 0 _ _ hob2
  have v0 : (w1.alloc (.cells #[.int .i64 k, .int .i64 n, .string u] 57)).cell? ⟨w.heap.size, 0, none⟩ = some (.int .i64 0) := cell_of_row _ _ 0 _ _ _ hob2
  have f1 : (w1.alloc (.cells #[.int .i64 k, .int .i64 n, .string u] 57)).frozen? ⟨w.heap.size, 0 + 1, none⟩ = false := frozen_of_row _ _ 1 _ _ hob2
  have v1 : (w1.alloc (.cells #[.int .i64 k, .int .i64 n, .string u] 57)).cell? ⟨w.heap.size, 0 + 1, none⟩ = some (.int .i64 0) := cell_of_row _ _ 1 _ _ _ hob2
  have f2 : (w1.alloc (.cells #[.int .i64 k, .int .i64 n, .string u] 57)).frozen? ⟨w.heap.size, 0 + 2, none⟩ = false := frozen_of_row _ _ 2 _ _ hob2
  have v2 : (w1.alloc (.cells #[.int .i64 k, .int .i64 n, .string u] 57)).cell? ⟨w.heap.size, 0 + 2, none⟩ = some (.string ⟨#[]⟩) := cell_of_row _ _ 2 _ _ _ hob2
  have f3 : (w1.alloc (.cells #[.int .i64 k, .int .i64 n, .string u] 57)).frozen? ⟨w.heap.size, 0 + 3, none⟩ = false := frozen_of_row _ _ 3 _ _ hob2
  have v3 : (w1.alloc (.cells #[.int .i64 k, .int .i64 n, .string u] 57)).cell? ⟨w.heap.size, 0 + 3, none⟩ = some (.bool false) := cell_of_row _ _ 3 _ _ _ hob2
  have hfin : (((((w1.alloc (.cells #[.int .i64 k, .int .i64 n, .string u] 57)).setCell ⟨w.heap.size, 0, none⟩ (.int .i64 k)).setCell ⟨w.heap.size, 1, none⟩ (.int .i64 n)).setCell ⟨w.heap.size, 2, none⟩ (.string u)).setCell ⟨w.heap.size, 3, none⟩ (.bool b)).heap[w.heap.size]? = some (.cells #[.int .i64 k, .int .i64 n, .string u, .bool b] 117 (0, 0)) := (heap_setCell_same ((((w1.alloc (.cells #[.int .i64 k, .int .i64 n, .string u] 57)).setCell ⟨w.heap.size, 0, none⟩ (.int .i64 k)).setCell ⟨w.heap.size, 1, none⟩ (.int .i64 n)).setCell ⟨w.heap.size, 2, none⟩ (.string u)) w.heap.size 3 _ _ (.bool b) (heap_setCell_same (((w1.alloc (.cells #[.int .i64 k, .int .i64 n, .string u] 57)).setCell ⟨w.heap.size, 0, none⟩ (.int .i64 k)).setCell ⟨w.heap.size, 1, none⟩ (.int .i64 n)) w.heap.size 2 _ _ (.string u) (heap_setCell_same ((w1.alloc (.cells #[.int .i64 k, .int .i64 n, .string u] 57)).setCell ⟨w.heap.size, 0, none⟩ (.int .i64 k)) w.heap.size 1 _ _ (.int .i64 n) (heap_setCell_same (w1.alloc (.cells #[.int .i64 k, .int .i64 n, .string u] 57)) w.heap.size 0 _ _ (.int .i64 k) hob2))))
  have e0 : (((((w1.alloc (.cells #[.int .i64 k, .int .i64 n, .string u] 57)).setCell ⟨w.heap.size, 0, none⟩ (.int .i64 k)).setCell ⟨w.heap.size, 1, none⟩ (.int .i64 n)).setCell ⟨w.heap.size, 2, none⟩ (.string u)).setCell ⟨w.heap.size, 3, none⟩ (.bool b)).cell? ⟨w.heap.size, 0, none⟩ = some (.int .i64 k) := cell_of_row _ _ 0 _ _ _ hfin
  have e1 : (((((w1.alloc (.cells #[.int .i64 k, .int .i64 n, .string u] 57)).setCell ⟨w.heap.size, 0, none⟩ (.int .i64 k)).setCell ⟨w.heap.size, 1, none⟩ (.int .i64 n)).setCell ⟨w.heap.size, 2, none⟩ (.string u)).setCell ⟨w.heap.size, 3, none⟩ (.bool b)).cell? ⟨w.heap.size, 0 + 1, none⟩ = some (.int .i64 n) := cell_of_row _ _ 1 _ _ _ hfin
  have e2 : (((((w1.alloc (.cells #[.int .i64 k, .int .i64 n, .string u] 57)).setCell ⟨w.heap.size, 0, none⟩ (.int .i64 k)).setCell ⟨w.heap.size, 1, none⟩ (.int .i64 n)).setCell ⟨w.heap.size, 2, none⟩ (.string u)).setCell ⟨w.heap.size, 3, none⟩ (.bool b)).cell? ⟨w.heap.size, 0 + 2, none⟩ = some (.string u) := cell_of_row _ _ 2 _ _ _ hfin
  have e3 : (((((w1.alloc (.cells #[.int .i64 k, .int .i64 n, .string u] 57)).setCell ⟨w.heap.size, 0, none⟩ (.int .i64 k)).setCell ⟨w.heap.size, 1, none⟩ (.int .i64 n)).setCell ⟨w.heap.size, 2, none⟩ (.string u)).setCell ⟨w.heap.size, 3, none⟩ (.bool b)).cell? ⟨w.heap.size, 0 + 3, none⟩ = some (.bool b) := cell_of_row _ _ 3 _ _ _ hfin
  have HF : Hid (Below w.heap.size w (((((w1.alloc (.cells #[.int .i64 k, .int .i64 n, .string u] 57)).setCell ⟨w.heap.size, 0, none⟩ (.int .i64 k)).setCell ⟨w.heap.size, 1, none⟩ (.int .i64 n)).setCell ⟨w.heap.size, 2, none⟩ (.string u)).setCell ⟨w.heap.size, 3, none⟩ (.bool b))) := ((((HB2.out).setCell (p := ⟨w.heap.size, 0, none⟩) (Nat.le_refl _) _).setCell (p := ⟨w.heap.size, 1, none⟩) (Nat.le_refl _) _).setCell (p := ⟨w.heap.size, 2, none⟩) (Nat.le_refl _) _).setCell (p := ⟨w.heap.size, 3, none⟩) (Nat.le_refl _) _
  clear hfin hob2 HB0 HB1 HB2
  generalize hoe : w.heap.size = ob at *
  have HOE := Lib.hid hoe
  clear hoe
  go_wp2_with fail
  refine bodyPost_ret (v := .agg #[.int .i64 k, .int .i64 n, .string u, .bool b]) (by simp [results, Tryz.results161, go_sem, e0, e1, e2, e3]) rfl ?_
  exact ⟨rfl, by rw [HOE.out]; exact HF.out⟩
theorem both1_in {w : World} {B jb : Nat} {k n : Int} (h1 : w.heap[B]? = some (.cells #[.func (.func 140) #[] #[]] 173 (0, 0)))
    (HM : ∀ w1, Below w.heap.size w w1 → Calls Tryz.prog 140 #[.pointer (some ⟨jb, 0, none⟩)] w1 (VB (.tuple #[.int .i64 k, .int .i64 n]) w1)) : Calls Tryz.prog 180 #[.pointer (some ⟨jb, 0, none⟩), .pointer (some ⟨B, 0, none⟩)] w (VB (.agg #[.int .i64 k, .int .i64 n]) w) := by
  have hb0 := below_al w (.cells #[.int .i64 0, .int .i64 0] 167)
  have c1 : (w.alloc (.cells #[.int .i64 0, .int .i64 0] 167)).cell? ⟨B, 0, none⟩ = some (.func (.func 140) #[] #[]) := cell_of_row _ _ 0 _ _ _ ((hb0.block _ (lt_of_block h1)).trans h1)
  have HM1 := Lib.hid (HM _ hb0)
  have HB0 := Lib.hid hb0
  have HZ := Lib.hid (heap_alloc_new w (.cells #[.int .i64 0, .int .i64 0] 167))
  clear h1 HM hb0
  go_enter Tryz.func180, Tryz.ntmps180
  go_wp2_with fail
  refine HM1.out.mono ?_
  rintro e w1 ⟨rfl, hb1⟩
  have hob : w1.heap[w.heap.size]? = some (.cells #[.int .i64 0, .int .i64 0] 167 (0, 0)) := (hb1.block w.heap.size (by rw [World.size_alloc]; omega)).trans HZ.out
  have HB2 : Hid (Below w.heap.size w w1) := HB0.out.trans (hb1.mono (by rw [World.size_alloc]; omega))
  clear hb1 HM1 HZ
  have f0 : w1.frozen? ⟨w.heap.size, 0, none⟩ = false := frozen_of_row _ _ 0 _ _ hob
  have v0 : w1.cell? ⟨w.heap.size, 0, none⟩ = some (.int .i64 0) := cell_of_row _ _ 0 _ _ _ hob
  have f1 : w1.frozen? ⟨w.heap.size, 0 + 1, none⟩ = false := frozen_of_row _ _ 1 _ _ hob
  have v1 : w1.cell? ⟨w.heap.size, 0 + 1, none⟩ = some (.int .i64 0) := cell_of_row _ _ 1 _ _ _ hob
  have hfin : ((w1.setCell ⟨w.heap.size, 0, none⟩ (.int .i64 k)).setCell ⟨w.heap.size, 1, none⟩ (.int .i64 n)).heap[w.heap.size]? = some (.cells #[.int .i64 k, .int .i64 n] 167 (0, 0)) := (heap_setCell_same (w1.setCell ⟨w.heap.size, 0, none⟩ (.int .i64 k)) w.heap.size 1 _ _ (.int .i64 n) (heap_setCell_same w1 w.heap.size 0 _ _ (.int .i64 k) hob))
  have e0 : ((w1.setCell ⟨w.heap.size, 0, none⟩ (.int .i64 k)).setCell ⟨w.heap.size, 1, none⟩ (.int .i64 n)).cell? ⟨w.heap.size, 0, none⟩ = some (.int .i64 k) := cell_of_row _ _ 0 _ _ _ hfin
  have e1 : ((w1.setCell ⟨w.heap.size, 0, none⟩ (.int .i64 k)).setCell ⟨w.heap.size, 1, none⟩ (.int .i64 n)).cell? ⟨w.heap.size, 0 + 1, none⟩ = some (.int .i64 n) := cell_of_row _ _ 1 _ _ _ hfin
  have HF : Hid (Below w.heap.size w ((w1.setCell ⟨w.heap.size, 0, none⟩ (.int .i64 k)).setCell ⟨w.heap.size, 1, none⟩ (.int .i64 n))) := ((HB2.out).setCell (p := ⟨w.heap.size, 0, none⟩) (Nat.le_refl _) _).setCell (p := ⟨w.heap.size, 1, none⟩) (Nat.le_refl _) _
  clear hfin hob HB0 HB2
  generalize hoe : w.heap.size = ob at *
  have HOE := Lib.hid hoe
  clear hoe
  go_wp2_with fail
  refine bodyPost_ret (v := .agg #[.int .i64 k, .int .i64 n]) (by simp [results, Tryz.results180, go_sem, e0, e1]) rfl ?_
  exact ⟨rfl, by rw [HOE.out]; exact HF.out⟩
section
variable {m : Mm} {w w' : World} {rb : Nat} {s : Rm}
theorem jinv (h : PRM m w rb s) (hi : Rinv s) {t : Int} (ha : asked s t = 0) : Jo.Inv (s.j t) := by
  obtain ⟨a1, a2, a3⟩ := asked_in ha
  exact (hi.jt t.toNat (by omega) (by rw [show ((t.toNat : Nat) : Int) = t by omega]; exact a3)).2.2
theorem fault_any (h : PRM m w rb s) (hp : Jp m s) (hi : Rinv s) (t now : Int) : Calls Tryz.prog 32 #[.pointer (some ⟨rb, 0, none⟩), .int .i64 t, .int .i64 now] w (VB (.int .i64 (fauR s t now)) w) := by
  by_cases ha : asked s t = 0
  · have hx : fauR s t now = fau (s.j t) now := if_pos ha
    have HI := Lib.hid (jinv h hi ha)
    obtain ⟨i, rfl, hin, hpi, hjp, hsj⟩ := asked_p hp ha
    have HC : Hid (∀ (w1 : World) (B B1 B2 : Nat), Below w.heap.size w w1 → w1.heap[B]? = some (.cells #[.func (.func 156) #[] #[.pointer (some ⟨B1, 0, none⟩), .pointer (some ⟨B2, 0, none⟩)]] 105 (0, 0)) → w1.heap[B1]? = some (.cells #[.func (.func 94) #[] #[]] 115 (0, 0)) → w1.heap[B2]? = some (.cells #[.int .i64 now] 3 (0, 0)) →
        Calls Tryz.prog 121 #[.pointer (some ⟨rb, 0, none⟩), .int .i64 i, .pointer (some ⟨B, 0, none⟩)] w1 (VB (.tuple #[.int .i64 (fau (s.j i) now), .int .i64 0]) w1)) := fun w1 B B1 B2 hb hB h1 h2 =>
      yes_with (h.below hb) hp hin hpi ha hB fun w2 hb2 => with1_fault ((hb2.block _ (lt_of_block h1)).trans h1) ((hb2.block _ (lt_of_block h2)).trans h2) (by rw [hsj] at HI ⊢; exact pj_fault (((h.below hb).below hb2).jb i hin hpi) HI.out now)
    rw [hx]
    generalize fau (s.j i) now = x at *
    clear h hp hi hx HI hsj hjp hpi hin ha
    go_enter Tryz.func32, Tryz.ntmps32
    go_wp2_with fail
    refine (with_int _ _ _).mono ?_
    rintro e w1 ⟨B1, B2, rfl, h1, h2, hb1⟩
    have H1 := Lib.hid h1
    have H2 := Lib.hid h2
    have HB1 := Lib.hid hb1
    clear h1 h2 hb1
    go_wp2_with fail
    refine (asks_int _ _ _).mono ?_
    rintro e w2 ⟨B, rfl, hB, hb2⟩
    have HD := Lib.hid (HC.out w2 B B1 B2 (chn HB1.out hb2) hB ((hb2.block _ (lt_of_block H1.out)).trans H1.out) ((hb2.block _ (lt_of_block H2.out)).trans H2.out))
    have HB2 := Lib.hid (chn HB1.out hb2)
    clear hB hb2 HC H1 H2
    go_wp2_with fail
    refine HD.out.mono ?_
    rintro e w3 ⟨rfl, hb3⟩
    have HB3 := Lib.hid (chn HB2.out hb3)
    clear hb3 HD
    go_wp2_with fail
    go_ret
    exact ⟨rfl, HB3.out⟩
  · have hx : fauR s t now = 0 := if_neg ha
    rw [hx]
    have HC : Hid (∀ (w1 : World) (B : Nat), Below w.heap.size w w1 → Calls Tryz.prog 121 #[.pointer (some ⟨rb, 0, none⟩), .int .i64 t, .pointer (some ⟨B, 0, none⟩)] w1 (VB (.tuple #[.int .i64 0, .int .i64 (asked s t)]) w1)) := fun w1 B hb => no_int (M := .nilFunc) (h.below hb) hp ha
    generalize asked s t = y at *
    clear h hp hi hx ha
    go_enter Tryz.func32, Tryz.ntmps32
    go_wp2_with fail
    refine (with_int _ _ _).mono ?_
    rintro e w1 ⟨B1, B2, rfl, h1, h2, hb1⟩
    have HB1 := Lib.hid hb1
    clear h1 h2 hb1
    go_wp2_with fail
    refine (asks_int _ _ _).mono ?_
    rintro e w2 ⟨B, rfl, hB, hb2⟩
    have HD := Lib.hid (HC.out w2 B (chn HB1.out hb2))
    have HB2 := Lib.hid (chn HB1.out hb2)
    clear hB hb2 HC
    go_wp2_with fail
    refine HD.out.mono ?_
    rintro e w3 ⟨rfl, hb3⟩
    have HB3 := Lib.hid (chn HB2.out hb3)
    clear hb3 HD
    go_wp2_with fail
    go_ret
    exact ⟨rfl, HB3.out⟩
theorem dead_any (h : PRM m w rb s) (hp : Jp m s) (hi : Rinv s) (t : Int) : Calls Tryz.prog 17 #[.pointer (some ⟨rb, 0, none⟩), .int .i64 t] w (VB (deadV s t) w) := by
  by_cases ha : asked s t = 0
  · have hx : deadV s t = .tuple #[.int .i64 (s.dl t), .bool true] := if_pos ha
    obtain ⟨i, rfl, hin, hpi, hjp, hsj⟩ := asked_p hp ha
    have he : (s.J i).e = s.dl i := (hi.jt i hin (asked_in ha).2.2).2.1
    have HC : Hid (∀ (w1 : World) (B : Nat), Below w.heap.size w w1 → w1.heap[B]? = some (.cells #[.func (.func 70) #[] #[]] 105 (0, 0)) → Calls Tryz.prog 121 #[.pointer (some ⟨rb, 0, none⟩), .int .i64 i, .pointer (some ⟨B, 0, none⟩)] w1 (VB (.tuple #[.int .i64 (s.dl i), .int .i64 0]) w1)) := fun w1 B hb hB =>
      yes_dead (h.below hb) hp hin hpi ha hB fun w2 hb2 => by rw [← he]; exact pj_dead (((h.below hb).below hb2).jb i hin hpi)
    rw [hx]
    generalize s.dl i = x at *
    clear h hp hi hx hsj hjp hpi hin ha he
    go_enter Tryz.func17, Tryz.ntmps17
    go_wp2_with fail
    refine (asks_int _ _ _).mono ?_
    rintro e w2 ⟨B, rfl, hB, hb2⟩
    have HD := Lib.hid (HC.out w2 B hb2 hB)
    have HB2 := Lib.hid hb2
    clear hB hb2 HC
    go_wp2_with fail
    refine HD.out.mono ?_
    rintro e w3 ⟨rfl, hb3⟩
    have HB3 := Lib.hid (chn HB2.out hb3)
    clear hb3 HD
    go_wp2_with fail
    go_ret2
    exact ⟨rfl, HB3.out⟩
  · have hx : deadV s t = .tuple #[.int .i64 0, .bool false] := if_neg ha
    rw [hx]
    have HC : Hid (∀ (w1 : World) (B : Nat), Below w.heap.size w w1 → Calls Tryz.prog 121 #[.pointer (some ⟨rb, 0, none⟩), .int .i64 t, .pointer (some ⟨B, 0, none⟩)] w1 (VB (.tuple #[.int .i64 0, .int .i64 (asked s t)]) w1)) := fun w1 B hb => no_int (M := .nilFunc) (h.below hb) hp ha
    have hy : (asked s t == 0) = false := by simpa using ha
    generalize asked s t = y at *
    clear h hp hi hx ha
    go_enter Tryz.func17, Tryz.ntmps17
    go_wp2_with fail
    refine (asks_int _ _ _).mono ?_
    rintro e w2 ⟨B, rfl, hB, hb2⟩
    have HD := Lib.hid (HC.out w2 B hb2)
    have HB2 := Lib.hid hb2
    clear hB hb2 HC
    go_wp2_with fail
    refine HD.out.mono ?_
    rintro e w3 ⟨rfl, hb3⟩
    have HB3 := Lib.hid (chn HB2.out hb3)
    clear hb3 HD
    go_wp2_with fail
    go_ret2
    exact ⟨rfl, HB3.out⟩
end
end Go.Proofs.YtkkmfpllgjoceaaGreat.Ro
