/- A guard in memory; the program's calls, and the document's. -/
import Derived.Test.YtkkmfpllgjoceaaGreatSpoP
import Derived.WalkLawsBesides
import Derived.Lib.Hide
import Derived.Deep.QuietTactic
import Derived.BigQuiet
import Derived.Below
import Derived.OneCell
import Derived.RegionTactic
import Derived.StillTailTactics
import Derived.WalkMore
namespace Go.Proofs.YtkkmfpllgjoceaaGreat.Sg
open Go.RowKit Sp
set_option linter.unusedVariables false
set_option maxRecDepth 100000

theorem lt_of_cell {w : World} {p : Addr} {v : Value} (h : w.cell? p = some v) : p.block < w.heap.size := World.block_lt_of_cell? w p h
theorem lt_of_block {w : World} {b : Nat} {o : Obj} (h : w.heap[b]? = some o) : b < w.heap.size := (Array.getElem?_eq_some_iff.1 h).1
def IsB (b : Bool) (w : World) (e : Ending) (w' : World) : Prop := e = .returned (.bool b) ∧ w = w'
def IsI (x : Int) (w : World) (e : Ending) (w' : World) : Prop := e = .returned (.int .i64 x) ∧ w = w'
theorem chn {w w1 w2 : World} (h : Below w.heap.size w w1) (k : Below w1.heap.size w1 w2) : Below w.heap.size w w2 := h.trans (k.mono h.size)
/-- two numbers in a block -/
def GS (t : TypeId) (w : World) (b : Nat) (p e : Int) : Prop := w.heap[b]? = some (.cells #[.int .i64 p, .int .i64 e] t (0, 0))
theorem GS.c0 {t : TypeId} {w : World} {b : Nat} {p e : Int} (h : GS t w b p e) : w.cell? ⟨b, 0, none⟩ = some (.int .i64 p) := cell_of_row _ _ 0 _ _ _ h
theorem GS.c1 {t : TypeId} {w : World} {b : Nat} {p e : Int} (h : GS t w b p e) : w.cell? ⟨b, 1, none⟩ = some (.int .i64 e) := cell_of_row _ _ 1 _ _ _ h
theorem GS.f0 {t : TypeId} {w : World} {b : Nat} {p e : Int} (h : GS t w b p e) : w.frozen? ⟨b, 0, none⟩ = false := frozen_of_row _ _ 0 _ _ h
theorem GS.f1 {t : TypeId} {w : World} {b : Nat} {p e : Int} (h : GS t w b p e) : w.frozen? ⟨b, 1, none⟩ = false := frozen_of_row _ _ 1 _ _ h
theorem GS.lt {t : TypeId} {w : World} {b : Nat} {p e : Int} (h : GS t w b p e) : b < w.heap.size := lt_of_block h
theorem GS.keep {t : TypeId} {w w' : World} {b : Nat} {p e : Int} (h : GS t w b p e) (q : w'.heap[b]? = w.heap[b]?) : GS t w' b p e := q.trans h
theorem GS.set0 {t : TypeId} {w : World} {b : Nat} {p e : Int} (h : GS t w b p e) (x : Int) : GS t (w.setCell ⟨b, 0, none⟩ (.int .i64 x)) b x e := heap_setCell_same w b 0 _ t _ h
theorem GS.set1 {t : TypeId} {w : World} {b : Nat} {p e : Int} (h : GS t w b p e) (x : Int) : GS t (w.setCell ⟨b, 1, none⟩ (.int .i64 x)) b p x := heap_setCell_same w b 1 _ t _ h
/-- of what was there nothing has turned but the block b -/
structure Only (b : Nat) (w w' : World) : Prop where
  os : w'.os = w.os
  tape : w'.tape = w.tape
  output : w'.output = w.output
  size : w.heap.size ≤ w'.heap.size
  block : ∀ k, k < w.heap.size → k ≠ b → w'.heap[k]? = w.heap[k]?
theorem Only.refl (b : Nat) (w : World) : Only b w w := ⟨rfl, rfl, rfl, Nat.le_refl _, fun _ _ _ => rfl⟩
theorem Only.set (w : World) (b o : Nat) (v : Value) : Only b w (w.setCell ⟨b, o, none⟩ v) := ⟨rfl, rfl, rfl, by simp [World.setCell], fun k hk hne => Below.heap_setCell _ _ _ _ hne⟩
theorem Only.below {b : Nat} {w w' : World} (h : Only b w w') {B : Nat} (hB : B ≤ w.heap.size) (hb : B ≤ b) : Below B w w' := ⟨h.os, h.tape, h.output, h.size, fun k hk => h.block k (by omega) (by omega)⟩
/-- an answer; the guard behind it -/
def GP (t : TypeId) (b : Nat) (r : Value) (p e : Int) (w : World) (E : Ending) (w' : World) : Prop := E = .returned r ∧ GS t w' b p e ∧ Only b w w'

abbrev PG (w : World) (b : Nat) (p e : Int) : Prop := GS 184 w b p e
abbrev DG (w : World) (b : Nat) (p e : Int) : Prop := GS 136 w b p e

theorem none_no {w : World} {b : Nat} {p e : Int} (h : PG w b p e) (ok : Ok p e) : Calls Tryz.prog 155 #[.pointer (some ⟨b, 0, none⟩)] w (IsB false w) := by
  have c0 := h.c0
  have hp : (p == 0) = false := by have := ok.p1; simp; omega
  clear h ok
  go_enter Tryz.func155, Tryz.ntmps155
  go_wp2_with fail
  go_ret
  exact ⟨rfl, rfl⟩
theorem none_nil (w : World) : Calls Tryz.prog 155 #[.pointer none] w (IsB true w) := by
  go_enter Tryz.func155, Tryz.ntmps155
  go_wp2_with fail
  go_ret
  exact ⟨rfl, rfl⟩
theorem none_zero {w : World} {b : Nat} (h : PG w b 0 0) : Calls Tryz.prog 155 #[.pointer (some ⟨b, 0, none⟩)] w (IsB true w) := by
  have c0 := h.c0
  clear h
  go_enter Tryz.func155, Tryz.ntmps155
  go_wp2_with fail
  go_ret
  exact ⟨rfl, rfl⟩
theorem period_yes {q : Int} (w : World) (h1 : 1 ≤ q) (h2 : q ≤ 64) : Calls Tryz.prog 163 #[.int .i64 q] w (IsB true w) := by
  have d1 : decide (1 ≤ q) = true := by simpa using h1
  have d2 : decide (q ≤ 64) = true := by simpa using h2
  go_enter Tryz.func163, Tryz.ntmps163
  go_wp2_with fail
  go_ret
  exact ⟨rfl, rfl⟩
theorem period_no {q : Int} (w : World) (h : q < 1 ∨ 64 < q) : Calls Tryz.prog 163 #[.int .i64 q] w (IsB false w) := by
  by_cases h1 : 1 ≤ q
  · have d1 : decide (1 ≤ q) = true := by simpa using h1
    have d2 : decide (q ≤ 64) = false := by simp; omega
    go_enter Tryz.func163, Tryz.ntmps163
    go_wp2_with fail
    go_ret
    exact ⟨rfl, rfl⟩
  · have d1 : decide (1 ≤ q) = false := by simpa using h1
    go_enter Tryz.func163, Tryz.ntmps163
    go_wp2_with fail
    go_ret
    exact ⟨rfl, rfl⟩
theorem tick_any {w : World} {b : Nat} {p e : Int} (h : PG w b p e) (ok : Ok p e) (n : Int) : Calls Tryz.prog 152 #[.pointer (some ⟨b, 0, none⟩), .int .i64 n] w (IsI (wt e n) w) := by
  have c1 := h.c1
  have HN := Lib.hid (none_no h ok)
  clear h ok
  rcases wt_cases e n with ⟨q1, q⟩ | ⟨q1, q2, q⟩ | ⟨q1, q2, q3, q⟩ | ⟨q1, q2, q3, q⟩
  all_goals
    rw [q]
    clear q
    go_enter Tryz.func152, Tryz.ntmps152
    go_wp2_with fail
    refine HN.out.mono ?_
    rintro E w1 ⟨rfl, rfl⟩
    go_wp2_with fail
    go_ret
    exact ⟨rfl, rfl⟩
theorem rel_any {w : World} {b : Nat} {p e n : Int} (h : PG w b p e) (ok : Ok p e) (h1 : 0 ≤ n) (h2 : n ≤ 1099511627776) : Calls Tryz.prog 153 #[.pointer (some ⟨b, 0, none⟩), .int .i64 n] w (GP 184 b (.tuple #[]) p (n + p) w) := by
  have c0 := h.c0
  have c1 := h.c1
  have f1 := h.f1
  have HF : Hid (GP 184 b (.tuple #[]) p (n + p) w (.returned (.tuple #[])) (w.setCell ⟨b, 1, none⟩ (.int .i64 (n + p)))) := ⟨rfl, h.set1 _, Only.set _ _ _ _⟩
  have hp1 := ok.p1
  have hp2 := ok.p2
  clear h ok
  go_enter Tryz.func153, Tryz.ntmps153
  go_wp2_with fail
  go_end0
  exact HF.out
/-- a method value: its receiver stands first -/
abbrev mv (f : Nat) (b : Nat) : Value := .func (.func f) #[.pointer (some ⟨b, 0, none⟩)] #[]
theorem utick_any {w : World} {b : Nat} {p e : Int} (h : PG w b p e) (ok : Ok p e) (n : Int) : Calls Tryz.prog 151 #[mv 152 b, mv 153 b, .int .i64 n] w (GP 184 b (.int .i64 (wt e n)) p (rl p e n) w) := by
  have HT := Lib.hid (tick_any h ok n)
  rcases wt_cases e n with ⟨q1, q⟩ | ⟨q1, q2, q⟩ | ⟨q1, q2, q3, q⟩ | ⟨q1, q2, q3, q⟩
  case inr.inr.inr =>
    have HR := Lib.hid (rel_any h ok q1 q2)
    have e1 : rl p e n = n + p := if_pos q
    rw [e1, q]
    rw [q] at HT
    clear h ok q q1 q2 q3 e1
    go_enter Tryz.func151, Tryz.ntmps151
    go_wp2_with fail
    refine HT.out.mono ?_
    rintro E w1 ⟨rfl, rfl⟩
    go_wp2_with fail
    refine HR.out.mono ?_
    rintro E w1 ⟨rfl, hg, ho⟩
    have HG := Lib.hid hg
    have HO := Lib.hid ho
    clear hg ho
    go_wp2_with fail
    go_ret
    exact ⟨rfl, HG.out, HO.out⟩
  all_goals
    have HF := Lib.hid (show GS 184 w b p e ∧ Only b w w from ⟨h, Only.refl _ _⟩)
    have e1 : rl p e n = e := if_neg (by rw [q]; decide)
    rw [e1, q]
    rw [q] at HT
    clear h ok q q1 e1
    go_enter Tryz.func151, Tryz.ntmps151
    go_wp2_with fail
    refine HT.out.mono ?_
    rintro E w1 ⟨rfl, rfl⟩
    go_wp2_with fail
    go_ret
    exact ⟨rfl, HF.out⟩
theorem release_any {w : World} {b : Nat} {p e : Int} (h : PG w b p e) (ok : Ok p e) (n : Int) : Calls Tryz.prog 90 #[.pointer (some ⟨b, 0, none⟩), .int .i64 n] w (GP 184 b (.int .i64 (wt e n)) p (rl p e n) w) := by
  have HU := Lib.hid (utick_any h ok n)
  clear h ok
  go_enter Tryz.func90, Tryz.ntmps90
  go_wp2_with fail
  refine HU.out.mono ?_
  rintro E w1 ⟨rfl, hg, ho⟩
  have HG := Lib.hid hg
  have HO := Lib.hid ho
  clear hg ho
  go_wp2_with fail
  go_ret
  exact ⟨rfl, HG.out, HO.out⟩
theorem next_any {w : World} {b : Nat} {p e : Int} (h : PG w b p e) (ok : Ok p e) : Calls Tryz.prog 92 #[.pointer (some ⟨b, 0, none⟩)] w (IsI e w) := by
  have HN := Lib.hid (none_no h ok)
  have c1 := h.c1
  clear h ok
  go_enter Tryz.func92, Tryz.ntmps92
  go_wp2_with fail
  refine HN.out.mono ?_
  rintro E w1 ⟨rfl, rfl⟩
  go_wp2_with fail
  go_ret
  exact ⟨rfl, rfl⟩
theorem new_yes (w : World) {p : Int} (h : wp p = 0) : Calls Tryz.prog 100 #[.int .i64 p] w (fun E w' => E = .returned (.tuple #[.pointer (some ⟨w.heap.size, 0, none⟩), .int .i64 0]) ∧ PG w' w.heap.size p 0 ∧ Below w.heap.size w w') := by
  have HQ : Hid (Calls Tryz.prog 163 #[.int .i64 p] w (IsB true w)) := by
    rcases wp_cases p with ⟨q1, q2, _⟩ | ⟨_, q2⟩
    · exact period_yes w q1 q2
    · rw [h] at q2; cases q2
  clear h
  go_enter Tryz.func100, Tryz.ntmps100
  go_wp2_with fail
  refine HQ.out.mono ?_
  rintro E w1 ⟨rfl, rfl⟩
  go_wp2_with fail
  go_ret2
  exact ⟨rfl, heap_alloc_new _ _, (Below.refl _ _).alloc (Nat.le_refl _) _⟩
theorem new_no (w : World) {p : Int} (h : wp p = 2) : Calls Tryz.prog 100 #[.int .i64 p] w (fun E w' => E = .returned (.tuple #[.pointer none, .int .i64 2]) ∧ w = w') := by
  have HQ : Hid (Calls Tryz.prog 163 #[.int .i64 p] w (IsB false w)) := by
    rcases wp_cases p with ⟨_, _, q2⟩ | ⟨q1, _⟩
    · rw [h] at q2; cases q2
    · exact period_no w q1
  clear h
  go_enter Tryz.func100, Tryz.ntmps100
  go_wp2_with fail
  refine HQ.out.mono ?_
  rintro E w1 ⟨rfl, rfl⟩
  go_wp2_with fail
  go_ret2
  exact ⟨rfl, rfl⟩
end Go.Proofs.YtkkmfpllgjoceaaGreat.Sg
