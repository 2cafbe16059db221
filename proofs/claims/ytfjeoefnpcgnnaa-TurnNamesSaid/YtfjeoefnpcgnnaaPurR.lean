/- The document's purse in memory; its calls. -/
import Derived.Test.YtfjeoefnpcgnnaaPurP
import Derived.WalkLawsBesides
import Derived.Lib.Hide
import Derived.Deep.QuietTactic
import Derived.BigQuiet
import Derived.Below
import Derived.OneCell
import Derived.RegionTactic
import Derived.StillTailTactics
import Derived.WalkMore
namespace Go.Proofs.Ytfjeoefnpcgnnaa.Pw
open Go.RowKit Pu
set_option linter.unusedVariables false
set_option maxRecDepth 100000

theorem lt_of_cell {w : World} {p : Addr} {v : Value} (h : w.cell? p = some v) : p.block < w.heap.size := World.block_lt_of_cell? w p h
theorem lt_of_block {w : World} {b : Nat} {o : Obj} (h : w.heap[b]? = some o) : b < w.heap.size := (Array.getElem?_eq_some_iff.1 h).1
def IsB (b : Bool) (w : World) (e : Ending) (w' : World) : Prop := e = .returned (.bool b) ∧ w = w'
def IsI (x : Int) (w : World) (e : Ending) (w' : World) : Prop := e = .returned (.int .i64 x) ∧ w = w'
/-- of what was there nothing has turned but the block b -/
structure Only (b : Nat) (w w' : World) : Prop where
  os : w'.os = w.os
  tape : w'.tape = w.tape
  output : w'.output = w.output
  size : w.heap.size ≤ w'.heap.size
  block : ∀ k, k < w.heap.size → k ≠ b → w'.heap[k]? = w.heap[k]?
theorem Only.refl (b : Nat) (w : World) : Only b w w := ⟨rfl, rfl, rfl, Nat.le_refl _, fun _ _ _ => rfl⟩
theorem Only.set (w : World) (b o : Nat) (v : Value) : Only b w (w.setCell ⟨b, o, none⟩ v) := ⟨rfl, rfl, rfl, by simp [World.setCell], fun k hk hne => Below.heap_setCell _ _ _ _ hne⟩
theorem Only.trans {b : Nat} {w w1 w2 : World} (h : Only b w w1) (k : Only b w1 w2) : Only b w w2 :=
  ⟨k.os.trans h.os, k.tape.trans h.tape, k.output.trans h.output, Nat.le_trans h.size k.size, fun i hi hne => (k.block i (Nat.lt_of_lt_of_le hi h.size) hne).trans (h.block i hi hne)⟩
theorem Only.drew {b : Nat} {w w' : World} (h : Only b w w') : Only b w w'.drew := h.trans ⟨rfl, rfl, rfl, Nat.le_refl _, fun _ _ _ => rfl⟩
theorem Only.below {b : Nat} {w w' : World} (h : Only b w w') {B : Nat} (hB : B ≤ w.heap.size) (hb : B ≤ b) : Below B w w' := ⟨h.os, h.tape, h.output, h.size, fun k hk => h.block k (by omega) (by omega)⟩
theorem Only.of_below {b : Nat} {w w' : World} (h : Below w.heap.size w w') : Only b w w' := ⟨h.os, h.tape, h.output, h.size, fun k hk _ => h.block k hk⟩
/-- the document's purse s in the block c -/
def DP (w : World) (c : Nat) (s : St) : Prop := w.heap[c]? = some (.cells #[.int .i64 s.p, .int .i64 s.b, .int .i64 s.n, .int .i64 s.e, .int .i64 s.q, .int .i64 s.r, .bool s.lv, .bool s.ov, .int .i64 s.sh] 73 (0, 0))
/-- an answer; the purse behind it -/
def DpP (c : Nat) (r : Value) (s : St) (w : World) (E : Ending) (w' : World) : Prop := E = .returned r ∧ DP w' c s ∧ Only c w w'
section
variable {w : World} {c : Nat} {s : St}
theorem DP.c0 (h : DP w c s) : w.cell? ⟨c, 0, none⟩ = some (.int .i64 s.p) := cell_of_row _ _ 0 _ _ _ h
theorem DP.f0 (h : DP w c s) : w.frozen? ⟨c, 0, none⟩ = false := frozen_of_row _ _ 0 _ _ h
theorem DP.set0 (h : DP w c s) (x : Int) : DP (w.setCell ⟨c, 0, none⟩ (.int .i64 x)) c { s with p := x } := heap_setCell_same w c 0 _ _ _ h
theorem DP.c1 (h : DP w c s) : w.cell? ⟨c, 1, none⟩ = some (.int .i64 s.b) := cell_of_row _ _ 1 _ _ _ h
theorem DP.f1 (h : DP w c s) : w.frozen? ⟨c, 1, none⟩ = false := frozen_of_row _ _ 1 _ _ h
theorem DP.set1 (h : DP w c s) (x : Int) : DP (w.setCell ⟨c, 1, none⟩ (.int .i64 x)) c { s with b := x } := heap_setCell_same w c 1 _ _ _ h
theorem DP.c2 (h : DP w c s) : w.cell? ⟨c, 2, none⟩ = some (.int .i64 s.n) := cell_of_row _ _ 2 _ _ _ h
theorem DP.f2 (h : DP w c s) : w.frozen? ⟨c, 2, none⟩ = false := frozen_of_row _ _ 2 _ _ h
theorem DP.set2 (h : DP w c s) (x : Int) : DP (w.setCell ⟨c, 2, none⟩ (.int .i64 x)) c { s with n := x } := heap_setCell_same w c 2 _ _ _ h
theorem DP.c3 (h : DP w c s) : w.cell? ⟨c, 3, none⟩ = some (.int .i64 s.e) := cell_of_row _ _ 3 _ _ _ h
theorem DP.f3 (h : DP w c s) : w.frozen? ⟨c, 3, none⟩ = false := frozen_of_row _ _ 3 _ _ h
theorem DP.set3 (h : DP w c s) (x : Int) : DP (w.setCell ⟨c, 3, none⟩ (.int .i64 x)) c { s with e := x } := heap_setCell_same w c 3 _ _ _ h
theorem DP.c4 (h : DP w c s) : w.cell? ⟨c, 4, none⟩ = some (.int .i64 s.q) := cell_of_row _ _ 4 _ _ _ h
theorem DP.f4 (h : DP w c s) : w.frozen? ⟨c, 4, none⟩ = false := frozen_of_row _ _ 4 _ _ h
theorem DP.set4 (h : DP w c s) (x : Int) : DP (w.setCell ⟨c, 4, none⟩ (.int .i64 x)) c { s with q := x } := heap_setCell_same w c 4 _ _ _ h
theorem DP.c5 (h : DP w c s) : w.cell? ⟨c, 5, none⟩ = some (.int .i64 s.r) := cell_of_row _ _ 5 _ _ _ h
theorem DP.f5 (h : DP w c s) : w.frozen? ⟨c, 5, none⟩ = false := frozen_of_row _ _ 5 _ _ h
theorem DP.set5 (h : DP w c s) (x : Int) : DP (w.setCell ⟨c, 5, none⟩ (.int .i64 x)) c { s with r := x } := heap_setCell_same w c 5 _ _ _ h
theorem DP.c6 (h : DP w c s) : w.cell? ⟨c, 6, none⟩ = some (.bool s.lv) := cell_of_row _ _ 6 _ _ _ h
theorem DP.f6 (h : DP w c s) : w.frozen? ⟨c, 6, none⟩ = false := frozen_of_row _ _ 6 _ _ h
theorem DP.set6 (h : DP w c s) (x : Bool) : DP (w.setCell ⟨c, 6, none⟩ (.bool x)) c { s with lv := x } := heap_setCell_same w c 6 _ _ _ h
theorem DP.c7 (h : DP w c s) : w.cell? ⟨c, 7, none⟩ = some (.bool s.ov) := cell_of_row _ _ 7 _ _ _ h
theorem DP.f7 (h : DP w c s) : w.frozen? ⟨c, 7, none⟩ = false := frozen_of_row _ _ 7 _ _ h
theorem DP.set7 (h : DP w c s) (x : Bool) : DP (w.setCell ⟨c, 7, none⟩ (.bool x)) c { s with ov := x } := heap_setCell_same w c 7 _ _ _ h
theorem DP.c8 (h : DP w c s) : w.cell? ⟨c, 8, none⟩ = some (.int .i64 s.sh) := cell_of_row _ _ 8 _ _ _ h
theorem DP.f8 (h : DP w c s) : w.frozen? ⟨c, 8, none⟩ = false := frozen_of_row _ _ 8 _ _ h
theorem DP.set8 (h : DP w c s) (x : Int) : DP (w.setCell ⟨c, 8, none⟩ (.int .i64 x)) c { s with sh := x } := heap_setCell_same w c 8 _ _ _ h
theorem DP.drew (h : DP w c s) : DP w.drew c s := h
theorem DP.lt (h : DP w c s) : c < w.heap.size := lt_of_block h
theorem DP.keep {w' : World} (h : DP w c s) (q : w'.heap[c]? = w.heap[c]?) : DP w' c s := q.trans h
end
theorem rmay_any (p b : Int) (w : World) : Calls Try.prog 33 #[.int .i64 p, .int .i64 b] w (IsB (decide (may p b)) w) := by
  rcases may_cases p b with ⟨h1, q⟩ | ⟨h1, h2, q⟩ | ⟨h1, h2, h3, q⟩ | ⟨h1, h2, h3, h4, q⟩ | ⟨h1, h2, h3, h4, q⟩
  · rw [show decide (may p b) = false by simpa using q]
    clear q
    have d0 : decide (1 ≤ p) = false := by simp; omega
    go_enter Try.func33, Try.ntmps33
    go_wp2_with fail
    go_ret
    exact ⟨rfl, rfl⟩
  · rw [show decide (may p b) = false by simpa using q]
    clear q
    have d0 : decide (1 ≤ p) = true := by simpa using (by omega : 1 ≤ p)
    have d1 : decide (p ≤ 64) = false := by simp; omega
    go_enter Try.func33, Try.ntmps33
    go_wp2_with fail
    go_ret
    exact ⟨rfl, rfl⟩
  · rw [show decide (may p b) = false by simpa using q]
    clear q
    have d0 : decide (1 ≤ p) = true := by simpa using (by omega : 1 ≤ p)
    have d1 : decide (p ≤ 64) = true := by simpa using (by omega : p ≤ 64)
    have d2 : decide (1 ≤ b) = false := by simp; omega
    go_enter Try.func33, Try.ntmps33
    go_wp2_with fail
    go_ret
    exact ⟨rfl, rfl⟩
  · rw [show decide (may p b) = false by simpa using q]
    clear q
    have d0 : decide (1 ≤ p) = true := by simpa using (by omega : 1 ≤ p)
    have d1 : decide (p ≤ 64) = true := by simpa using (by omega : p ≤ 64)
    have d2 : decide (1 ≤ b) = true := by simpa using (by omega : 1 ≤ b)
    have d3 : decide (b ≤ p) = false := by simp; omega
    go_enter Try.func33, Try.ntmps33
    go_wp2_with fail
    go_ret
    exact ⟨rfl, rfl⟩
  · rw [show decide (may p b) = true by simpa using q]
    clear q
    have d0 : decide (1 ≤ p) = true := by simpa using (by omega : 1 ≤ p)
    have d1 : decide (p ≤ 64) = true := by simpa using (by omega : p ≤ 64)
    have d2 : decide (1 ≤ b) = true := by simpa using (by omega : 1 ≤ b)
    have d3 : decide (b ≤ p) = true := by simpa using (by omega : b ≤ p)
    go_enter Try.func33, Try.ntmps33
    go_wp2_with fail
    go_ret
    exact ⟨rfl, rfl⟩
theorem rnew_yes (w : World) {p b t : Int} (h : nwE p b t = 0) : Calls Try.prog 14 #[.int .i64 p, .int .i64 b, .int .i64 t] w (fun E w' => E = .returned (.tuple #[.pointer (some ⟨w.heap.size, 0, none⟩), .int .i64 0]) ∧ DP w' w.heap.size (nwS p b t) ∧ Below w.heap.size w w') := by
  rcases nwE_cases p b t with ⟨_, q⟩ | ⟨_, _, q⟩ | ⟨_, _, q⟩ | ⟨hm, q1, q2, _⟩
  · rw [h] at q; cases q
  · rw [h] at q; cases q
  · rw [h] at q; cases q
  · have HM := Lib.hid (show Calls Try.prog 33 #[.int .i64 p, .int .i64 b] w (IsB true w) by have := rmay_any p b w; rwa [decide_eq_true hm] at this)
    have p1 := hm.1.1
    have p2 := hm.1.2
    have d1 : decide (t < 0) = false := by simp; omega
    have d2 : decide (1099511627776 < t) = false := by simp; omega
    clear h hm
    go_enter Try.func14, Try.ntmps14
    go_wp2_with fail
    refine HM.out.mono ?_
    rintro E w1 ⟨rfl, rfl⟩
    go_wp2_with fail
    go_ret2
    exact ⟨rfl, heap_alloc_new _ _, (Below.refl _ _).alloc (Nat.le_refl _) _⟩
theorem rnew_no (w : World) {p b t : Int} (h : nwE p b t ≠ 0) : Calls Try.prog 14 #[.int .i64 p, .int .i64 b, .int .i64 t] w (fun E w' => E = .returned (.tuple #[.pointer none, .int .i64 (nwE p b t)]) ∧ w = w') := by
  rcases nwE_cases p b t with ⟨hm, q⟩ | ⟨hm, q1, q⟩ | ⟨hm, q1, q⟩ | ⟨_, _, _, q⟩
  · rw [q]
    have HM := Lib.hid (show Calls Try.prog 33 #[.int .i64 p, .int .i64 b] w (IsB false w) by have := rmay_any p b w; rwa [decide_eq_false hm] at this)
    clear h hm q
    go_enter Try.func14, Try.ntmps14
    go_wp2_with fail
    refine HM.out.mono ?_
    rintro E w1 ⟨rfl, rfl⟩
    go_wp2_with fail
    go_ret2
    exact ⟨rfl, rfl⟩
  · rw [q]
    have HM := Lib.hid (show Calls Try.prog 33 #[.int .i64 p, .int .i64 b] w (IsB true w) by have := rmay_any p b w; rwa [decide_eq_true hm] at this)
    have d0 : decide (t < 0) = true := by simpa using (by omega : t < 0)
    clear h hm q
    go_enter Try.func14, Try.ntmps14
    go_wp2_with fail
    refine HM.out.mono ?_
    rintro E w1 ⟨rfl, rfl⟩
    go_wp2_with fail
    go_ret2
    exact ⟨rfl, rfl⟩
  · rw [q]
    have HM := Lib.hid (show Calls Try.prog 33 #[.int .i64 p, .int .i64 b] w (IsB true w) by have := rmay_any p b w; rwa [decide_eq_true hm] at this)
    have d0 : decide (t < 0) = false := by simp; omega
    have d1 : decide (1099511627776 < t) = true := by simpa using (by omega : 1099511627776 < t)
    clear h hm q
    go_enter Try.func14, Try.ntmps14
    go_wp2_with fail
    refine HM.out.mono ?_
    rintro E w1 ⟨rfl, rfl⟩
    go_wp2_with fail
    go_ret2
    exact ⟨rfl, rfl⟩
  · exact absurd q h
section
variable {w : World} {c : Nat} {s : St}
theorem rcharge_any {k : Nat} (h : DP w c s) (ok : Ok k s) : Calls Try.prog 17 #[.pointer (some ⟨c, 0, none⟩)] w (DpP c (.int .i64 (chE s)) (chS s) w) := by
  have n0 := ok.n0
  have n1 := ok.n1
  have m1 := ok.m.1.2
  have m2 := ok.m.2.2
  clear ok
  rcases ch_cases s with ⟨h1, e1, e2⟩ | ⟨h1, h2, e1, e2⟩ | ⟨h1, h2, e1, e2⟩ <;> rw [e1, e2] <;> clear e1 e2
  · skip
    have c7 := h.c7
    rw [h1] at c7
    have HF : Hid (DP w c s ∧ Only c w w) := ⟨h, Only.refl _ _⟩
    clear h
    go_enter Try.func17, Try.ntmps17
    go_wp2_with fail
    go_ret
    exact ⟨rfl, HF.out⟩
  · skip
    have c7 := h.c7
    rw [h1] at c7
    have c2 := h.c2
    rw [h2] at c2
    have HF : Hid (DP w c s ∧ Only c w w) := ⟨h, Only.refl _ _⟩
    clear h
    go_enter Try.func17, Try.ntmps17
    go_wp2_with fail
    go_ret
    exact ⟨rfl, HF.out⟩
  · skip
    have c7 := h.c7
    rw [h1] at c7
    have c2 := h.c2
    have d1 : (s.n == 0) = false := by simpa using h2
    have f2 := h.f2
    have HF : Hid (DP (w.setCell ⟨c, 2, none⟩ (.int .i64 (s.n - 1))) c { s with n := s.n - 1 } ∧ Only c w (w.setCell ⟨c, 2, none⟩ (.int .i64 (s.n - 1)))) := ⟨(h.set2 _), Only.set _ _ _ _⟩
    clear h
    go_enter Try.func17, Try.ntmps17
    go_wp2_with fail
    go_ret
    exact ⟨rfl, HF.out⟩
set_option maxHeartbeats 1000000 in
theorem rturn_any {k : Nat} (h : DP w c s) (ok : Ok k s) (hk : k ≤ 1000000) (t : Int) : Calls Try.prog 29 #[.pointer (some ⟨c, 0, none⟩), .int .i64 t] w (DpP c (.tuple #[.bool (tuB s t), .int .i64 (tuE s t)]) (tuS s t) w) := by
  have n0 := ok.n0
  have n1 := ok.n1
  have m1 := ok.m.1.2
  have m2 := ok.m.2.2
  have m3 := ok.m.1.1
  have x1 := ok.e0
  have x2 := ok.e1
  have x3 := ok.s0
  have x4 := ok.s1
  have x5 := ok.q
  clear ok
  rcases tu_cases s t with ⟨h1, e1, e2, e3⟩ | ⟨h1, h2, e1, e2, e3⟩ | ⟨h1, h2, e1, e2, e3⟩ | ⟨h1, h2, e1, e2, e3⟩ <;> rw [e1, e2, e3] <;> clear e1 e2 e3
  · skip
    have c7 := h.c7
    rw [h1] at c7
    have HF : Hid (DP w c s ∧ Only c w w) := ⟨h, Only.refl _ _⟩
    clear h
    go_enter Try.func29, Try.ntmps29
    go_wp2_with fail
    go_ret2
    exact ⟨rfl, HF.out⟩
  · skip
    have c7 := h.c7
    rw [h1] at c7
    have c3 := h.c3
    have d1 : decide (s.e < t) = true := by simpa using h2
    have HF : Hid (DP w c s ∧ Only c w w) := ⟨h, Only.refl _ _⟩
    clear h
    go_enter Try.func29, Try.ntmps29
    go_wp2_with fail
    go_ret2
    exact ⟨rfl, HF.out⟩
  · skip
    have c7 := h.c7
    rw [h1] at c7
    have c3 := h.c3
    have d1 : decide (s.e < t) = false := by simp; omega
    have d2 : decide (t < s.e) = true := by simpa using h2
    have HF : Hid (DP w c s ∧ Only c w w) := ⟨h, Only.refl _ _⟩
    clear h
    go_enter Try.func29, Try.ntmps29
    go_wp2_with fail
    go_ret2
    exact ⟨rfl, HF.out⟩
  · subst h2
    have d1 : decide (s.e < s.e) = false := by simp
    rcases ended_cases s s.e with ⟨q1, e⟩ | ⟨q1, q2, e⟩ | ⟨q1, q2, e⟩ <;> rw [e] <;> clear e
    · skip
      have c7 := h.c7
      rw [h1] at c7
      have c3 := h.c3
      have c8 := h.c8
      have c2 := h.c2
      have c6 := h.c6
      rw [q1] at c6
      have f8 := h.f8
      have f2 := h.f2
      have f7 := h.f7
      have HF : Hid (DP (((w.setCell ⟨c, 8, none⟩ (.int .i64 (s.sh + s.n))).setCell ⟨c, 2, none⟩ (.int .i64 (0))).setCell ⟨c, 7, none⟩ (.bool (true))) c { s with sh := s.sh + s.n, n := 0, ov := true } ∧ Only c w (((w.setCell ⟨c, 8, none⟩ (.int .i64 (s.sh + s.n))).setCell ⟨c, 2, none⟩ (.int .i64 (0))).setCell ⟨c, 7, none⟩ (.bool (true)))) := ⟨(((h.set8 _).set2 _).set7 _), ((Only.set _ _ _ _).trans (Only.set _ _ _ _)).trans (Only.set _ _ _ _)⟩
      clear h
      go_enter Try.func29, Try.ntmps29
      go_wp2_with fail
      go_region
      all_goals
        go_wp2_with fail
        go_ret2
        exact ⟨rfl, HF.out.1.drew, HF.out.2.drew⟩
    · skip
      have c7 := h.c7
      rw [h1] at c7
      have c3 := h.c3
      have c8 := h.c8
      have c2 := h.c2
      have c6 := h.c6
      rw [q1] at c6
      have c4 := h.c4
      have c0 := h.c0
      have c1 := h.c1
      have d2 : decide (0 < s.q) = false := by simp; omega
      have f8 := h.f8
      have f2 := h.f2
      have f3 := h.f3
      have HF : Hid (DP ((((w.setCell ⟨c, 8, none⟩ (.int .i64 (s.sh + s.n))).setCell ⟨c, 2, none⟩ (.int .i64 (0))).setCell ⟨c, 2, none⟩ (.int .i64 (s.b))).setCell ⟨c, 3, none⟩ (.int .i64 (s.e + s.p))) c { s with sh := s.sh + s.n, n := s.b, e := s.e + s.p } ∧ Only c w ((((w.setCell ⟨c, 8, none⟩ (.int .i64 (s.sh + s.n))).setCell ⟨c, 2, none⟩ (.int .i64 (0))).setCell ⟨c, 2, none⟩ (.int .i64 (s.b))).setCell ⟨c, 3, none⟩ (.int .i64 (s.e + s.p)))) := ⟨((((h.set8 _).set2 _).set2 _).set3 _), (((Only.set _ _ _ _).trans (Only.set _ _ _ _)).trans (Only.set _ _ _ _)).trans (Only.set _ _ _ _)⟩
      clear h
      go_enter Try.func29, Try.ntmps29
      go_wp2_with fail
      go_region
      all_goals
        go_wp2_with fail
        go_ret2
        exact ⟨rfl, HF.out.1.drew, HF.out.2.drew⟩
    · skip
      have c7 := h.c7
      rw [h1] at c7
      have c3 := h.c3
      have c8 := h.c8
      have c2 := h.c2
      have c6 := h.c6
      rw [q1] at c6
      have c4 := h.c4
      have c5 := h.c5
      have c0 := h.c0
      have c1 := h.c1
      have hm : may s.q s.r := by rcases x5 with x | x; exact absurd x q2; exact x
      have b1 := hm.1.1
      have b2 := hm.1.2
      clear hm
      have d2 : decide (0 < s.q) = true := by simp; omega
      have f8 := h.f8
      have f2 := h.f2
      have f0 := h.f0
      have f1 := h.f1
      have f4 := h.f4
      have f3 := h.f3
      have HF : Hid (DP (((((((w.setCell ⟨c, 8, none⟩ (.int .i64 (s.sh + s.n))).setCell ⟨c, 2, none⟩ (.int .i64 (0))).setCell ⟨c, 0, none⟩ (.int .i64 (s.q))).setCell ⟨c, 1, none⟩ (.int .i64 (s.r))).setCell ⟨c, 4, none⟩ (.int .i64 (0))).setCell ⟨c, 2, none⟩ (.int .i64 (s.r))).setCell ⟨c, 3, none⟩ (.int .i64 (s.e + s.q))) c { s with sh := s.sh + s.n, p := s.q, b := s.r, n := s.r, q := 0, e := s.e + s.q } ∧ Only c w (((((((w.setCell ⟨c, 8, none⟩ (.int .i64 (s.sh + s.n))).setCell ⟨c, 2, none⟩ (.int .i64 (0))).setCell ⟨c, 0, none⟩ (.int .i64 (s.q))).setCell ⟨c, 1, none⟩ (.int .i64 (s.r))).setCell ⟨c, 4, none⟩ (.int .i64 (0))).setCell ⟨c, 2, none⟩ (.int .i64 (s.r))).setCell ⟨c, 3, none⟩ (.int .i64 (s.e + s.q)))) := ⟨(((((((h.set8 _).set2 _).set0 _).set1 _).set4 _).set2 _).set3 _), ((((((Only.set _ _ _ _).trans (Only.set _ _ _ _)).trans (Only.set _ _ _ _)).trans (Only.set _ _ _ _)).trans (Only.set _ _ _ _)).trans (Only.set _ _ _ _)).trans (Only.set _ _ _ _)⟩
      clear h
      go_enter Try.func29, Try.ntmps29
      go_wp2_with fail
      go_region
      all_goals
        go_wp2_with fail
        go_ret2
        exact ⟨rfl, HF.out.1.drew, HF.out.2.drew⟩
end
end Go.Proofs.Ytfjeoefnpcgnnaa.Pw
