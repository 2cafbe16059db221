/- The program's table of what may be told, in a map; its Check. -/
import Derived.Test.YtoggnofdgmhbmaaActA
import Derived.Maps.Keyed
import Derived.ChangeMaps5
import Derived.Carry
import Derived.Deep.RegionHeld3
namespace Go.Proofs.Ytoggnofdgmhbmaa
open Go.RowKit Ac Go.ChangeMaps Go.MapKept
set_option linter.unusedVariables false

def bv (a b c : Int) : Value := .agg #[.int .i64 a, .int .i64 b, .int .i64 c]
def ent (k : Int) (v : Value) (t : Nat) : MapEntry := { key := .int .i64 k, val := v, born := t }
def rows : List MapEntry := [ent 1 (bv 1 64 0) 0, ent 2 (bv 0 7 0) 1, ent 3 (bv 0 0 0) 2, ent 4 (bv 0 0 0) 3, ent 5 (bv 0 0 0) 4, ent 6 (bv 0 7 16) 5, ent 7 (bv 0 7 0) 6, ent 8 (bv 1 64 0) 7]
def tab (n : Nat) : Array MapEntry := (rows.take n).toArray
theorem put_any {w0 w : World} {b : Nat} {n : Nat} {k : Int} {v : Value} (hw : Below w0.heap.size w0 w) (h0 : w0.heap.size ≤ b) (hb : w.heap[b]? = some (.map (tab n) n)) (hf : Instr.findNow (.int .i64) (.int .i64 k) (tab n).toList 0 = some none) (hn : (tab n).push (ent k v n) = tab (n + 1)) :
    ∃ w', (Instr.mapUpdate 83 (.map (some b)) (.int .i64 k) v).run Try.prog w = .ok () w' ∧ w'.heap[b]? = some (.map (tab (n + 1)) (n + 1)) ∧ Below w0.heap.size w0 w' := by
  refine ⟨setBlock w b (.map ((tab n).push (ent k v n)) (n + 1)), ?_, ?_, ?_⟩
  · simp [Instr.mapUpdate, run_underlying Try.underlying83, MapKept.run_getObj_map hb, run_checkKey Try.underlying3 (k := .int .i64 k) rfl, run_findKey Try.underlying3 hf, MapKept.run_setObj_map _ hb, Result.andThen, setBlock, ent]
  · rw [heap_setBlock_same hb, hn]
  · refine ⟨hw.os, hw.tape, hw.output, ?_, fun j hj => ?_⟩
    · have := hw.size; simp [setBlock]; exact this
    · rw [heap_setBlock_other hb _ (show j ≠ b by omega)]
      exact hw.block j hj
theorem look_yes {w : World} {b : Nat} (hb : w.heap[b]? = some (.map (tab 8) 8)) {k x y z : Int} (h : bnd k = some (x, y, z)) :
    (Instr.lookup 83 (.map (some b)) (.int .i64 k) true).run Try.prog w = .ok (.tuple #[.agg #[.int .i64 x, .int .i64 y, .int .i64 z], .bool true]) w := by
  have hf : ∃ i, Instr.findNow (.int .i64) (.int .i64 k) (tab 8).toList 0 = some (some (i, bv x y z)) := by
    rcases kinds k with rfl | rfl | rfl | rfl | rfl | rfl | rfl | rfl | q
    all_goals first
      | (rw [bnd_none q] at h; cases h; done)
      | (have e : (x, y, z) = _ := (Option.some.inj h).symm
         first
           | (simp [bnd] at h; obtain ⟨rfl, rfl, rfl⟩ := h; exact ⟨_, rfl⟩))
  obtain ⟨i, hf⟩ := hf
  simp [Instr.lookup, run_underlying Try.underlying83, MapKept.run_getObj_map hb, run_checkKey Try.underlying3 (k := .int .i64 k) rfl, run_findKey Try.underlying3 hf, Result.andThen, bv]
theorem look_no {w : World} {b : Nat} (hb : w.heap[b]? = some (.map (tab 8) 8)) {k : Int} (h : bnd k = none) :
    (Instr.lookup 83 (.map (some b)) (.int .i64 k) true).run Try.prog w = .ok (.tuple #[.agg #[.int .i64 0, .int .i64 0, .int .i64 0], .bool false]) w := by
  have hf : Instr.findNow (.int .i64) (.int .i64 k) (tab 8).toList 0 = some none := by
    rcases kinds k with rfl | rfl | rfl | rfl | rfl | rfl | rfl | rfl | q
    all_goals first
      | (simp [bnd] at h; done)
      | (obtain ⟨q1, q2, q3, q4, q5, q6, q7, q8⟩ := q
         simp [Instr.findNow, Instr.sameNow, tab, rows, ent, q1, q2, q3, q4, q5, q6, q7, q8])
  simp [Instr.lookup, run_underlying Try.underlying83, MapKept.run_getObj_map hb, run_checkKey Try.underlying3 (k := .int .i64 k) rfl, run_findKey Try.underlying3 hf, Result.andThen]
/-- the table is answered -/
def BdP (w : World) (e : Ending) (w' : World) : Prop := ∃ B, e = .returned (.map (some B)) ∧ w.heap.size ≤ B ∧ w'.heap[B]? = some (.map (tab 8) 8) ∧ Below w.heap.size w w'
set_option maxHeartbeats 2000000 in
theorem bounds_any (w : World) : Calls Try.prog 59 #[] w (BdP w) := by
  have hmm := @run_makeMap Try.prog
  obtain ⟨w1, r1, b1, l1⟩ := put_any (w0 := w) (w := w.alloc (.map #[] 0)) (b := w.heap.size) (n := 0) (k := 1) (v := bv 1 64 0) ((Below.refl _ _).alloc (Nat.le_refl _) _) (Nat.le_refl _) (MapKept.heap_alloc w _).1 rfl rfl
  obtain ⟨w2, r2, b2, l2⟩ := put_any (k := 2) (v := bv 0 7 0) l1 (Nat.le_refl _) b1 rfl rfl
  obtain ⟨w3, r3, b3, l3⟩ := put_any (k := 3) (v := bv 0 0 0) l2 (Nat.le_refl _) b2 rfl rfl
  obtain ⟨w4, r4, b4, l4⟩ := put_any (k := 4) (v := bv 0 0 0) l3 (Nat.le_refl _) b3 rfl rfl
  obtain ⟨w5, r5, b5, l5⟩ := put_any (k := 5) (v := bv 0 0 0) l4 (Nat.le_refl _) b4 rfl rfl
  obtain ⟨w6, r6, b6, l6⟩ := put_any (k := 6) (v := bv 0 7 16) l5 (Nat.le_refl _) b5 rfl rfl
  obtain ⟨w7, r7, b7, l7⟩ := put_any (k := 7) (v := bv 0 7 0) l6 (Nat.le_refl _) b6 rfl rfl
  obtain ⟨w8, r8, b8, l8⟩ := put_any (k := 8) (v := bv 1 64 0) l7 (Nat.le_refl _) b7 rfl rfl
  have H := Lib.hid (show BdP w (.returned (.map (some w.heap.size))) w8 from ⟨_, rfl, Nat.le_refl _, b8, l8⟩)
  simp only [bv] at r1 r2 r3 r4 r5 r6 r7 r8
  clear b1 b2 b3 b4 b5 b6 b7 b8 l1 l2 l3 l4 l5 l6 l7 l8
  go_enter Try.func59, Try.ntmps59
  go_wp2_with fail
  go_ret
  exact H.out
/-- an act, by value -/
def av (x : Ak) : Value := .agg #[.int .i64 x.k, .int .i64 x.n, .string x.s]
end Go.Proofs.Ytoggnofdgmhbmaa
