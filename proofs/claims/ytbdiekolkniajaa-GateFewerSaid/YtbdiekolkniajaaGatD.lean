/- Rows that are copied: make, then copy. -/
import Derived.Test.YtbdiekolkniajaaGatC
import Derived.Test.YtbdiekolkniajaaGatX
import Derived.Laws.CopyRow
import Derived.Deep.OwnRows
import Derived.Deep.WholeRow
namespace Go.Proofs.Ytbdiekolkniajaa
open Go.RowKit Tk De Dl Gt
set_option linter.unusedVariables false

/-- 'copy' of all of a row over a whole new one -/
theorem run_copy_whole {P : Program} (w : World) (dT sT ty elem : TypeId) (size g n dCap : Nat) (a : Addr) (sCap : Nat) (cur : Array Value) (t : TypeId) (cs : List Value)
    (hu : P.underlying dT = some (.slice elem)) (hs : (P.info? elem).map (·.size) = some size)
    (hg : w.heap[g]? = some (.cells cur t (0, 0))) (hn : cs.length = n * size) (hsz : cur.size = n * size)
    (hsrc : ∀ j v, cs[j]? = some v → w.cell? (a.add j) = some v) (h1 : ∀ v ∈ cs, v.oneCell' = true) :
    (Builtin.copy_ #[dT, sT] ty #[.slice (some ⟨g, 0, none⟩) n dCap, .slice (some a) n sCap]).run P w = .ok (goInt n) (w.setRow g cs.toArray) := by
  have hl := run_loadCells_list (P := P) w a cs hsrc
  have hst := run_storeCells_at P g 0 t cs 0 cur w hg (by omega) h1
  cases hq : P.info? elem with
  | none => simp [hq] at hs
  | some i =>
    have hi : i.size = size := by simpa [hq] using hs
    have e : (cur.toList.take (0 + 0) ++ cs ++ cur.toList.drop (0 + 0 + cs.length)).toArray = cs.toArray := by
      rw [List.drop_of_length_le (by simp; omega)]; simp
    rw [e] at hst
    simp [Builtin.copy_, run_underlying hu, Builtin.lenOf, Builtin.firstCells, sizeOf, typeInfo, hq, hi, ← hn, hl, hst]
theorem run_copy_zero {P : Program} (w : World) (dT sT ty elem : TypeId) (size dCap sCap : Nat) (d : Addr) (hu : P.underlying dT = some (.slice elem)) (hs : (P.info? elem).map (·.size) = some size) :
    (Builtin.copy_ #[dT, sT] ty #[.slice (some d) 0 dCap, .slice none 0 sCap]).run P w = .ok (goInt 0) w := by
  cases hq : P.info? elem with
  | none => simp [hq] at hs
  | some i => simp [Builtin.copy_, run_underlying hu, Builtin.lenOf, Builtin.firstCells, sizeOf, typeInfo, hq, storeCells]
theorem wpList_make_k {P : Program} (w : World) {ops : Array Oper} {rest : List Oper} {o : Oper} {a : Act} {Q : Exit → Act → World → Prop}
    (hg : o.guard = none) (l c : Operand) (t : TypeId) (hop : o.op = Op.makeSlice t l c)
    (e : TypeId) (i : TypeInfo) (z : Value) (ht : P.underlying t = some (.slice e)) (hi : P.info? e = some i) (hz : i.zero = some z)
    (kl kc : IntKind) (n : Nat) (hl : a.eval l = .int kl (n : Int)) (hc : a.eval c = .int kc (n : Int)) (hbytes : i.bytes * n ≤ 281474976710656) (h63 : n ≤ 9223372036854775807)
    (hK : wpList P ops Q rest (a.put o.dst (.slice (some ⟨w.heap.size, 0, none⟩) n n)) (w.alloc (.cells (madeCells z.cells (n * i.size)) e))) :
    wpList P ops Q (o :: rest) a w := by
  refine wpList_plain hg fun K hK' => ?_
  have hb' : (i.bytes : Int) * (n : Int) ≤ 281474976710656 := by
    have h : ((i.bytes * n : Nat) : Int) ≤ 281474976710656 := by omega
    rwa [Int.natCast_mul] at h
  have hr := run_make (P := P) w t e i z ht hi hz kl kc n n (by omega) (Int.le_refl _) hb' (by omega)
  simp only [Int.toNat_natCast] at hr
  unfold Oper.wp
  simp [execOp, hop, hl, hc, hr, Result.andThen]
  exact hK' _ _ hK
theorem wpList_copy_k {P : Program} (w : World) {ops : Array Oper} {rest : List Oper} {o : Oper} {a : Act} {Q : Exit → Act → World → Prop} (hgd : o.guard = none) (d s : Operand) (t t' : TypeId)
    (ho : o.op = .call { callee := .builtin .copy, args := #[d, s], argTypes := #[t, t'] }) (v u : Value) (hd : a.eval d = v) (hs : a.eval s = u) {v' : Value} {w' : World}
    (hr : ∀ ty, (Builtin.copy_ #[t, t'] ty #[v, u]).run P w = .ok v' w') (h : wpList P ops Q rest (a.put o.dst v') w') : wpList P ops Q (o :: rest) a w := by
  refine wpList_plain hgd fun K hK => ?_
  have hr := hr o.type
  unfold Oper.wp execOp
  simp only [ho, resolve, invoke, builtin, Sem.run_bind, Sem.run_pure, Result.andThen_ok, List.map_toArray, List.map_cons, List.map_nil, hd, hs, hr]
  exact hK _ _ h
/-- cells that can be read from an address on -/
def Rd (w : World) (a : Option Addr) (cs : List Value) : Prop := ∀ j v, cs[j]? = some v → ∃ b off, a = some ⟨b, off, none⟩ ∧ w.cell? ⟨b, off + j, none⟩ = some v
theorem Rd.below {w w' : World} {a : Option Addr} {cs : List Value} (h : Rd w a cs) (q : Below w.heap.size w w') : Rd w' a cs := fun j v hj => by
  obtain ⟨b, off, e, hc⟩ := h j v hj
  exact ⟨b, off, e, (q.cell (World.block_lt_of_cell? _ _ hc)).trans hc⟩
/-- what a copy of a list is -/
def CpP (w : World) (t : TypeId) (n : Nat) (cs : List Value) (e : Ending) (w' : World) : Prop := e = .returned (.slice (some ⟨w.heap.size, 0, none⟩) n n) ∧ w' = w.alloc (.cells cs.toArray t)
theorem made_len (z : Array Value) (n : Nat) : (madeCells z n).size = n := by simp [madeCells]
theorem infoBl : (Try.prog.info? 4).map (fun i => (i.zero, i.size, i.bytes)) = some (some (.bool false), 1, 1) := by kernel_rfl
theorem copiedBl {w : World} {a : Option Addr} {cap n : Nat} {cs : List Value} (hn : n ≤ 64) (hl : cs.length = n * 1) (hr : Rd w a cs) (ha : a = none → n = 0) (h1 : ∀ u ∈ cs, u.oneCell' = true) : Calls Try.prog 17 #[.slice a n cap] w (CpP w 4 n cs) := by
  obtain ⟨i0, hi, hz0, hz1, hz2⟩ := info_parts infoBl
  have hsz : (Try.prog.info? 4).map (·.size) = some 1 := by rw [hi]; exact congrArg some hz1
  have hb : i0.bytes * n ≤ 281474976710656 := by rw [hz2]; omega
  have hs2 : (madeCells ((.bool false) : Value).cells (n * i0.size)).size = n * 1 := by rw [made_len, hz1]
  generalize hCur : madeCells ((.bool false) : Value).cells (n * i0.size) = cur at *
  have HR : ∀ ty : TypeId, (Builtin.copy_ #[31, 31] ty #[.slice (some ⟨w.heap.size, 0, none⟩) n n, .slice a n cap]).run Try.prog (w.alloc (.cells cur 4)) = .ok (goInt n) (w.alloc (.cells cs.toArray 4)) := fun ty => by
    cases a with
    | none =>
      obtain rfl := ha rfl
      obtain rfl : cs = [] := List.eq_nil_of_length_eq_zero (by omega)
      obtain rfl : cur = #[] := Array.eq_empty_of_size_eq_zero (by omega)
      exact run_copy_zero (P := Try.prog) _ _ _ _ 4 1 0 cap _ Try.underlying31 hsz
    | some p =>
      refine (run_copy_whole (P := Try.prog) (w.alloc (.cells cur 4)) 31 31 ty 4 1 w.heap.size n n p cap cur 4 cs Try.underlying31 hsz (heap_alloc_new w _) hl hs2 (fun j v hj => ?_) h1).trans ?_
      · obtain ⟨b, off, e, hc⟩ := hr j v hj
        obtain rfl : p = ⟨b, off, none⟩ := by simpa using e
        rw [Addr.add_lit]
        exact ((below_alloc w _).cell (World.block_lt_of_cell? _ _ hc)).trans hc
      · rw [World.setRow_alloc_new]
  have HIH := Lib.hid hi
  have HZH := Lib.hid hz0
  have HBH := Lib.hid hb
  have HCH := Lib.hid hCur
  clear hi hz0 hz1 hz2 hsz hs2 hr ha h1 hCur hb
  go_enter Try.func17, Try.ntmps17
  go_wp2_with (at_make; refine wpList_make_k _ rfl _ _ 31 rfl 4 i0 _ Try.underlying31 HIH.out HZH.out .i64 .i64 n rfl rfl HBH.out (by omega) ?_; rw [HCH.out])
  go_ret
  exact ⟨rfl, rfl⟩
theorem infoPa : (Try.prog.info? 43).map (fun i => (i.zero, i.size, i.bytes)) = some (some (.agg #[.int .i64 0, .int .i64 0, .slice none 0 0]), 3, 40) := by kernel_rfl
theorem copiedPa {w : World} {a : Option Addr} {cap n : Nat} {cs : List Value} (hn : n ≤ 64) (hl : cs.length = n * 3) (hr : Rd w a cs) (ha : a = none → n = 0) (h1 : ∀ u ∈ cs, u.oneCell' = true) : Calls Try.prog 24 #[.slice a n cap] w (CpP w 43 n cs) := by
  obtain ⟨i0, hi, hz0, hz1, hz2⟩ := info_parts infoPa
  have hsz : (Try.prog.info? 43).map (·.size) = some 3 := by rw [hi]; exact congrArg some hz1
  have hb : i0.bytes * n ≤ 281474976710656 := by rw [hz2]; omega
  have hs2 : (madeCells ((.agg #[.int .i64 0, .int .i64 0, .slice none 0 0]) : Value).cells (n * i0.size)).size = n * 3 := by rw [made_len, hz1]
  generalize hCur : madeCells ((.agg #[.int .i64 0, .int .i64 0, .slice none 0 0]) : Value).cells (n * i0.size) = cur at *
  have HR : ∀ ty : TypeId, (Builtin.copy_ #[22, 22] ty #[.slice (some ⟨w.heap.size, 0, none⟩) n n, .slice a n cap]).run Try.prog (w.alloc (.cells cur 43)) = .ok (goInt n) (w.alloc (.cells cs.toArray 43)) := fun ty => by
    cases a with
    | none =>
      obtain rfl := ha rfl
      obtain rfl : cs = [] := List.eq_nil_of_length_eq_zero (by omega)
      obtain rfl : cur = #[] := Array.eq_empty_of_size_eq_zero (by omega)
      exact run_copy_zero (P := Try.prog) _ _ _ _ 43 3 0 cap _ Try.underlying22 hsz
    | some p =>
      refine (run_copy_whole (P := Try.prog) (w.alloc (.cells cur 43)) 22 22 ty 43 3 w.heap.size n n p cap cur 43 cs Try.underlying22 hsz (heap_alloc_new w _) hl hs2 (fun j v hj => ?_) h1).trans ?_
      · obtain ⟨b, off, e, hc⟩ := hr j v hj
        obtain rfl : p = ⟨b, off, none⟩ := by simpa using e
        rw [Addr.add_lit]
        exact ((below_alloc w _).cell (World.block_lt_of_cell? _ _ hc)).trans hc
      · rw [World.setRow_alloc_new]
  have HIH := Lib.hid hi
  have HZH := Lib.hid hz0
  have HBH := Lib.hid hb
  have HCH := Lib.hid hCur
  clear hi hz0 hz1 hz2 hsz hs2 hr ha h1 hCur hb
  go_enter Try.func24, Try.ntmps24
  go_wp2_with (at_make; refine wpList_make_k _ rfl _ _ 22 rfl 43 i0 _ Try.underlying22 HIH.out HZH.out .i64 .i64 n rfl rfl HBH.out (by omega) ?_; rw [HCH.out])
  go_ret
  exact ⟨rfl, rfl⟩
theorem infoPo : (Try.prog.info? 60).map (fun i => (i.zero, i.size, i.bytes)) = some (some (.agg #[.int .i64 0, .int .i64 0, .int .i64 0, .int .i64 0, .int .i64 0, .int .i64 0]), 6, 48) := by kernel_rfl
theorem copiedPo {w : World} {a : Option Addr} {cap n : Nat} {cs : List Value} (hn : n ≤ 64) (hl : cs.length = n * 6) (hr : Rd w a cs) (ha : a = none → n = 0) (h1 : ∀ u ∈ cs, u.oneCell' = true) : Calls Try.prog 25 #[.slice a n cap] w (CpP w 60 n cs) := by
  obtain ⟨i0, hi, hz0, hz1, hz2⟩ := info_parts infoPo
  have hsz : (Try.prog.info? 60).map (·.size) = some 6 := by rw [hi]; exact congrArg some hz1
  have hb : i0.bytes * n ≤ 281474976710656 := by rw [hz2]; omega
  have hs2 : (madeCells ((.agg #[.int .i64 0, .int .i64 0, .int .i64 0, .int .i64 0, .int .i64 0, .int .i64 0]) : Value).cells (n * i0.size)).size = n * 6 := by rw [made_len, hz1]
  generalize hCur : madeCells ((.agg #[.int .i64 0, .int .i64 0, .int .i64 0, .int .i64 0, .int .i64 0, .int .i64 0]) : Value).cells (n * i0.size) = cur at *
  have HR : ∀ ty : TypeId, (Builtin.copy_ #[23, 23] ty #[.slice (some ⟨w.heap.size, 0, none⟩) n n, .slice a n cap]).run Try.prog (w.alloc (.cells cur 60)) = .ok (goInt n) (w.alloc (.cells cs.toArray 60)) := fun ty => by
    cases a with
    | none =>
      obtain rfl := ha rfl
      obtain rfl : cs = [] := List.eq_nil_of_length_eq_zero (by omega)
      obtain rfl : cur = #[] := Array.eq_empty_of_size_eq_zero (by omega)
      exact run_copy_zero (P := Try.prog) _ _ _ _ 60 6 0 cap _ Try.underlying23 hsz
    | some p =>
      refine (run_copy_whole (P := Try.prog) (w.alloc (.cells cur 60)) 23 23 ty 60 6 w.heap.size n n p cap cur 60 cs Try.underlying23 hsz (heap_alloc_new w _) hl hs2 (fun j v hj => ?_) h1).trans ?_
      · obtain ⟨b, off, e, hc⟩ := hr j v hj
        obtain rfl : p = ⟨b, off, none⟩ := by simpa using e
        rw [Addr.add_lit]
        exact ((below_alloc w _).cell (World.block_lt_of_cell? _ _ hc)).trans hc
      · rw [World.setRow_alloc_new]
  have HIH := Lib.hid hi
  have HZH := Lib.hid hz0
  have HBH := Lib.hid hb
  have HCH := Lib.hid hCur
  clear hi hz0 hz1 hz2 hsz hs2 hr ha h1 hCur hb
  go_enter Try.func25, Try.ntmps25
  go_wp2_with (at_make; refine wpList_make_k _ rfl _ _ 23 rfl 60 i0 _ Try.underlying23 HIH.out HZH.out .i64 .i64 n rfl rfl HBH.out (by omega) ?_; rw [HCH.out])
  go_ret
  exact ⟨rfl, rfl⟩
theorem infoTa : (Try.prog.info? 40).map (fun i => (i.zero, i.size, i.bytes)) = some (some (.agg #[.int .i64 0, .int .i64 0, .int .i64 0, .int .i64 0, .int .i64 0, .int .i64 0, .int .i64 0, .int .i64 0]), 8, 64) := by kernel_rfl
theorem copiedTa {w : World} {a : Option Addr} {cap n : Nat} {cs : List Value} (hn : n ≤ 64) (hl : cs.length = n * 8) (hr : Rd w a cs) (ha : a = none → n = 0) (h1 : ∀ u ∈ cs, u.oneCell' = true) : Calls Try.prog 26 #[.slice a n cap] w (CpP w 40 n cs) := by
  obtain ⟨i0, hi, hz0, hz1, hz2⟩ := info_parts infoTa
  have hsz : (Try.prog.info? 40).map (·.size) = some 8 := by rw [hi]; exact congrArg some hz1
  have hb : i0.bytes * n ≤ 281474976710656 := by rw [hz2]; omega
  have hs2 : (madeCells ((.agg #[.int .i64 0, .int .i64 0, .int .i64 0, .int .i64 0, .int .i64 0, .int .i64 0, .int .i64 0, .int .i64 0]) : Value).cells (n * i0.size)).size = n * 8 := by rw [made_len, hz1]
  generalize hCur : madeCells ((.agg #[.int .i64 0, .int .i64 0, .int .i64 0, .int .i64 0, .int .i64 0, .int .i64 0, .int .i64 0, .int .i64 0]) : Value).cells (n * i0.size) = cur at *
  have HR : ∀ ty : TypeId, (Builtin.copy_ #[41, 41] ty #[.slice (some ⟨w.heap.size, 0, none⟩) n n, .slice a n cap]).run Try.prog (w.alloc (.cells cur 40)) = .ok (goInt n) (w.alloc (.cells cs.toArray 40)) := fun ty => by
    cases a with
    | none =>
      obtain rfl := ha rfl
      obtain rfl : cs = [] := List.eq_nil_of_length_eq_zero (by omega)
      obtain rfl : cur = #[] := Array.eq_empty_of_size_eq_zero (by omega)
      exact run_copy_zero (P := Try.prog) _ _ _ _ 40 8 0 cap _ Try.underlying41 hsz
    | some p =>
      refine (run_copy_whole (P := Try.prog) (w.alloc (.cells cur 40)) 41 41 ty 40 8 w.heap.size n n p cap cur 40 cs Try.underlying41 hsz (heap_alloc_new w _) hl hs2 (fun j v hj => ?_) h1).trans ?_
      · obtain ⟨b, off, e, hc⟩ := hr j v hj
        obtain rfl : p = ⟨b, off, none⟩ := by simpa using e
        rw [Addr.add_lit]
        exact ((below_alloc w _).cell (World.block_lt_of_cell? _ _ hc)).trans hc
      · rw [World.setRow_alloc_new]
  have HIH := Lib.hid hi
  have HZH := Lib.hid hz0
  have HBH := Lib.hid hb
  have HCH := Lib.hid hCur
  clear hi hz0 hz1 hz2 hsz hs2 hr ha h1 hCur hb
  go_enter Try.func26, Try.ntmps26
  go_wp2_with (at_make; refine wpList_make_k _ rfl _ _ 41 rfl 40 i0 _ Try.underlying41 HIH.out HZH.out .i64 .i64 n rfl rfl HBH.out (by omega) ?_; rw [HCH.out])
  go_ret
  exact ⟨rfl, rfl⟩
end Go.Proofs.Ytbdiekolkniajaa
