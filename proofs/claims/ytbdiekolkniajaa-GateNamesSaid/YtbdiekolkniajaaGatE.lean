/- Who is cleared: a copy of partitions of which those that are not in are cleared. -/
import Derived.Test.YtbdiekolkniajaaGatD
import Derived.Laws.CopyOwn
namespace Go.Proofs.Ytbdiekolkniajaa
open Go.RowKit Tk De Dl Gt
set_option linter.unusedVariables false

/-- partitions that can be read, each with its tasks' value -/
structure PL (w : World) (a : Option Addr) (l : List (Pn × Value)) : Prop where
  rd : Rd w a (pcells l)
  nn : a = none → l.length = 0
  t : ∀ q ∈ l, TK w q.2 q.1.n q.1.z ∧ q.1.n ≤ 2199023255552
theorem PL.below {w w' : World} {a : Option Addr} {l : List (Pn × Value)} (h : PL w a l) (q : Below w.heap.size w w') : PL w' a l := ⟨h.rd.below q, h.nn, fun x hx => ⟨(h.t x hx).1.below q, (h.t x hx).2⟩⟩
theorem pcells_all {Q : Value → Prop} : ∀ {l : List (Pn × Value)}, (∀ q ∈ l, Q (.int .i64 q.1.per) ∧ Q (.int .i64 q.1.bud) ∧ Q q.2) → ∀ u ∈ pcells l, Q u
  | [], _, u, hu => by cases hu
  | (p, v) :: r, h, u, hu => by
    have h0 := h (p, v) (List.mem_cons.2 (Or.inl rfl))
    simp only [pcells, List.mem_cons] at hu
    rcases hu with rfl | rfl | rfl | hu
    · exact h0.1
    · exact h0.2.1
    · exact h0.2.2
    · exact pcells_all (fun q hq => h q (List.mem_cons.2 (Or.inr hq))) u hu
theorem TK.one {w : World} {v : Value} {n : Nat} {z : Nat → Nat → Int} (h : TK w v n z) : v.oneCell' = true := by
  obtain ⟨a, cap, rfl, _⟩ := h
  rfl
theorem PL.ones {w : World} {a : Option Addr} {l : List (Pn × Value)} (h : PL w a l) : ∀ u ∈ pcells l, u.oneCell' = true := pcells_all fun q hq => ⟨rfl, rfl, TK.one (h.t q hq).1⟩
theorem PS.pl {w : World} {a : Option Addr} {n cap : Nat} {ps : List Pn} (h : PS w (.slice a n cap) ps) : ∃ l : List (Pn × Value), l.map (·.1) = ps ∧ PL w a l := by
  obtain ⟨a', cap', e, h1, h2, h3, h4⟩ := h
  obtain ⟨rfl, rfl, rfl⟩ : a = a' ∧ n = ps.length ∧ cap = cap' := by simpa using e
  by_cases h0 : 0 < ps.length
  · obtain ⟨b, off, rfl, hc⟩ := h4 h0
    have hx : ∀ i, ∃ tv : Value, i < ps.length → (w.cell? ⟨b, off + i * 3, none⟩ = some (.int .i64 (ps.getD i p0).per) ∧ w.cell? ⟨b, off + i * 3 + 1, none⟩ = some (.int .i64 (ps.getD i p0).bud) ∧ w.cell? ⟨b, off + i * 3 + 2, none⟩ = some tv ∧ TK w tv (ps.getD i p0).n (ps.getD i p0).z ∧ (ps.getD i p0).n ≤ 2199023255552) := fun i => by
      by_cases hi : i < ps.length
      · obtain ⟨c1, c2, tv, c3, c4, c5⟩ := hc i hi
        exact ⟨tv, fun _ => ⟨c1, c2, c3, c4, c5⟩⟩
      · exact ⟨.bool false, fun h => absurd h hi⟩
    obtain ⟨tv, htv⟩ := Classical.axiomOfChoice hx
    have hat : ∀ i, i < ps.length → ((List.range ps.length).map fun i => (ps.getD i p0, tv i)).getD i pr0 = (ps.getD i p0, tv i) := fun i hi => by simp [List.getD, hi]
    refine ⟨(List.range ps.length).map fun i => (ps.getD i p0, tv i), ?_, fun j v hj => ?_, (fun h => by cases h), fun q hq => ?_⟩
    · apply List.ext_getElem
      · simp
      · intro i h1 h2
        simp [List.getD, List.getElem?_eq_getElem h2]
    · refine ⟨b, off, rfl, ?_⟩
      have hlt : j < ps.length * 3 := by
        have := (List.getElem?_eq_some_iff.1 hj).1
        rw [pcells_len] at this; simpa using this
      have hi : j / 3 < ps.length := by omega
      obtain ⟨a0, a1, a2⟩ := pcells_at (l := (List.range ps.length).map fun i => (ps.getD i p0, tv i)) (i := j / 3) (by simpa using hi)
      rw [hat _ hi] at a0 a1 a2
      obtain ⟨c1, c2, c3, _, _⟩ := htv _ hi
      have hm : j = j / 3 * 3 ∨ j = j / 3 * 3 + 1 ∨ j = j / 3 * 3 + 2 := by omega
      rcases hm with hm | hm | hm
      · rw [← hm] at a0 c1
        rw [a0] at hj
        obtain rfl := Option.some.inj hj
        have e : off + j / 3 * 3 = off + j := by omega
        rw [← hm] at e
        exact c1
      · rw [← hm] at a1
        rw [a1] at hj
        obtain rfl := Option.some.inj hj
        have e : off + j / 3 * 3 + 1 = off + j := by omega
        rw [e] at c2
        exact c2
      · rw [← hm] at a2
        rw [a2] at hj
        obtain rfl := Option.some.inj hj
        have e : off + j / 3 * 3 + 2 = off + j := by omega
        rw [e] at c3
        exact c3
    · obtain ⟨i, hi, rfl⟩ := List.mem_map.1 hq
      have := htv i (by simpa using hi)
      exact ⟨this.2.2.2.1, this.2.2.2.2⟩
  · obtain rfl : ps = [] := List.eq_nil_of_length_eq_zero (by omega)
    exact ⟨[], rfl, fun j v hj => by simp [pcells] at hj, fun _ => rfl, fun q hq => by cases hq⟩
/-! those that are not in, cleared -/
def pz : Pn × Value := (⟨0, 0, 0, fun _ _ => 0⟩, .slice none 0 0)
def clr : List (Pn × Value) → List Bool → List (Pn × Value)
  | q :: l, true :: b => q :: clr l b
  | _ :: l, false :: b => pz :: clr l b
  | l, [] => l
  | [], _ :: _ => []
theorem clr_len : ∀ {l : List (Pn × Value)} {b : List Bool}, (clr l b).length = l.length
  | [], [] => rfl
  | [], _ :: _ => rfl
  | _ :: _, [] => rfl
  | q :: l, true :: b => by simp [clr, clr_len (l := l) (b := b)]
  | q :: l, false :: b => by simp [clr, clr_len (l := l) (b := b)]
theorem clr_nil : ∀ l : List (Pn × Value), clr l [] = l
  | [] => rfl
  | _ :: _ => rfl
theorem clr_step : ∀ {l : List (Pn × Value)} {b : List Bool} {k : Nat}, k < l.length → k < b.length → clr l (b.take (k + 1)) = if b.getD k false then clr l (b.take k) else (clr l (b.take k)).set k pz
  | [], _, _, h, _ => by cases h
  | _ :: _, [], _, _, h => by cases h
  | q :: l, x :: b, 0, _, _ => by
    cases x
    · simp [clr, clr_nil]
    · simp [clr, clr_nil]
  | q :: l, x :: b, k + 1, h1, h2 => by
    have ih := clr_step (l := l) (b := b) (k := k) (by simpa using h1) (by simpa using h2)
    rw [List.take_succ_cons, List.take_succ_cons, List.getD_cons_succ]
    cases x
    · simp only [clr, ih]
      split <;> simp
    · simp only [clr, ih]
      split <;> simp
theorem pcells_set : ∀ {l : List (Pn × Value)} {k : Nat} (q : Pn × Value), k < l.length → pcells (l.set k q) = (pcells l).take (k * 3) ++ [.int .i64 q.1.per, .int .i64 q.1.bud, q.2] ++ (pcells l).drop (k * 3 + 3)
  | [], _, _, h => by cases h
  | (p, v) :: r, 0, q, _ => by simp [pcells]
  | (p, v) :: r, k + 1, q, h => by
    have ih := pcells_set (l := r) (k := k) q (by simpa using h)
    have e1 : (k + 1) * 3 = k * 3 + 1 + 1 + 1 := by omega
    have e2 : (k + 1) * 3 + 3 = (k * 3 + 3) + 1 + 1 + 1 := by omega
    rw [e2, e1]
    simp only [List.set_cons_succ, pcells, ih, List.take_succ_cons, List.drop_succ_cons, List.cons_append]
/-- partitions in a block of the call's own -/
def PB_ (W : World) (g : Nat) (l : List (Pn × Value)) : Prop := W.heap[g]? = some (.cells (pcells l).toArray 43 (0, 0))
theorem run_clear_one (W : World) (g k c : Nat) (l : List (Pn × Value)) (hk : k < l.length) (h : PB_ W g l) (ty : TypeId) :
    (Builtin.clear_ #[22] ty #[.slice (some ⟨g, k * 3, none⟩) 1 c]).run Try.prog W = .ok (.tuple #[]) (W.setRow g (pcells (l.set k pz)).toArray) := by
  obtain ⟨i0, hi, hz0, hz1, hz2⟩ := info_parts infoPa
  have hst := run_storeCells_at Try.prog g (k * 3) 43 [.int .i64 0, .int .i64 0, .slice none 0 0] 0 _ W h (by simp [pcells_len]; omega) (by intro v hv; simp at hv; rcases hv with rfl | rfl <;> rfl)
  have e := pcells_set (l := l) (k := k) pz hk
  unfold pz at e ⊢
  dsimp only at e
  rw [e]
  simp only [Nat.add_zero, List.length_cons, List.length_nil] at hst
  have hu : Try.prog.underlying 22 = some (.slice 43) := Try.underlying22
  have hzc : (Builtin.zeroCells (Value.agg #[Value.int .i64 0, Value.int .i64 0, Value.slice none 0 0]).cells 1).toList = [Value.int .i64 0, Value.int .i64 0, Value.slice none 0 0] := by kernel_rfl
  simp [Builtin.clear_, run_underlying hu, zeroValue, typeInfo, hi, hz0, hzc, hst]
theorem BV.at {w : World} {a : Option Addr} {n c : Nat} {b : List Bool} (h : BV w (.slice a n c) b) {i : Nat} (hi : i < n) : ∃ g off, a = some ⟨g, off, none⟩ ∧ w.cell? ⟨g, off + i, none⟩ = some (.bool (b.getD i false)) := by
  obtain ⟨a', c', e, h1, h2, h3⟩ := h
  obtain ⟨rfl, rfl, rfl⟩ : a = a' ∧ n = b.length ∧ c = c' := by simpa using e
  obtain ⟨g, off, e2, hc⟩ := h3 (by omega)
  exact ⟨g, off, e2, hc i hi⟩
/-- what cleared answers -/
def ClrP (w : World) (l : List (Pn × Value)) (b : List Bool) (e : Ending) (w' : World) : Prop := e = .returned (.slice (some ⟨w.heap.size, 0, none⟩) l.length l.length) ∧ PB_ w' w.heap.size (clr l b) ∧ Below w.heap.size w w'
set_option maxHeartbeats 1000000 in
theorem cleared_any {w : World} {a : Option Addr} {cap : Nat} {l : List (Pn × Value)} {u : Value} {b : List Bool} (h : PL w a l) (hu : BV w u b) (hn : l.length ≤ 4) (hb : b.length = l.length) : Calls Try.prog 21 #[.slice a l.length cap, u] w (ClrP w l b) := by
  obtain ⟨bp, bc, rfl, hb1, hb2⟩ := hu.slice
  have HC := Lib.hid (copiedPa (cap := cap) (n := l.length) (by omega) (pcells_len l) h.rd h.nn h.ones)
  rw [hb] at hu hb1 ⊢
  obtain ⟨n, hnn⟩ : ∃ n, n = l.length := ⟨_, rfl⟩
  have HN := Lib.hid hnn
  have HBL := Lib.hid hb
  unfold ClrP
  rw [← hnn] at hn hb1 HC hu ⊢
  have HBV := Lib.hid hu
  obtain ⟨g, hg⟩ : ∃ g, g = w.heap.size := ⟨_, rfl⟩
  have HG := Lib.hid hg
  have HA : Hid (PB_ (w.alloc (.cells (pcells l).toArray 43)) g (clr l (b.take 0)) ∧ Below g w (w.alloc (.cells (pcells l).toArray 43))) := by
    rw [hg]
    refine ⟨?_, below_alloc w _⟩
    rw [List.take_zero, clr_nil]
    exact heap_alloc_new w _
  unfold CpP at HC
  clear h hu hnn hb hg
  go_enter Try.func21, Try.ntmps21
  go_wp2_with fail
  refine HC.out.mono ?_
  rintro e w1 ⟨rfl, rfl⟩
  rw [← HG.out]
  go_wp2_with fail
  go_loopw [12] (fun i wr => ∃ k : Nat, k ≤ n ∧ i = .int .i64 k ∧ Hid (PB_ wr g (clr l (b.take k)) ∧ Below g w wr)) (fun i _ => n - (intOf i).toNat)
  case atStart => exact ⟨0, by omega, rfl, HA.out⟩
  case round =>
    clear HA HC
    obtain ⟨k, hk, rfl, HS⟩ := hrel
    by_cases hlt : k < n
    · obtain ⟨bg, bo, rfl, hc⟩ := (HBV.out.below (by rw [← HG.out]; exact HS.out.2)).at hlt
      have HST := Lib.hid (clr_step (l := l) (b := b) (k := k) (by rw [← HN.out]; exact hlt) (by rw [HBL.out, ← HN.out]; exact hlt))
      generalize b.getD k false = x at *
      cases x with
      | true =>
        have HS2 : Hid (PB_ wr g (clr l (b.take (k + 1))) ∧ Below g w wr) := by rw [HST.out, if_pos rfl]; exact HS.out
        go_wp2_with fail
        go_roundw
        case rel => exact ⟨k + 1, by omega, by go_num, HS2⟩
        case measure => simp [intOf]; omega
      | false =>
        have HR := fun ty => run_clear_one wr g k (n - k) (clr l (b.take k)) (by rw [clr_len, ← HN.out]; exact hlt) HS.out.1 ty
        have HS2 : Hid (PB_ (wr.setRow g (pcells ((clr l (b.take k)).set k pz)).toArray) g (clr l (b.take (k + 1))) ∧ Below g w (wr.setRow g (pcells ((clr l (b.take k)).set k pz)).toArray)) := by
          rw [HST.out, if_neg (by simp)]
          exact ⟨setRow_heap _ _ _ _ _ _ HS.out.1, below_setRow HS.out.2 (Nat.le_refl _) _⟩
        go_wp2_with fail
        go_roundw
        case rel => exact ⟨k + 1, by omega, by go_num, HS2⟩
        case measure => simp [intOf]; omega
    · obtain rfl : k = n := by omega
      have HF : Hid (PB_ wr g (clr l b) ∧ Below g w wr) := by
        have := HS.out
        rw [List.take_of_length_le (by rw [HBL.out, ← HN.out]; exact Nat.le_refl _)] at this
        exact this
      clear HS
      go_wp2_with fail
      go_ret
      rw [← HG.out]
      exact ⟨rfl, HF.out.1, HF.out.2⟩
end Go.Proofs.Ytbdiekolkniajaa
