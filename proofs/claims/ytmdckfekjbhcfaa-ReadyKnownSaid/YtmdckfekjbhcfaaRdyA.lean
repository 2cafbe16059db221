/- The program's queue in memory: New, Put, Remove, First, Deadline. -/
import Derived.Test.YtmdckfekjbhcfaaWalksE
import Derived.Test.YtmdckfekjbhcfaaRdyP
namespace Go.Proofs.Ytmdckfekjbhcfaa
open Go.RowKit Rk Rd
set_option linter.unusedVariables false

/-- a queue at block qb, whose rank is at rb, stands for the row L -/
structure QS (w : World) (qb rb hb g : Nat) (L : List Int) : Prop where
  q : w.heap[qb]? = some (.cells #[.pointer (some ⟨rb, 0, none⟩), .int .i64 L.length] 52 (0, 0))
  k : RK w rb hb g (srt L).length (mp L)
  ok : Gd L
  n1 : qb ≠ hb
  n2 : qb ≠ g
theorem QS.c0 {w : World} {qb rb hb g : Nat} {L : List Int} (h : QS w qb rb hb g L) : w.cell? ⟨qb, 0, none⟩ = some (.pointer (some ⟨rb, 0, none⟩)) := cell_of_row _ _ 0 _ _ _ h.q
theorem QS.c1 {w : World} {qb rb hb g : Nat} {L : List Int} (h : QS w qb rb hb g L) : w.cell? ⟨qb, 1, none⟩ = some (.int .i64 L.length) := cell_of_row _ _ 1 _ _ _ h.q
theorem QS.lt {w : World} {qb rb hb g : Nat} {L : List Int} (h : QS w qb rb hb g L) : qb < w.heap.size := lt_of_heap h.q
theorem QS.sz {w : World} {qb rb hb g : Nat} {L : List Int} (h : QS w qb rb hb g L) : (srt L).length ≤ 100000 := by have := srt_len L; have := h.ok.len; omega
theorem QS.keep {w w' : World} {qb rb hb g : Nat} {L : List Int} (h : QS w qb rb hb g L) (e0 : w'.heap[qb]? = w.heap[qb]?) (e1 : w'.heap[rb]? = w.heap[rb]?) (e2 : w'.heap[hb]? = w.heap[hb]?) (e3 : w'.heap[g]? = w.heap[g]?) : QS w' qb rb hb g L :=
  ⟨e0.trans h.q, h.k.keep e1 e2 e3, h.ok, h.n1, h.n2⟩
theorem QS.only {S : Nat → Prop} {w w' : World} {qb rb hb g : Nat} {L : List Int} (h : QS w qb rb hb g L) (o : Only S w w') (h0 : ¬ S qb) (h1 : ¬ S rb) (h2 : ¬ S hb) (h3 : ¬ S g) : QS w' qb rb hb g L :=
  h.keep (o.block _ h.lt h0) (o.block _ h.k.lt0 h1) (o.block _ h.k.lt1 h2) (o.block _ h.k.lt2 h3)
theorem QS.below {w w' : World} {qb rb hb g : Nat} {L : List Int} (h : QS w qb rb hb g L) (b : Below w.heap.size w w') : QS w' qb rb hb g L :=
  h.keep (b.block _ h.lt) (b.block _ h.k.lt0) (b.block _ h.k.lt1) (b.block _ h.k.lt2)
/-- a call of a queue: an answer; the queue behind it -/
def QP (v : Value) (qb rb hb g : Nat) (L : List Int) (w : World) (e : Ending) (w' : World) : Prop :=
  e = .returned v ∧ (∃ g', QS w' qb rb hb g' L ∧ (g' = g ∨ w.heap.size ≤ g')) ∧ Only (Two hb g) w w'
theorem QP.same {v : Value} {qb rb hb g : Nat} {L : List Int} {w : World} (h : QS w qb rb hb g L) : QP v qb rb hb g L w (.returned v) w := ⟨rfl, ⟨g, h, Or.inl rfl⟩, Only.refl _ _⟩
theorem QS.op {v u : Value} {e : Ending} {qb rb hb g : Nat} {L L' : List Int} {w w' : World} (h : QS w qb rb hb g L) (ok : Gd L') (hl : L'.length = L.length) (o : OpP v rb hb g (srt L').length (mp L') w e w') : QP u qb rb hb g L' w (.returned u) w' := by
  obtain ⟨_, ⟨g', h1, h2⟩, h3⟩ := o
  have hlt := h.lt
  refine ⟨rfl, ⟨g', ⟨?_, h1, ok, h.n1, ?_⟩, h2⟩, h3⟩
  · rw [hl]
    exact (h3.block qb hlt (by rintro (e | e); · exact h.n1 e
                               · exact h.n2 e)).trans h.q
  · rcases h2 with rfl | h2
    · exact h.n2
    · omega

/-- a pointer is answered, nothing has turned -/
def IsV (v : Value) (w : World) (e : Ending) (w' : World) : Prop := e = .returned v ∧ w = w'
theorem kept_cell {w : World} {qb : Nat} {v : Value} (c0 : w.cell? ⟨qb, 0, none⟩ = some v) : Calls Try.prog 23 #[.pointer (some ⟨qb, 0, none⟩)] w (IsV v w) := by
  go_enter Try.func23, Try.ntmps23
  go_wp2_with fail
  go_ret
  exact ⟨rfl, rfl⟩
theorem kept_nil (w : World) : Calls Try.prog 23 #[.pointer none] w (IsV (.pointer none) w) := by
  go_enter Try.func23, Try.ntmps23
  go_wp2_with fail
  go_ret
  exact ⟨rfl, rfl⟩

set_option maxHeartbeats 2000000 in
theorem qput_any {w : World} {qb rb hb g : Nat} {L : List Int} (h : QS w qb rb hb g L) (t d : Int) : Calls Try.prog 10 #[.pointer (some ⟨qb, 0, none⟩), .int .i64 t, .int .i64 d] w (QP (.int .i64 (qE L t d)) qb rb hb g (qL L t d) w) := by
  have c0 := h.c0
  have c1 := h.c1
  have HK := Lib.hid (kept_cell c0)
  have hlen := h.ok.len
  have H := Lib.hid h
  obtain ⟨N, hN⟩ : ∃ N : Nat, N = L.length := ⟨_, rfl⟩
  have HPUT := Lib.hid (put_any w rb hb g (srt L).length (mp L) t d h.k h.sz)
  rcases qE_cases L t d with ⟨q1, q⟩ | ⟨q1, q2, q3, q⟩ | ⟨q1, q2, q3, q4, q5, q⟩ | ⟨q1, q2, q3, q4, q5, q⟩
  · have e1 : qL L t d = L := if_neg (by rw [q]; decide)
    rw [q, e1]
    rw [← hN] at c1 q1 hlen
    clear h q e1 HPUT
    rcases Int.lt_or_le t 0 with q2 | q2
    · have d1 : decide (t < 0) = true := by simpa using q2
      go_enter Try.func10, Try.ntmps10
      go_wp2_with fail
      refine HK.out.mono ?_
      rintro e w' ⟨rfl, rfl⟩
      go_wp2_with fail
      go_ret
      exact QP.same H.out
    · have d1 : decide (t < 0) = false := by simpa using q2
      have d2 : decide ((N : Int) ≤ t) = true := by simp; omega
      go_enter Try.func10, Try.ntmps10
      go_wp2_with fail
      refine HK.out.mono ?_
      rintro e w' ⟨rfl, rfl⟩
      go_wp2_with fail
      go_ret
      exact QP.same H.out
  · have e1 : qL L t d = L := if_neg (by rw [q]; decide)
    rw [q, e1]
    rw [← hN] at c1 q2 hlen
    clear h q e1 HPUT
    have d1 : decide (t < 0) = false := by simpa using q1
    have d2 : decide ((N : Int) ≤ t) = false := by simp; omega
    rcases Int.lt_or_le d 0 with q4 | q4
    · have d3 : decide (d < 0) = true := by simpa using q4
      go_enter Try.func10, Try.ntmps10
      go_wp2_with fail
      refine HK.out.mono ?_
      rintro e w' ⟨rfl, rfl⟩
      go_wp2_with fail
      go_ret
      exact QP.same H.out
    · have d3 : decide (d < 0) = false := by simpa using q4
      have d4 : decide (1099511627840 < d) = true := by simp; omega
      go_enter Try.func10, Try.ntmps10
      go_wp2_with fail
      refine HK.out.mono ?_
      rintro e w' ⟨rfl, rfl⟩
      go_wp2_with fail
      go_ret
      exact QP.same H.out
  · have e1 : qL L t d = L := if_neg (by rw [q]; decide)
    obtain ⟨p1, p2, p3⟩ := put_busy (m := mp L) (id := t) d (srt L).length (by omega) (mp_some q5)
    rw [p1, p2, p3] at HPUT
    rw [q, e1]
    rw [← hN] at c1 q2 hlen
    have d1 : decide (t < 0) = false := by simpa using q1
    have d2 : decide ((N : Int) ≤ t) = false := by simp; omega
    have d3 : decide (d < 0) = false := by simpa using q3
    have d4 : decide (1099511627840 < d) = false := by simpa using q4
    clear h q e1 p1 p2 p3 q5
    go_enter Try.func10, Try.ntmps10
    go_wp2_with fail
    refine HK.out.mono ?_
    rintro e w' ⟨rfl, rfl⟩
    go_wp2_with fail
    refine HPUT.out.mono ?_
    intro e w' hpp
    have HF := Lib.hid hpp
    obtain ⟨rfl, _⟩ := hpp
    go_wp2_with fail
    go_ret
    exact H.out.op H.out.ok rfl HF.out
  · have e1 : qL L t d = L.set t.toNat d := if_pos q
    obtain ⟨p1, p2, p3⟩ := put_ok (m := mp L) (id := t) d (srt L).length (by omega) (mp_none q5)
    rw [p1, p2, p3, ← mp_set q1 q2 q3, ← len_put q1 q2 q3 q5] at HPUT
    have HG := Lib.hid (h.ok.put t d)
    rw [e1] at HG
    rw [q, e1]
    rw [← hN] at c1 q2 hlen
    have d1 : decide (t < 0) = false := by simpa using q1
    have d2 : decide ((N : Int) ≤ t) = false := by simp; omega
    have d3 : decide (d < 0) = false := by simpa using q3
    have d4 : decide (1099511627840 < d) = false := by simpa using q4
    clear h q e1 p1 p2 p3 q5
    go_enter Try.func10, Try.ntmps10
    go_wp2_with fail
    refine HK.out.mono ?_
    rintro e w' ⟨rfl, rfl⟩
    go_wp2_with fail
    refine HPUT.out.mono ?_
    intro e w' hpp
    have HF := Lib.hid hpp
    obtain ⟨rfl, _⟩ := hpp
    go_wp2_with fail
    go_ret
    exact H.out.op HG.out (by simp) HF.out
theorem qrem_any {w : World} {qb rb hb g : Nat} {L : List Int} (h : QS w qb rb hb g L) (t : Int) : Calls Try.prog 12 #[.pointer (some ⟨qb, 0, none⟩), .int .i64 t] w (QP (.bool (decide (0 ≤ dl L t))) qb rb hb g (rmL L t) w) := by
  have HK := Lib.hid (kept_cell h.c0)
  have HR := Lib.hid (rem_any w rb hb g (srt L).length (mp L) t h.k h.sz)
  rw [mp_isSome, ← mp_rm] at HR
  have e1 : remN (mp L) t (srt L).length = (srt (rmL L t)).length := by
    unfold remN
    rw [mp_isSome]
    by_cases q : 0 ≤ dl L t
    · rw [if_pos (by simpa using q)]
      have := len_rm q
      omega
    · rw [if_neg (by simpa using q)]
      unfold rmL
      rw [if_neg q]
  rw [e1] at HR
  have HG := Lib.hid (h.ok.rm t)
  have H := Lib.hid h
  generalize decide (0 ≤ dl L t) = b at *
  clear h e1
  go_enter Try.func12, Try.ntmps12
  go_wp2_with fail
  refine HK.out.mono ?_
  rintro e w' ⟨rfl, rfl⟩
  go_wp2_with fail
  refine HR.out.mono ?_
  intro e w' hpp
  have HF := Lib.hid hpp
  obtain ⟨rfl, _⟩ := hpp
  go_wp2_with fail
  go_ret
  exact H.out.op HG.out (rmL_len L t) HF.out
theorem qfirst_any {w : World} {qb rb hb g : Nat} {L : List Int} (h : QS w qb rb hb g L) : Calls Try.prog 19 #[.pointer (some ⟨qb, 0, none⟩)] w (Fst (fs L).1 (fs L).2 (decide (0 < (srt L).length)) w) := by
  have HK := Lib.hid (kept_cell h.c0)
  have HF : Hid (Calls Try.prog 30 #[.pointer (some ⟨rb, 0, none⟩)] w (Fst (fs L).1 (fs L).2 (decide (0 < (srt L).length)) w)) := by
    have hk := h.k
    by_cases h0 : 0 < (srt L).length
    · rw [decide_eq_true h0]
      exact first_some w rb hb g _ _ (fs L) hk h0 (fs_is h0)
    · have h1 : (srt L).length = 0 := by omega
      rw [decide_eq_false h0, fs_none h1]
      rw [h1] at hk
      exact first_none w rb hb g _ hk
  generalize decide (0 < (srt L).length) = b at *
  generalize fs L = x at *
  obtain ⟨x1, x2⟩ := x
  dsimp only at HF ⊢
  clear h
  go_enter Try.func19, Try.ntmps19
  go_wp2_with fail
  refine HK.out.mono ?_
  rintro e w' ⟨rfl, rfl⟩
  go_wp2_with fail
  refine HF.out.mono ?_
  rintro e w' ⟨rfl, hb'⟩
  have HB := Lib.hid hb'
  clear hb'
  go_wp2_with fail
  go_ret3
  exact ⟨rfl, HB.out⟩
/-- a task's deadline; 0, if it has no job -/
def dk (L : List Int) (t : Int) : Int := if 0 ≤ dl L t then dl L t else 0
theorem qdl_any {w : World} {qb rb hb g : Nat} {L : List Int} (h : QS w qb rb hb g L) (t : Int) : Calls Try.prog 21 #[.pointer (some ⟨qb, 0, none⟩), .int .i64 t] w (KeyP (dk L t) (decide (0 ≤ dl L t)) w) := by
  have HK := Lib.hid (kept_cell h.c0)
  have HF := Lib.hid (key_any w rb hb g (srt L).length (mp L) t h.k h.sz)
  rw [mp_isSome] at HF
  have e1 : keyN (mp L) t = dk L t := by
    unfold keyN dk
    split
    · next q => rw [mp_some q]; rfl
    · next q => rw [mp_none (by omega)]; rfl
  rw [e1] at HF
  generalize decide (0 ≤ dl L t) = b at *
  generalize dk L t = x at *
  clear h e1
  go_enter Try.func21, Try.ntmps21
  go_wp2_with fail
  refine HK.out.mono ?_
  rintro e w' ⟨rfl, rfl⟩
  go_wp2_with fail
  refine HF.out.mono ?_
  rintro e w' ⟨rfl, rfl⟩
  go_wp2_with fail
  go_ret2
  exact ⟨rfl, rfl⟩
theorem qnew_yes (w : World) {n : Nat} (hn : n ≤ 4) : Calls Try.prog 7 #[.int .i64 n] w (fun e w' => ∃ qb rb hb g, e = .returned (.tuple #[.pointer (some ⟨qb, 0, none⟩), .int .i64 0]) ∧ QS w' qb rb hb g (noL n) ∧ (w.heap.size ≤ qb ∧ w.heap.size ≤ rb ∧ w.heap.size ≤ hb ∧ w.heap.size ≤ g) ∧ Below w.heap.size w w') := by
  have HN := Lib.hid (new_any w)
  have hn0 : decide ((n : Int) < 0) = false := by simp
  have hn1 : decide (4 < (n : Int)) = false := by simp; omega
  have HS : Hid (∀ w1 : World, RK w1 (w.heap.size + 1) w.heap.size w.heap.size 0 (fun _ => none) → w.heap.size ≤ w1.heap.size → QS (w1.alloc (.cells #[.pointer (some ⟨w.heap.size + 1, 0, none⟩), .int .i64 n] 52)) w1.heap.size (w.heap.size + 1) w.heap.size w.heap.size (noL n)) := by
    intro w1 hk hs
    have h1 := hk.lt1
    refine ⟨?_, ?_, no_good hn, by omega, by omega⟩
    · rw [no_len]; exact heap_alloc_new w1 _
    · rw [no_srt, no_mp]; exact hk.below ((Below.refl _ _).alloc (Nat.le_refl _) _)
  go_enter Try.func7, Try.ntmps7
  go_wp2_with fail
  refine HN.out.mono ?_
  rintro e w1 ⟨rfl, hk, hb⟩
  have HK := Lib.hid hk
  have HB := Lib.hid hb
  clear hk hb HN
  go_wp2_with fail
  go_ret2
  have hb : Below w.heap.size w w1 := HB.out.out
  have hs := hb.size
  exact ⟨_, _, _, _, rfl, HS.out w1 HK.out.out hs, ⟨hs, by omega, by omega, by omega⟩, hb.alloc hs _⟩
theorem qnew_no (w : World) {n : Int} (hn : n < 0 ∨ 4 < n) : Calls Try.prog 7 #[.int .i64 n] w (IsV (.tuple #[.pointer none, .int .i64 2]) w) := by
  rcases Int.lt_or_le n 0 with h | h
  · have d1 : decide (n < 0) = true := by simpa using h
    go_enter Try.func7, Try.ntmps7
    go_wp2_with fail
    go_ret2
    exact ⟨rfl, rfl⟩
  · have d1 : decide (n < 0) = false := by simpa using h
    have d2 : decide (4 < n) = true := by simp; omega
    go_enter Try.func7, Try.ntmps7
    go_wp2_with fail
    go_ret2
    exact ⟨rfl, rfl⟩
end Go.Proofs.Ytmdckfekjbhcfaa
