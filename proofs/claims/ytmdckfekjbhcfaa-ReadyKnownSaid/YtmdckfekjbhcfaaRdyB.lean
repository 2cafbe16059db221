/- The document's queue in memory: has, Put, Remove, Deadline, New. -/
import Derived.Test.YtmdckfekjbhcfaaRdyN
namespace Go.Proofs.Ytmdckfekjbhcfaa
open Go.RowKit Rk Rd Go.Sort
set_option linter.unusedVariables false

/-- the document's queue: its row is the call's own -/
structure DQ (w : World) (mb C : Nat) (L : List Int) (lv : Value) : Prop where
  ob : w.heap[mb]? = some (.cells #[lv] 55 (0, 0))
  ow : NR w C lv L
  ne : lv.ownBlock ≠ some mb
section
variable {w w' : World} {mb C : Nat} {L : List Int} {lv : Value}
theorem DQ.lt (h : DQ w mb C L lv) : mb < w.heap.size := lt_of_heap h.ob
theorem DQ.c0 (h : DQ w mb C L lv) : w.cell? ⟨mb, 0, none⟩ = some lv := cell_of_row _ _ 0 _ _ _ h.ob
theorem DQ.only {S : Nat → Prop} (h : DQ w mb C L lv) (o : Only S w w') (h0 : ¬ S mb) (h1 : ∀ k, lv.ownBlock = some k → ¬ S k) : DQ w' mb C L lv := by
  refine ⟨(o.block _ h.lt h0).trans h.ob, ⟨h.ow.1, ?_⟩, h.ne⟩
  rcases h.ow.2 with q | ⟨g, cap, cur, rfl, hb, hg, rest⟩
  · exact Or.inl q
  · exact Or.inr ⟨g, cap, cur, rfl, hb, (o.block g (lt_of_heap hg) (h1 g rfl)).trans hg, rest⟩
theorem DQ.below (h : DQ w mb C L lv) (q : Below w.heap.size w w') : DQ w' mb C L lv := h.only (S := fun _ => False) ⟨q.os, q.tape, q.output, q.size, fun k hk _ => q.block k hk⟩ (fun e => e) (fun _ _ e => e)
theorem DQ.form (h : DQ w mb C L lv) : ∃ a cap, lv = .slice a L.length cap := h.ow.is_form
theorem DQ.at {a : Option Addr} {n cap : Nat} (h : DQ w mb C L (.slice a n cap)) {i : Nat} (hi : i < L.length) : ∃ g, a = some ⟨g, 0, none⟩ ∧ w.cell? ⟨g, i, none⟩ = some (.int .i64 (L.getD i (-1))) ∧ w.frozen? ⟨g, i, none⟩ = false ∧ n = L.length ∧ n ≤ cap ∧ cap ≤ maxLen := by
  have hw := h.ow
  rcases hw.2 with ⟨_, q⟩ | ⟨g, cap', cur, e, hb, hg, hc1, hc2, _⟩
  · omega
  · injection e with e1 e2 e3
    subst e1; subst e2; subst e3
    refine ⟨g, rfl, ?_, World.ownsRow.frozenAt hw i, rfl, hc1, hc2⟩
    rw [World.ownsRow.cellAt hw i (by omega), nums_at L i hi]
    rw [List.getD_eq_getElem?_getD, List.getD_eq_getElem?_getD, List.getElem?_eq_getElem hi]; rfl
/-- a number of the row is set -/
theorem DQ.set {g n cap : Nat} (h : DQ w mb C L (.slice (some ⟨g, 0, none⟩) n cap)) (hn : n = L.length) (i : Nat) (x : Int) :
    DQ (w.setCell ⟨g, i, none⟩ (.int .i64 x)) mb C (L.set i x) (.slice (some ⟨g, 0, none⟩) n cap) ∧ Only (fun k => k = g) w (w.setCell ⟨g, i, none⟩ (.int .i64 x)) := by
  subst hn
  have hne : mb ≠ g := fun e => h.ne (by rw [e]; rfl)
  refine ⟨⟨(heap_set_other hne).trans h.ob, ?_, h.ne⟩, Only.setCell (S := fun k => k = g) (Only.refl _ w) (Or.inl rfl) _⟩
  have h1 := (World.ownsRow.stored h.ow i (.int .i64 x)).1
  have e1 : nums (L.set i x) = (nums L).set i (.int .i64 x) := by unfold nums; rw [List.map_set]
  unfold NR
  rw [List.length_set, e1]
  exact h1
end
/-- an answer; the queue behind it -/
def DP (v : Value) (mb C : Nat) (L : List Int) (lv : Value) (w : World) (e : Ending) (w' : World) : Prop := e = .returned v ∧ DQ w' mb C L lv ∧ Only (fun k => lv.ownBlock = some k) w w'
theorem DP.same {v : Value} {mb C : Nat} {L : List Int} {lv : Value} {w : World} (h : DQ w mb C L lv) : DP v mb C L lv w (.returned v) w := ⟨rfl, h, Only.refl _ _⟩
theorem has_any {w : World} {mb C : Nat} {L : List Int} {lv : Value} (h : DQ w mb C L lv) (ok : Gd L) (t : Int) : Calls Try.prog 25 #[.pointer (some ⟨mb, 0, none⟩), .int .i64 t] w (IsB (decide (0 ≤ dl L t)) w) := by
  obtain ⟨a, cap, rfl⟩ := h.form
  have c0 := h.c0
  by_cases h0 : 0 ≤ t
  · by_cases h1 : (L.length : Int) ≤ t
    · have e : decide (0 ≤ dl L t) = false := by rw [dl_out h1]; rfl
      rw [e]
      have d1 : decide (0 ≤ t) = true := by simpa using h0
      have d2 : decide (t < (L.length : Int)) = false := by simpa using h1
      clear h e
      generalize L.length = N at *
      go_enter Try.func25, Try.ntmps25
      go_wp2_with fail
      go_ret
      exact ⟨rfl, rfl⟩
    · obtain ⟨i, rfl⟩ : ∃ i : Nat, t = i := ⟨t.toNat, by omega⟩
      obtain ⟨g, rfl, c1, _, hn, hc1, hc2⟩ := h.at (show i < L.length by omega)
      have hr := getD_rng ok i
      rw [dl_nat]
      have d2 : decide ((i : Int) < (L.length : Int)) = true := by simp; omega
      have hi : (i : Int) < (L.length : Int) := by omega
      have hl := ok.len
      have hm : cap ≤ 9223372036854775807 := by unfold maxLen at hc2; omega
      clear h hn ok hc2
      generalize L.getD i (-1) = x at *
      generalize L.length = N at *
      go_enter Try.func25, Try.ntmps25
      go_wp2_with fail
      go_ret
      exact ⟨rfl, rfl⟩
  · have e : decide (0 ≤ dl L t) = false := by rw [dl_neg (by omega)]; rfl
    rw [e]
    have d1 : decide (0 ≤ t) = false := by simpa using h0
    clear h e
    go_enter Try.func25, Try.ntmps25
    go_wp2_with fail
    go_ret
    exact ⟨rfl, rfl⟩
set_option maxHeartbeats 2000000 in
theorem rput_any {w : World} {mb C : Nat} {L : List Int} {lv : Value} (h : DQ w mb C L lv) (ok : Gd L) (t d : Int) : Calls Try.prog 11 #[.pointer (some ⟨mb, 0, none⟩), .int .i64 t, .int .i64 d] w (DP (.int .i64 (qE L t d)) mb C (qL L t d) lv w) := by
  obtain ⟨a, cap, rfl⟩ := h.form
  have c0 := h.c0
  have HH := Lib.hid (has_any h ok t)
  have hlen := ok.len
  have H := Lib.hid h
  obtain ⟨N, hN⟩ : ∃ N : Nat, N = L.length := ⟨_, rfl⟩
  rcases qE_cases L t d with ⟨q1, q⟩ | ⟨q1, q2, q3, q⟩ | ⟨q1, q2, q3, q4, q5, q⟩ | ⟨q1, q2, q3, q4, q5, q⟩
  · have e1 : qL L t d = L := if_neg (by rw [q]; decide)
    rw [q, e1]
    rw [← hN] at c0 q1 hlen H ⊢
    clear h q e1 HH hN
    rcases Int.lt_or_le t 0 with q2 | q2
    · have d1 : decide (t < 0) = true := by simpa using q2
      go_enter Try.func11, Try.ntmps11
      go_wp2_with fail
      go_ret
      exact DP.same H.out
    · have d1 : decide (t < 0) = false := by simpa using q2
      have d2 : decide ((N : Int) ≤ t) = true := by simp; omega
      go_enter Try.func11, Try.ntmps11
      go_wp2_with fail
      go_ret
      exact DP.same H.out
  · have e1 : qL L t d = L := if_neg (by rw [q]; decide)
    rw [q, e1]
    rw [← hN] at c0 q2 hlen H ⊢
    clear h q e1 HH hN
    have d1 : decide (t < 0) = false := by simpa using q1
    have d2 : decide ((N : Int) ≤ t) = false := by simp; omega
    rcases Int.lt_or_le d 0 with q4 | q4
    · have d3 : decide (d < 0) = true := by simpa using q4
      go_enter Try.func11, Try.ntmps11
      go_wp2_with fail
      go_ret
      exact DP.same H.out
    · have d3 : decide (d < 0) = false := by simpa using q4
      have d4 : decide (1099511627840 < d) = true := by simp; omega
      go_enter Try.func11, Try.ntmps11
      go_wp2_with fail
      go_ret
      exact DP.same H.out
  · have e1 : qL L t d = L := if_neg (by rw [q]; decide)
    rw [decide_eq_true q5] at HH
    rw [q, e1]
    rw [← hN] at c0 q2 hlen H ⊢
    have d1 : decide (t < 0) = false := by simpa using q1
    have d2 : decide ((N : Int) ≤ t) = false := by simp; omega
    have d3 : decide (d < 0) = false := by simpa using q3
    have d4 : decide (1099511627840 < d) = false := by simpa using q4
    clear h q e1 q5 hN
    go_enter Try.func11, Try.ntmps11
    go_wp2_with fail
    refine HH.out.mono ?_
    rintro e w' ⟨rfl, rfl⟩
    go_wp2_with fail
    go_ret
    exact DP.same H.out
  · have e1 : qL L t d = L.set t.toNat d := if_pos q
    rw [decide_eq_false (show ¬ 0 ≤ dl L t by omega)] at HH
    obtain ⟨i, rfl⟩ : ∃ i : Nat, t = i := ⟨t.toNat, by omega⟩
    obtain ⟨g, rfl, c1, c2, hn, hc1, hc2⟩ := h.at (show i < L.length by omega)
    have HF := Lib.hid (h.set rfl i d)
    rw [q, e1]
    simp only [Int.toNat_natCast]
    rw [← hN] at c0 q2 hlen H hc1 HF ⊢
    have d1 : decide ((i : Int) < 0) = false := by simp
    have d2 : decide ((N : Int) ≤ (i : Int)) = false := by simp; omega
    have d3 : decide (d < 0) = false := by simpa using q3
    have d4 : decide (1099511627840 < d) = false := by simpa using q4
    have hm : cap ≤ 9223372036854775807 := by unfold maxLen at hc2; omega
    clear h q e1 q5 hN hn hc2
    go_enter Try.func11, Try.ntmps11
    go_wp2_with fail
    refine HH.out.mono ?_
    rintro e w' ⟨rfl, rfl⟩
    go_wp2_with fail
    go_ret
    exact ⟨rfl, HF.out.1, HF.out.2.mono fun k _ e => by rw [e]; rfl⟩
set_option maxHeartbeats 1000000 in
theorem rrem_any {w : World} {mb C : Nat} {L : List Int} {lv : Value} (h : DQ w mb C L lv) (ok : Gd L) (t : Int) : Calls Try.prog 13 #[.pointer (some ⟨mb, 0, none⟩), .int .i64 t] w (DP (.bool (decide (0 ≤ dl L t))) mb C (rmL L t) lv w) := by
  obtain ⟨a, cap, rfl⟩ := h.form
  have c0 := h.c0
  have HH := Lib.hid (has_any h ok t)
  have hlen := ok.len
  have H := Lib.hid h
  obtain ⟨N, hN⟩ : ∃ N : Nat, N = L.length := ⟨_, rfl⟩
  by_cases q : 0 ≤ dl L t
  · have e1 : rmL L t = L.set t.toNat (-1) := if_pos q
    obtain ⟨q1, q2⟩ := dl_in q
    rw [decide_eq_true q] at HH ⊢
    obtain ⟨i, rfl⟩ : ∃ i : Nat, t = i := ⟨t.toNat, by omega⟩
    obtain ⟨g, rfl, c1, c2, hn, hc1, hc2⟩ := h.at (show i < L.length by omega)
    have HF := Lib.hid (h.set rfl i (-1))
    rw [e1]
    simp only [Int.toNat_natCast]
    rw [← hN] at c0 q2 hlen H hc1 HF ⊢
    have hm : cap ≤ 9223372036854775807 := by unfold maxLen at hc2; omega
    clear h q e1 hN hn hc2
    go_enter Try.func13, Try.ntmps13
    go_wp2_with fail
    refine HH.out.mono ?_
    rintro e w' ⟨rfl, rfl⟩
    go_wp2_with fail
    go_ret
    exact ⟨rfl, HF.out.1, HF.out.2.mono fun k _ e => by rw [e]; rfl⟩
  · have e1 : rmL L t = L := if_neg q
    rw [decide_eq_false q] at HH ⊢
    rw [e1]
    clear h q e1
    go_enter Try.func13, Try.ntmps13
    go_wp2_with fail
    refine HH.out.mono ?_
    rintro e w' ⟨rfl, rfl⟩
    go_wp2_with fail
    go_ret
    exact DP.same H.out
theorem rdl_any {w : World} {mb C : Nat} {L : List Int} {lv : Value} (h : DQ w mb C L lv) (ok : Gd L) (t : Int) : Calls Try.prog 29 #[.pointer (some ⟨mb, 0, none⟩), .int .i64 t] w (KeyP (dk L t) (decide (0 ≤ dl L t)) w) := by
  obtain ⟨a, cap, rfl⟩ := h.form
  have c0 := h.c0
  have HH := Lib.hid (has_any h ok t)
  have hlen := ok.len
  obtain ⟨N, hN⟩ : ∃ N : Nat, N = L.length := ⟨_, rfl⟩
  by_cases q : 0 ≤ dl L t
  · obtain ⟨q1, q2⟩ := dl_in q
    rw [decide_eq_true q] at HH ⊢
    have e1 : dk L t = dl L t := if_pos q
    rw [e1]
    obtain ⟨i, rfl⟩ : ∃ i : Nat, t = i := ⟨t.toNat, by omega⟩
    obtain ⟨g, rfl, c1, c2, hn, hc1, hc2⟩ := h.at (show i < L.length by omega)
    rw [dl_nat]
    rw [← hN] at c0 q2 hlen hc1
    have hm : cap ≤ 9223372036854775807 := by unfold maxLen at hc2; omega
    clear h q e1 hN hn hc2 ok
    generalize L.getD i (-1) = x at *
    go_enter Try.func29, Try.ntmps29
    go_wp2_with fail
    refine HH.out.mono ?_
    rintro e w' ⟨rfl, rfl⟩
    go_wp2_with fail
    go_ret2
    exact ⟨rfl, rfl⟩
  · have e1 : dk L t = 0 := if_neg q
    rw [decide_eq_false q] at HH ⊢
    rw [e1]
    clear h q e1 ok
    go_enter Try.func29, Try.ntmps29
    go_wp2_with fail
    refine HH.out.mono ?_
    rintro e w' ⟨rfl, rfl⟩
    go_wp2_with fail
    go_ret2
    exact ⟨rfl, rfl⟩
theorem no_succ (k : Nat) : noL (k + 1) = noL k ++ [-1] := List.replicate_succ'
/-- a number more: the row, and the field -/
theorem DQ.put {w w1 : World} {mb C : Nat} {L : List Int} {lv v' : Value} (h : DQ w mb C L lv) {x : Int} (hown : NR w1 C v' (L ++ [x])) (hgr : w.grownBy w1 lv.ownBlock) (hb : v'.ownBlock = lv.ownBlock ∨ ∀ k, v'.ownBlock = some k → w.heap.size ≤ k) :
    DQ (w1.setCell ⟨mb, 0, none⟩ v') mb C (L ++ [x]) v' := by
  have hml := h.lt
  have hob : w1.heap[mb]? = some (.cells #[lv] 55 (0, 0)) := (hgr.block mb hml (fun e => h.ne e.symm)).trans h.ob
  have hne : v'.ownBlock ≠ some mb := fun e => by
    rcases hb with q | q
    · exact h.ne (q.symm.trans e)
    · have := q mb e; omega
  refine ⟨heap_setCell_same w1 mb 0 _ _ v' hob, ?_, hne⟩
  exact World.ownsRow.kept (row := some mb) hown ⟨rfl, rfl, rfl, by simp [World.setCell], fun k hk hn => Below.heap_setCell _ _ _ _ (fun e => hn (by rw [e]))⟩ (Or.inr hne)
/-- a queue is answered, without jobs -/
def NewP (n : Nat) (w : World) (e : Ending) (w' : World) : Prop := ∃ mb lv, e = .returned (.tuple #[.pointer (some ⟨mb, 0, none⟩), .int .i64 0]) ∧ DQ w' mb w.heap.size (noL n) lv ∧ w.heap.size ≤ mb ∧ Below w.heap.size w w'
set_option maxRecDepth 100000 in
set_option maxHeartbeats 2000000 in
theorem rnew_yes (w : World) {n : Nat} (hn : n ≤ 4) : Calls Try.prog 8 #[.int .i64 n] w (NewP n w) := by
  have hn0 : decide ((n : Int) < 0) = false := by simp
  have hn1 : decide (4 < (n : Int)) = false := by simp; omega
  have HD : Hid (DQ ((w.alloc (.cells #[] 3)).alloc (.cells #[.slice (some ⟨w.heap.size, 0, none⟩) 0 0] 55)) (w.heap.size + 1) w.heap.size (noL 0) (.slice (some ⟨w.heap.size, 0, none⟩) 0 0)) := by
    refine ⟨heap_alloc2_new w _ _, ?_, ?_⟩
    · exact World.ownsRow.alloc (World.ownsRow_made w #[] 0 (Nat.le_refl _) (Nat.zero_le _) rfl) _
    · intro e
      simp [Value.ownBlock] at e
  have HB : Hid (Below w.heap.size w ((w.alloc (.cells #[] 3)).alloc (.cells #[.slice (some ⟨w.heap.size, 0, none⟩) 0 0] 55))) := ((Below.refl _ _).alloc (Nat.le_refl _) _).alloc (by simp) _
  obtain ⟨mb, hmb⟩ : ∃ mb, w.heap.size + 1 = mb := ⟨_, rfl⟩
  have hms : w.heap.size ≤ mb := by omega
  rw [hmb] at HD
  go_enter Try.func8, Try.ntmps8
  go_wp2_with fail
  clear hmb
  go_loopw [5] (fun i wr => ∃ k : Nat, k ≤ n ∧ i = .int .i64 k ∧ Hid (∃ lv, DQ wr mb w.heap.size (noL k) lv) ∧ Hid (Below w.heap.size w wr)) (fun i _ => n - (intOf i).toNat)
  case atStart => exact ⟨0, Nat.zero_le _, rfl, ⟨_, HD.out⟩, HB.out⟩
  case round =>
    clear HD HB
    obtain ⟨k, hk, rfl, HD, HB⟩ := hrel
    obtain ⟨lv, hd⟩ := HD.out
    by_cases hkn : k < n
    · have c0 := hd.c0
      have h' := hd.below ((Below.refl _ _).alloc (Nat.le_refl _) (.cells #[.int .i64 (-1)] 3))
      obtain ⟨v', w1, hrun, hown, hgr, hb⟩ := app_num2 (w := wr.alloc (.cells #[.int .i64 (-1)] 3)) 36 (-1) h'.ow (g := wr.heap.size) (heap_alloc_new wr _) (Nat.le_trans HB.out.size (by simp)) (by rw [no_len]; omega)
      have hput := h'.put hown hgr hb
      rw [← no_succ] at hput
      have HPUT := Lib.hid hput
      have HRUN := Lib.hid hrun
      have hob : w1.heap[mb]? = some (.cells #[lv] 55 (0, 0)) := (hgr.block mb h'.lt (fun e => h'.ne e.symm)).trans h'.ob
      have s1 : w1.cell? ⟨mb, 0, none⟩ = some lv := cell_of_row _ _ 0 _ _ _ hob
      have s2 : w1.frozen? ⟨mb, 0, none⟩ = false := frozen_of_row _ _ _ _ _ hob
      have HB2 : Hid (Below w.heap.size w (w1.setCell ⟨mb, 0, none⟩ v')) := by
        have q := HB.out.alloc HB.out.size (.cells #[.int .i64 (-1)] 3)
        have q2 : Below w.heap.size w w1 := q.grown hgr q.size (fun j e => (World.ownsRow.lt h'.ow j e).1)
        exact q2.setCell hms _
      obtain ⟨va, vcap, rfl⟩ := hown.is_form
      generalize (noL k ++ [-1]).length = vn at *
      clear hput hrun hob hgr hb hown h' hd HD HB
      go_wp2_with (at_builtin; refine wpList_append_eq rfl (.tmp 24) (.tmp 25) 36 36 rfl _ _ _ _ rfl rfl HRUN.out ?_)
      go_roundw
      case rel => exact ⟨k + 1, by omega, by go_num, ⟨_, HPUT.out⟩, HB2.out⟩
      case measure => simp [intOf]; omega
    · obtain rfl : k = n := by omega
      have HD2 := Lib.hid hd
      clear hd HD
      go_wp2_with fail
      go_ret2
      exact ⟨_, lv, rfl, HD2.out, hms, HB.out⟩
theorem rnew_no (w : World) {n : Int} (hn : n < 0 ∨ 4 < n) : Calls Try.prog 8 #[.int .i64 n] w (IsV (.tuple #[.pointer none, .int .i64 2]) w) := by
  rcases Int.lt_or_le n 0 with h | h
  · have d1 : decide (n < 0) = true := by simpa using h
    go_enter Try.func8, Try.ntmps8
    go_wp2_with fail
    go_ret2
    exact ⟨rfl, rfl⟩
  · have d1 : decide (n < 0) = false := by simpa using h
    have d2 : decide (4 < n) = true := by simp; omega
    go_enter Try.func8, Try.ntmps8
    go_wp2_with fail
    go_ret2
    exact ⟨rfl, rfl⟩
end Go.Proofs.Ytmdckfekjbhcfaa
