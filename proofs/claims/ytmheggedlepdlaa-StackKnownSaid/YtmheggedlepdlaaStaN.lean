/- New, the program's and the document's: tasks are copied. -/
import Derived.Test.YtmheggedlepdlaaStaM
import Derived.Deep.Upon
namespace Go.Proofs.Ytmheggedlepdlaa
open Go.RowKit Lv Sk Go.Sort
set_option linter.unusedVariables false

/-- the cells of n tasks -/
def tcl (z : Nat → Nat → Int) : Nat → List Value
  | 0 => []
  | k + 1 => tcl z k ++ [.int .i64 (z k 0), .int .i64 (z k 1), .int .i64 (z k 2), .int .i64 (z k 3), .int .i64 (z k 4), .int .i64 (z k 5), .int .i64 (z k 6), .int .i64 (z k 7)]
theorem tcl_len (z : Nat → Nat → Int) (k : Nat) : (tcl z k).length = k * 8 := by
  induction k with
  | zero => rfl
  | succ k ih => unfold tcl; rw [List.length_append, ih]; simp; omega
theorem tcl_at (z : Nat → Nat → Int) : ∀ (k i j : Nat), i < k → j < 8 → (tcl z k)[i * 8 + j]? = some (.int .i64 (z i j))
  | k + 1, i, j, hi, hj => by
    have hl := tcl_len z k
    unfold tcl
    by_cases e : i = k
    · subst e
      rw [List.getElem?_append_right (by omega), hl, Nat.add_sub_cancel_left]
      obtain rfl | rfl | rfl | rfl | rfl | rfl | rfl | rfl : j = 0 ∨ j = 1 ∨ j = 2 ∨ j = 3 ∨ j = 4 ∨ j = 5 ∨ j = 6 ∨ j = 7 := by omega
      all_goals rfl
    · rw [List.getElem?_append_left (by omega)]
      exact tcl_at z k i j (by omega) hj
theorem tcl_one (z : Nat → Nat → Int) (k : Nat) : ∀ u ∈ tcl z k, u.oneCell' = true := by
  induction k with
  | zero => intro u hu; cases hu
  | succ k ih =>
    intro u hu
    unfold tcl at hu
    rcases List.mem_append.mp hu with q | q
    · exact ih u q
    · simp at q
      rcases q with rfl | rfl | rfl | rfl | rfl | rfl | rfl | rfl <;> rfl
theorem infoT13 : (Try.prog.info? 32).map (fun i => (i.zero, i.size, i.bytes)) = some (some (.agg #[.int .i64 0, .int .i64 0, .int .i64 0, .int .i64 0, .int .i64 0, .int .i64 0, .int .i64 0, .int .i64 0]), 8, 64) := by kernel_rfl
/-- tasks in a row of the call's own -/
def NT (w : World) (B : Nat) (v : Value) (n : Nat) (z : Nat → Nat → Int) : Prop := w.ownsRow B 32 8 v n (tcl z n)
theorem NT.tk {w : World} {B : Nat} {v : Value} {n : Nat} {z : Nat → Nat → Int} (h : NT w B v n z) : TK w v n z := by
  have hc := fun g => World.ownsRow.cells h (g := g)
  rcases h.2 with ⟨rfl, rfl⟩ | ⟨g, cap, cur, rfl, hb, hh, hnc, hcm, _⟩
  · exact TK.nil w z
  · refine ⟨_, cap, rfl, hnc, hcm, (fun e => by cases e), fun _ => ⟨g, 0, rfl, fun i hi j hj => ?_⟩⟩
    have q := hc g rfl _ _ (tcl_at z n i j hi hj)
    rw [Addr.add_lit] at q
    rw [Nat.add_assoc]
    exact q
/-- what tasks that can be read yield -/
theorem TK.src {w : World} {v : Value} {n : Nat} {z : Nat → Nat → Int} (h : TK w v n z) : Src Try.prog 8 22 v n (tcl z n) w := by
  obtain ⟨a, cap, rfl, h1, h2, h3, h4⟩ := h
  cases n with
  | zero =>
    cases a with
    | none => exact Src.ofNil w Try.underlying22 cap
    | some ad => exact Src.ofSlice w Try.underlying22 ad 0 cap [] rfl (by intro j u hj; simp at hj) (by intro u hu; cases hu)
  | succ m =>
    obtain ⟨b, off, rfl, hc⟩ := h4 (by omega)
    refine Src.ofSlice w Try.underlying22 ⟨b, off, none⟩ (m + 1) cap _ (tcl_len z _) (fun j u hj => ?_) (tcl_one z _)
    have hl : j < (m + 1) * 8 := by rw [← tcl_len z]; exact (List.getElem?_eq_some_iff.1 hj).1
    have e : j = j / 8 * 8 + j % 8 := by omega
    have q := hc (j / 8) (by omega) (j % 8) (by omega)
    rw [Addr.add_lit, show off + j = off + j / 8 * 8 + j % 8 by omega, q]
    rw [e, tcl_at z _ _ _ (by omega) (by omega)] at hj
    exact hj
theorem TK.cells {w : World} {a : Option Addr} {n cap : Nat} {z : Nat → Nat → Int} (h : TK w (.slice a n cap) n z) (hn : 0 < n) : ∃ ad, a = some ad ∧ ∀ j u, (tcl z n)[j]? = some u → w.cell? (ad.add j) = some u := by
  obtain ⟨a', cap', e, h1, h2, h3, h4⟩ := h
  obtain ⟨rfl, rfl⟩ : a = a' ∧ cap = cap' := by simpa using e
  obtain ⟨b, off, rfl, hc⟩ := h4 hn
  refine ⟨_, rfl, fun j u hj => ?_⟩
  have hl : j < n * 8 := by rw [← tcl_len z]; exact (List.getElem?_eq_some_iff.1 hj).1
  have e : j = j / 8 * 8 + j % 8 := by omega
  have q := hc (j / 8) (by omega) (j % 8) (by omega)
  rw [Addr.add_lit, show off + j = off + j / 8 * 8 + j % 8 by omega, q]
  rw [e, tcl_at z _ _ _ (by omega) (by omega)] at hj
  exact hj
/-- tasks behind none -/
theorem app_tnil {w : World} {v : Value} {n : Nat} {z : Nat → Nat → Int} (h : TK w v n z) (hn : n ≤ 1000) (ty : TypeId) :
    ∃ v' w', (Builtin.append_ #[22, 22] ty #[.slice none 0 0, v]).run Try.prog w = .ok v' w' ∧ NT w' w.heap.size v' n z ∧ Below w.heap.size w w' := by
  obtain ⟨i0, hi, hz0, hz1, hz2⟩ := info_parts infoT13
  obtain ⟨a, cap, rfl, _, _⟩ := h.slice
  by_cases hn0 : n = 0
  · subst hn0
    exact ⟨_, w, run_append_nothing w _ _ ty 32 i0 Try.underlying22 hi none 0 0 (Nat.le_refl _) _ (by rw [hz1]; exact h.src), World.ownsRow_nil w _ _ _, Below.refl _ _⟩
  · obtain ⟨ad, rfl, hc⟩ := h.cells (by omega)
    obtain ⟨v', w', hrun, hown', hgr, _⟩ := run_append_own (P := Try.prog) w w.heap.size 22 ty 32 i0 _ 8 64 Try.underlying22 hi hz0 hz1 hz2 rfl (by decide) (.slice none 0 0) 0 [] (World.ownsRow_nil w w.heap.size 32 8) ad n cap _ (tcl_len z n) hc (tcl_one z n) (by unfold maxLen; omega) (by omega) (Nat.le_refl _)
    refine ⟨v', w', hrun, ?_, ⟨hgr.os, hgr.tape, hgr.output, hgr.size, fun k hk => hgr.block k hk (by simp [Value.ownBlock])⟩⟩
    unfold NT
    simpa using hown'
/-- tasks behind none, of a row that is there -/
theorem app_tlit {w : World} {v : Value} {n g : Nat} {z : Nat → Nat → Int} (h : TK w v n z) (hn : n ≤ 1000) (ty : TypeId) :
    ∃ v' w', (Builtin.append_ #[22, 22] ty #[.slice (some ⟨g, 0, none⟩) 0 0, v]).run Try.prog w = .ok v' w' ∧ TK w' v' n z ∧ Below w.heap.size w w' ∧ (∃ ad c, v' = .slice (some ad) n c) ∧ (∀ k, v'.ownBlock = some k → k = g ∨ (w.heap.size ≤ k ∧ k < w'.heap.size)) := by
  obtain ⟨i0, hi, hz0, hz1, hz2⟩ := info_parts infoT13
  obtain ⟨a, cap, rfl, _, _⟩ := h.slice
  by_cases hn0 : n = 0
  · subst hn0
    refine ⟨_, w, run_append_nothing w _ _ ty 32 i0 Try.underlying22 hi (some ⟨g, 0, none⟩) 0 0 (Nat.le_refl _) _ (by rw [hz1]; exact h.src), ⟨_, 0, rfl, Nat.le_refl _, Nat.zero_le _, (fun e => by cases e), fun q => by cases q⟩, Below.refl _ _, ⟨_, _, rfl⟩, fun k hk => ?_⟩
    simp [Value.ownBlock] at hk
    exact Or.inl hk.symm
  · obtain ⟨ad, rfl, hc⟩ := h.cells (by omega)
    obtain ⟨v', w', hrun, hown', hgr⟩ := run_append_arg_grows (P := Try.prog) w 22 ty 32 i0 _ 8 64 Try.underlying22 hi hz0 hz1 hz2 rfl (by decide) ⟨g, 0, none⟩ 0 0 [] rfl (by intro j u hj; simp at hj) ad n cap _ (tcl_len z n) hc (by omega) (by unfold maxLen; omega) (by omega)
    rw [Nat.zero_add, List.nil_append] at hown'
    have hnt : NT w' w.heap.size v' n z := hown'
    refine ⟨v', w', hrun, hnt.tk, ⟨hgr.os, hgr.tape, hgr.output, hgr.size, fun k hk => hgr.block k hk (by simp)⟩, ?_, fun k hk => Or.inr (hown'.lt k hk)⟩
    rcases hown'.2 with ⟨rfl, e⟩ | ⟨g', cap', cur, rfl, _⟩
    · exact absurd e hn0
    · exact ⟨_, _, rfl⟩
/-- a stack is answered, without entries; or none -/
def NewP (n : Nat) (z : Nat → Nat → Int) (w : World) (e : Ending) (w' : World) : Prop :=
  if n ≤ 4 then ∃ sb tv, e = .returned (.tuple #[.pointer (some ⟨sb, 0, none⟩), .int .i64 0]) ∧ SO w' sb n z [] tv (.slice none 0 0) ∧ Below w.heap.size w w' ∧ w.heap.size ≤ sb ∧ ∀ k, tv.ownBlock = some k → w.heap.size ≤ k
  else e = .returned (.tuple #[.pointer none, .int .i64 5]) ∧ Below w.heap.size w w'
def RewP (n : Nat) (z : Nat → Nat → Int) (w : World) (e : Ending) (w' : World) : Prop :=
  if n ≤ 4 then ∃ sb tv, e = .returned (.tuple #[.pointer (some ⟨sb, 0, none⟩), .int .i64 0]) ∧ RO w' sb n z [] tv (.slice none 0 0) ∧ Below w.heap.size w w' ∧ w.heap.size ≤ sb ∧ ∀ k, tv.ownBlock = some k → w.heap.size ≤ k
  else e = .returned (.tuple #[.pointer none, .int .i64 5]) ∧ Below w.heap.size w w'
set_option maxHeartbeats 2000000 in
theorem new_any {w : World} {v : Value} {n : Nat} {z : Nat → Nat → Int} (h : TK w v n z) : Calls Try.prog 7 #[v] w (NewP n z w) := by
  obtain ⟨a, cap, rfl, hn1, hn2⟩ := h.slice
  have hmx : n ≤ 9223372036854775807 := by unfold maxLen at hn2; omega
  by_cases h4 : n ≤ 4
  · have hd : decide ((4 : Int) < (n : Int)) = false := by simp; omega
    have hA := (Below.refl _ w).alloc (Nat.le_refl _) (.cells #[] 32)
    obtain ⟨v', w2, hrun, htk, hb2, ⟨ad, c, rfl⟩, hob⟩ := app_tlit (g := w.heap.size) (h.below hA) (by omega) 22
    have HB2 := Lib.hid (chn hA hb2)
    have HRUN := Lib.hid hrun
    have hs2 := hb2.size
    simp at hs2
    have HA3 : Hid (Below w.heap.size w (w2.alloc (.cells #[.slice (some ad) n c, .slice none 0 0] 57))) := HB2.out.alloc HB2.out.size _
    have HS : Hid (SO (w2.alloc (.cells #[.slice (some ad) n c, .slice none 0 0] 57)) w2.heap.size n z [] (.slice (some ad) n c) (.slice none 0 0)) := by
      refine ⟨heap_alloc_new w2 _, htk.below ((Below.refl _ _).alloc (Nat.le_refl _) _), ⟨_, _, _, rfl⟩, fun k hk => ?_, PE.nil _ _, fun k hk => by simp [Value.ownBlock] at hk⟩
      rcases hob k hk with e | e
      · exact ⟨by omega, by simp; omega⟩
      · exact ⟨by omega, by simp; omega⟩
    have HO : Hid (∀ k, (Value.slice (some ad) n c).ownBlock = some k → w.heap.size ≤ k) := fun k hk => by
      rcases hob k hk with e | e
      · omega
      · have := e.1; simp at this; omega
    have HZ : Hid (w.heap.size ≤ w2.heap.size) := by unfold Hid; omega
    have HP : Hid (NewP n z w (.returned (.tuple #[.pointer (some ⟨w2.heap.size, 0, none⟩), .int .i64 0])) (w2.alloc (.cells #[.slice (some ad) n c, .slice none 0 0] 57))) := by
      unfold Hid NewP
      rw [if_pos h4]
      exact ⟨_, _, rfl, HS.out, HA3.out, HZ.out, HO.out⟩
    clear h hA hrun htk hb2 hob hs2 h4 HB2 HA3 HS HO HZ
    go_enter Try.func7, Try.ntmps7
    go_wp2_with (at_builtin; refine wpList_append_eq rfl _ _ 22 22 rfl _ _ _ _ rfl rfl HRUN.out ?_)
    go_ret2
    exact HP.out
  · have hd : decide ((4 : Int) < (n : Int)) = true := by simp; omega
    have HP : Hid (NewP n z w (.returned (.tuple #[.pointer none, .int .i64 5])) w) := by
      unfold Hid NewP
      rw [if_neg h4]
      exact ⟨rfl, Below.refl _ _⟩
    clear h h4
    go_enter Try.func7, Try.ntmps7
    go_wp2_with fail
    go_ret2
    exact HP.out
set_option maxHeartbeats 2000000 in
theorem rnew_any {w : World} {v : Value} {n : Nat} {z : Nat → Nat → Int} (h : TK w v n z) : Calls Try.prog 8 #[v] w (RewP n z w) := by
  obtain ⟨a, cap, rfl, hn1, hn2⟩ := h.slice
  have hmx : n ≤ 9223372036854775807 := by unfold maxLen at hn2; omega
  by_cases h4 : n ≤ 4
  · have hd : decide ((4 : Int) < (n : Int)) = false := by simp; omega
    have hA := (Below.refl _ w).alloc (Nat.le_refl _) (.cells #[.slice none 0 0, .slice none 0 0] 60)
    have hob0 := heap_alloc_new w (.cells #[.slice none 0 0, .slice none 0 0] 60)
    obtain ⟨v', w2, hrun, hnt, hb2⟩ := app_tnil (h.below hA) (by omega) 22
    obtain ⟨ad, c, rfl⟩ := own_slice hnt
    have HB2 := Lib.hid (chn hA hb2)
    have HRUN := Lib.hid hrun
    have hs2 := hb2.size
    simp at hs2
    have hob : w2.heap[w.heap.size]? = some (.cells #[.slice none 0 0, .slice none 0 0] 60 (0, 0)) := (hb2.block _ (by simp)).trans hob0
    have s1 : w2.cell? ⟨w.heap.size, 0, none⟩ = some (.slice none 0 0) := cell_of_row _ _ 0 _ _ _ hob
    have s2 : w2.frozen? ⟨w.heap.size, 0, none⟩ = false := frozen_of_row _ _ _ _ _ hob
    have hlt : ∀ k, (Value.slice ad n c).ownBlock = some k → w.heap.size + 1 ≤ k ∧ k < w2.heap.size := fun k hk => by
      have := World.ownsRow.lt hnt k hk
      simp at this
      exact this
    have HP : Hid (RewP n z w (.returned (.tuple #[.pointer (some ⟨w.heap.size, 0, none⟩), .int .i64 0])) (w2.setCell ⟨w.heap.size, 0, none⟩ (.slice ad n c))) := by
      unfold Hid RewP
      rw [if_pos h4]
      refine ⟨_, _, rfl, ⟨heap_setCell_same w2 w.heap.size 0 _ _ _ hob, hnt.tk.keep fun k hk => Below.heap_setCell _ _ _ _ (show k ≠ w.heap.size by have := (hlt k hk).1; omega), fun k hk => ⟨by have := (hlt k hk).1; omega, by have := (hlt k hk).2; simp [World.setCell]; omega⟩, World.ownsRow_nil _ _ _ _, fun k hk => by simp [Value.ownBlock] at hk⟩, HB2.out.setCell (Nat.le_refl _) _, Nat.le_refl _, fun k hk => by have := (hlt k hk).1; omega⟩
    clear h hA hrun hnt hb2 hs2 h4 HB2 hob hob0 hlt
    go_enter Try.func8, Try.ntmps8
    go_wp2_with (at_builtin; refine wpList_append_eq rfl _ _ 22 22 rfl _ _ _ _ rfl rfl HRUN.out ?_)
    go_ret2
    exact HP.out
  · have hd : decide ((4 : Int) < (n : Int)) = true := by simp; omega
    have HP : Hid (RewP n z w (.returned (.tuple #[.pointer none, .int .i64 5])) w) := by
      unfold Hid RewP
      rw [if_neg h4]
      exact ⟨rfl, Below.refl _ _⟩
    clear h h4
    go_enter Try.func8, Try.ntmps8
    go_wp2_with fail
    go_ret2
    exact HP.out
end Go.Proofs.Ytmheggedlepdlaa
