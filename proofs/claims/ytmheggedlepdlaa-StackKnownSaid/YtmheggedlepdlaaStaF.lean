/- The program's stack in memory; who is meant of its entries: the closures, and what goes by them. -/
import Derived.Test.YtmheggedlepdlaaStaE
import Derived.Deep.RegionHeld3
import Derived.Lib.SliceRun
namespace Go.Proofs.Ytmheggedlepdlaa
open Go.RowKit Lv Sk Go.Sort
set_option linter.unusedVariables false

theorem infoPn : (Try.prog.info? 66).map (fun i => (i.zero, i.size, i.bytes)) = some (some (.agg #[.int .i64 0, .int .i64 0]), 2, 16) := by kernel_rfl
/-- entries of the program's, in a block from B on: its room is its own, or there is none -/
def PE (w : World) (B : Nat) (v : Value) (l : List En) : Prop :=
  (v = .slice none 0 0 ∧ l = []) ∨
  ∃ g cap, v = .slice (some ⟨g, 0, none⟩) l.length cap ∧ B ≤ g ∧ g < w.heap.size ∧ l.length ≤ cap ∧ cap ≤ maxLen ∧
    (∀ j u, (ecells l)[j]? = some u → w.cell? ((⟨g, 0, none⟩ : Addr).add j) = some u) ∧ (cap = l.length ∨ w.ownsRow B 66 2 v l.length (ecells l))
theorem PE.nil (w : World) (B : Nat) : PE w B (.slice none 0 0) [] := Or.inl ⟨rfl, rfl⟩
theorem PE.of_own {w : World} {B : Nat} {v : Value} {l : List En} (h : w.ownsRow B 66 2 v l.length (ecells l)) : PE w B v l := by
  have hc := fun g => World.ownsRow.cells h (g := g)
  have hw := h
  rcases h.2 with ⟨rfl, h0⟩ | ⟨g, cap, cur, rfl, hb, hh, hnc, hcm, _⟩
  · exact Or.inl ⟨rfl, List.eq_nil_of_length_eq_zero h0⟩
  · exact Or.inr ⟨g, cap, rfl, hb, lt_of_block hh, hnc, hcm, hc g rfl, Or.inr hw⟩
theorem PE.lt {w : World} {B : Nat} {v : Value} {l : List En} (h : PE w B v l) : ∀ k, v.ownBlock = some k → B ≤ k ∧ k < w.heap.size := by
  intro k hk
  rcases h with ⟨rfl, _⟩ | ⟨g, cap, rfl, h1, h2, _⟩
  · simp [Value.ownBlock] at hk
  · simp [Value.ownBlock] at hk
    subst hk
    exact ⟨h1, h2⟩
theorem PE.kept {w w' : World} {B : Nat} {v : Value} {l : List En} {row : Option Nat} (h : PE w B v l) (hg : w.grownBy w' row) (hne : v.ownBlock = none ∨ v.ownBlock ≠ row) : PE w' B v l := by
  rcases h with h | ⟨g, cap, rfl, h1, h2, h3, h4, h5, h6⟩
  · exact Or.inl h
  · have hb : w'.heap[g]? = w.heap[g]? := hg.block g h2 (by simpa [Value.ownBlock] using hne)
    refine Or.inr ⟨g, cap, rfl, h1, Nat.lt_of_lt_of_le h2 hg.size, h3, h4, fun j u hj => ?_, ?_⟩
    · have := h5 j u hj
      rw [Addr.add_lit] at this ⊢
      exact (World.cell?_of_block hb).trans this
    · rcases h6 with e | e
      · exact Or.inl e
      · exact Or.inr (e.kept hg hne)
theorem PE.es {w : World} {B : Nat} {v : Value} {l : List En} (h : PE w B v l) : ES w v l := by
  rcases h with ⟨rfl, rfl⟩ | ⟨g, cap, rfl, h1, h2, h3, h4, h5, h6⟩
  · exact ES.nil w
  · refine ⟨_, cap, rfl, h3, h4, (fun e => by cases e), fun _ => ⟨g, 0, rfl, fun i hi => ?_⟩⟩
    obtain ⟨e1, e2⟩ := ecells_at l i hi
    have q1 := h5 _ _ e1
    have q2 := h5 _ _ e2
    rw [Addr.add_lit] at q1 q2
    exact ⟨q1, by rw [Nat.add_assoc]; exact q2⟩
/-- the program's stack -/
structure SO (w : World) (sb n : Nat) (z : Nat → Nat → Int) (l : List En) (tv lv : Value) : Prop where
  ob : w.heap[sb]? = some (.cells #[tv, lv] 57 (0, 0))
  tk : TK w tv n z
  nz : ∃ a k c, tv = .slice (some a) k c
  tb : ∀ k, tv.ownBlock = some k → k ≠ sb ∧ k < w.heap.size
  pe : PE w (sb + 1) lv l
  ap : ∀ k, lv.ownBlock = some k → tv.ownBlock ≠ some k
theorem SO.below {w w' : World} {sb n : Nat} {z : Nat → Nat → Int} {l : List En} {tv lv : Value} (h : SO w sb n z l tv lv) (q : Below w.heap.size w w') : SO w' sb n z l tv lv :=
  ⟨(q.block sb (lt_of_block h.ob)).trans h.ob, h.tk.below q, h.nz, fun k hk => ⟨(h.tb k hk).1, Nat.lt_of_lt_of_le (h.tb k hk).2 q.size⟩,
    h.pe.kept (row := none) ⟨q.os, q.tape, q.output, q.size, fun k hk _ => q.block k hk⟩ (by cases lv.ownBlock <;> simp), h.ap⟩
theorem SO.cells {w : World} {sb n : Nat} {z : Nat → Nat → Int} {l : List En} {tv lv : Value} (h : SO w sb n z l tv lv) : w.cell? ⟨sb, 0, none⟩ = some tv ∧ w.cell? ⟨sb, 0 + 1, none⟩ = some lv := ⟨cell_of_row _ _ 0 _ _ _ h.ob, cell_of_row _ _ 1 _ _ _ h.ob⟩

theorem none_any {w : World} {sb n : Nat} {z : Nat → Nat → Int} {l : List En} {tv lv : Value} (h : SO w sb n z l tv lv) : Calls Try.prog 34 #[.pointer (some ⟨sb, 0, none⟩)] w (IsB false w) := by
  obtain ⟨c0, c1⟩ := h.cells
  obtain ⟨a, k, c, rfl⟩ := h.nz
  clear h
  have qT : ∀ (w : World) (a : Option Addr) (n c n' c' : Nat), (binOp .eql 22 (.slice a n c) (.slice none n' c')).run Try.prog w = .ok (.bool a.isNone) w := fun w a n c n' c' => Lib.run_eql_slice_nil w _ _ a n c n' c' Try.underlying22
  go_enter Try.func34, Try.ntmps34
  go_wp2_with fail
  go_ret
  exact ⟨rfl, rfl⟩
theorem none_nil (w : World) : Calls Try.prog 34 #[.pointer none] w (IsB true w) := by
  go_enter Try.func34, Try.ntmps34
  go_wp2_with fail
  go_ret
  exact ⟨rfl, rfl⟩
theorem none_zero {w : World} {sb : Nat} (c0 : w.cell? ⟨sb, 0, none⟩ = some (.slice none 0 0)) : Calls Try.prog 34 #[.pointer (some ⟨sb, 0, none⟩)] w (IsB true w) := by
  have qT : ∀ (w : World) (a : Option Addr) (n c n' c' : Nat), (binOp .eql 22 (.slice a n c) (.slice none n' c')).run Try.prog w = .ok (.bool a.isNone) w := fun w a n c n' c' => Lib.run_eql_slice_nil w _ _ a n c n' c' Try.underlying22
  go_enter Try.func34, Try.ntmps34
  go_wp2_with fail
  go_ret
  exact ⟨rfl, rfl⟩
theorem task_any {w : World} {sb n : Nat} {z : Nat → Nat → Int} {l : List En} {tv lv : Value} (h : SO w sb n z l tv lv) (t : Int) : Calls Try.prog 35 #[.pointer (some ⟨sb, 0, none⟩), .int .i64 t] w (IsB (decide (0 ≤ t) && decide (t < n)) w) := by
  obtain ⟨c0, c1⟩ := h.cells
  obtain ⟨a, cap, rfl, hn1, hn2⟩ := h.tk.slice
  clear h
  cases h0 : decide (0 ≤ t) with
  | false =>
    go_enter Try.func35, Try.ntmps35
    go_wp2_with fail
    go_ret
    exact ⟨by simp, rfl⟩
  | true =>
    go_enter Try.func35, Try.ntmps35
    go_wp2_with fail
    go_ret
    exact ⟨by simp, rfl⟩
/-- a closure is answered, over a number -/
def ClP (F : Nat) (x : Int) (w : World) (e : Ending) (w' : World) : Prop := ∃ B, e = .returned (.func (.func F) #[] #[.pointer (some ⟨B, 0, none⟩)]) ∧ w'.heap[B]? = some (.cells #[.int .i64 x] 3 (0, 0)) ∧ Below w.heap.size w w'
theorem isof_any (w : World) (x : Int) : Calls Try.prog 37 #[.int .i64 x] w (ClP 49 x w) := by
  go_enter Try.func37, Try.ntmps37
  go_wp2_with fail
  go_ret
  exact ⟨w.heap.size, rfl, heap_alloc_new w _, (Below.refl _ _).alloc (Nat.le_refl _) _⟩
theorem isby_any (w : World) (x : Int) : Calls Try.prog 39 #[.int .i64 x] w (ClP 50 x w) := by
  go_enter Try.func39, Try.ntmps39
  go_wp2_with fail
  go_ret
  exact ⟨w.heap.size, rfl, heap_alloc_new w _, (Below.refl _ _).alloc (Nat.le_refl _) _⟩
theorem of1_any {w : World} {B : Nat} {x : Int} (h : w.heap[B]? = some (.cells #[.int .i64 x] 3 (0, 0))) (t r : Int) : Calls Try.prog 49 #[.agg #[.int .i64 t, .int .i64 r], .pointer (some ⟨B, 0, none⟩)] w (YB (decide (r = x)) w) := by
  have hA := (Below.refl _ w).alloc (Nat.le_refl _) (.cells #[.int .i64 t, .int .i64 r] 66)
  have c0 := cell_of_row _ _ 0 _ _ _ ((hA.block _ (lt_of_block h)).trans h)
  have HA := Lib.hid hA
  clear h hA
  go_enter Try.func49, Try.ntmps49
  go_wp2_with fail
  go_ret
  exact ⟨by simp; rw [Bool.eq_iff_iff]; simp, HA.out⟩
theorem by1_any {w : World} {B : Nat} {x : Int} (h : w.heap[B]? = some (.cells #[.int .i64 x] 3 (0, 0))) (t r : Int) : Calls Try.prog 50 #[.agg #[.int .i64 t, .int .i64 r], .pointer (some ⟨B, 0, none⟩)] w (YB (decide (t = x)) w) := by
  have hA := (Below.refl _ w).alloc (Nat.le_refl _) (.cells #[.int .i64 t, .int .i64 r] 66)
  have c0 := cell_of_row _ _ 0 _ _ _ ((hA.block _ (lt_of_block h)).trans h)
  have HA := Lib.hid hA
  clear h hA
  go_enter Try.func50, Try.ntmps50
  go_wp2_with fail
  go_ret
  exact ⟨by simp; rw [Bool.eq_iff_iff]; simp, HA.out⟩
theorem any_any (w : World) (t r : Int) : Calls Try.prog 42 #[.agg #[.int .i64 t, .int .i64 r]] w (YB true w) := by
  have HA := Lib.hid ((Below.refl _ w).alloc (Nat.le_refl _) (.cells #[.int .i64 t, .int .i64 r] 66))
  go_enter Try.func42, Try.ntmps42
  go_wp2_with fail
  go_ret
  exact ⟨rfl, HA.out⟩
end Go.Proofs.Ytmheggedlepdlaa
