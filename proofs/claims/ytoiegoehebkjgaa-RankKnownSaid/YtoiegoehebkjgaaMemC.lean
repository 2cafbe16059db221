/- How the document's rank lies in memory. -/
import Derived.Test.YtoiegoehebkjgaaMemB
import Derived.Test.YtoiegoehebkjgaaPlainB
namespace Go.Proofs.Ytoiegoehebkjgaa
open Go.RowKit Rk
set_option linter.unusedVariables false

theorem info63 : (Try.prog.info? 63).map (fun i => (i.zero, i.size, i.bytes)) = some (some (.agg #[.int .i64 0, .int .i64 0]), 2, 16) := by kernel_rfl
/-- cells of a list of entries -/
def lcells : List En → List Value
  | [] => []
  | x :: l => .int .i64 x.1 :: .int .i64 x.2 :: lcells l
theorem len_lcells (l : List En) : (lcells l).length = l.length * 2 := by
  induction l with
  | nil => rfl
  | cons x l ih => simp only [lcells, List.length_cons, ih]; omega
theorem lcells_append (l k : List En) : lcells (l ++ k) = lcells l ++ lcells k := by
  induction l with
  | nil => rfl
  | cons x l ih => simp only [List.cons_append, lcells, ih]
theorem get_lcells : ∀ (l : List En) (i : Nat) (h : i < l.length), (lcells l)[i * 2]? = some (.int .i64 (l[i]).1) ∧ (lcells l)[i * 2 + 1]? = some (.int .i64 (l[i]).2)
  | x :: l, 0, _ => ⟨rfl, rfl⟩
  | x :: l, i + 1, h => by
    have := get_lcells l i (by simpa using h)
    have e1 : (i + 1) * 2 = i * 2 + 1 + 1 := by omega
    have e2 : (i + 1) * 2 + 1 = i * 2 + 1 + 1 + 1 := by omega
    rw [e1]
    simp only [lcells, List.getElem?_cons_succ, List.getElem_cons_succ]
    exact this
theorem one_lcells (l : List En) : ∀ u ∈ lcells l, u.oneCell' = true := by
  induction l with
  | nil => intro u hu; cases hu
  | cons x l ih =>
    intro u hu
    simp only [lcells, List.mem_cons] at hu
    rcases hu with rfl | rfl | h
    · rfl
    · rfl
    · exact ih u h

/-- a row of entries, from block B on: a slice value v with its cells; where it lies (mg) -/
def LS (w : World) (B mg : Nat) (v : Value) (l : List En) : Prop :=
  w.ownsRow B 63 2 v l.length (lcells l) ∧ (v = .slice none 0 0 ∨ ∃ cap, v = .slice (some ⟨mg, 0, none⟩) l.length cap)
theorem LS.keep {w w' : World} {B mg : Nat} {v : Value} {l : List En} (h : LS w B mg v l) (e : w'.heap[mg]? = w.heap[mg]?) : LS w' B mg v l := by
  refine ⟨⟨h.1.1, ?_⟩, h.2⟩
  rcases h.1.2 with hn | ⟨g, cap, cur, hv, hb, hg, r⟩
  · exact Or.inl hn
  · rcases h.2 with h2 | ⟨c2, h2⟩
    · rw [h2] at hv; simp at hv
    · rw [hv] at h2
      simp only [Value.slice.injEq, Option.some.injEq, Addr.mk.injEq, and_true, true_and] at h2
      obtain ⟨rfl, _⟩ := h2
      exact Or.inr ⟨_, cap, cur, hv, hb, e.trans hg, r⟩
theorem LS.slice {w : World} {B mg : Nat} {v : Value} {l : List En} (h : LS w B mg v l) : ∃ a cap, v = .slice a l.length cap := by
  rcases h.1.2 with ⟨h1, h2⟩ | ⟨g, cap, cur, hv, _⟩
  · exact ⟨none, 0, by rw [h1, h2]⟩
  · exact ⟨_, _, hv⟩
theorem LS.form {w : World} {B mg : Nat} {v : Value} {l : List En} (h : LS w B mg v l) (hl : 0 < l.length) : ∃ cap, v = .slice (some ⟨mg, 0, none⟩) l.length cap ∧ l.length ≤ cap ∧ cap ≤ maxLen ∧ mg < w.heap.size := by
  rcases h.1.2 with ⟨h1, h2⟩ | ⟨g, cap, cur, hv, hb, hg, h3, h4, _⟩
  · omega
  · rcases h.2 with h2 | ⟨c2, h2⟩
    · rw [h2] at hv; simp at hv
    · rw [hv] at h2
      simp only [Value.slice.injEq, Option.some.injEq, Addr.mk.injEq, and_true, true_and] at h2
      obtain ⟨rfl, rfl⟩ := h2
      exact ⟨cap, hv, h3, h4, lt_of_heap hg⟩
theorem LS.cells {w : World} {B mg : Nat} {v : Value} {l : List En} (h : LS w B mg v l) (i : Nat) (hi : i < l.length) : w.cell? ⟨mg, i * 2, none⟩ = some (.int .i64 (l[i]).1) ∧ w.cell? ⟨mg, i * 2 + 1, none⟩ = some (.int .i64 (l[i]).2) := by
  obtain ⟨cap, hv, _⟩ := h.form (by omega)
  have ho := h.1
  rw [hv] at ho
  rw [ho.cellAt _ (by omega), ho.cellAt _ (by omega)]
  exact get_lcells l i hi

/-- the document's rank at block mb: its list lies at block mg -/
structure RF (w : World) (B mb mg : Nat) (l : List En) : Prop where
  ne : l ≠ [] → mb ≠ mg
  lg : mg < w.heap.size
  S : ∃ v, w.heap[mb]? = some (.cells #[v] 56 (0, 0)) ∧ LS w B mg v l
theorem RF.lb {w : World} {B mb mg : Nat} {l : List En} (h : RF w B mb mg l) : mb < w.heap.size := by obtain ⟨v, h1, _⟩ := h.S; exact lt_of_heap h1
theorem RF.keep {w w' : World} {B mb mg : Nat} {l : List En} (h : RF w B mb mg l) (hs : w.heap.size ≤ w'.heap.size) (e1 : w'.heap[mb]? = w.heap[mb]?) (e2 : w'.heap[mg]? = w.heap[mg]?) : RF w' B mb mg l := by
  obtain ⟨v, h1, h2⟩ := h.S
  exact ⟨h.ne, Nat.lt_of_lt_of_le h.lg hs, v, e1.trans h1, h2.keep e2⟩
theorem RF.below {w w' : World} {B mb mg : Nat} {l : List En} (h : RF w B mb mg l) (b : Below w.heap.size w w') : RF w' B mb mg l := h.keep b.size (b.block _ h.lb) (b.block _ h.lg)
theorem RF.only {S : Nat → Prop} {w w' : World} {B mb mg : Nat} {l : List En} (h : RF w B mb mg l) (o : Only S w w') (h1 : ¬ S mb) (h2 : ¬ S mg) : RF w' B mb mg l := h.keep o.size (o.block _ h.lb h1) (o.block _ h.lg h2)

/-- a row of entries of the call's own -/
def OE (w : World) (B : Nat) (v : Value) (l : List En) : Prop := w.ownsRow B 63 2 v l.length (lcells l)
theorem OE.nil (w : World) (B : Nat) : OE w B (.slice none 0 0) [] := World.ownsRow_nil w B 63 2
theorem OE.snoc {w : World} {B : Nat} {v : Value} {l : List En} {x : En} (h : w.ownsRow B 63 2 v (l.length + 1) (lcells l ++ [.int .i64 x.1, .int .i64 x.2])) : OE w B v (l ++ [x]) := by
  unfold OE
  rw [lcells_append, List.length_append]
  exact h
theorem OE.more {w : World} {B : Nat} {v : Value} {l k : List En} (h : w.ownsRow B 63 2 v (l.length + k.length) (lcells l ++ lcells k)) : OE w B v (l ++ k) := by
  unfold OE
  rw [lcells_append, List.length_append]
  exact h
theorem OE.slice {w : World} {B : Nat} {v : Value} {l : List En} (h : OE w B v l) : ∃ a cap, v = .slice a l.length cap := by
  rcases h.2 with ⟨h1, h2⟩ | ⟨g, cap, cur, hv, _⟩
  · exact ⟨none, 0, by rw [h1, h2]⟩
  · exact ⟨_, _, hv⟩
theorem OE.own {w : World} {B : Nat} {v : Value} {l : List En} (h : OE w B v l) : ∀ k, v.ownBlock = some k → B ≤ k := fun k hk => (h.lt k hk).1
/-- it becomes the document's rank's list -/
theorem OE.ls {w : World} {B B0 mb mg : Nat} {v : Value} {l : List En} (h : OE w B v l) (hB : mb < B) (hB0 : B0 ≤ B) (h2 : mg < w.heap.size) (u : Value) (hu : w.heap[mb]? = some (.cells #[u] 56 (0, 0))) :
    ∃ mg', RF (w.setCell ⟨mb, 0, none⟩ v) B0 mb mg' l ∧ (mg' = mg ∨ B ≤ mg') := by
  have e : (w.setCell ⟨mb, 0, none⟩ v).heap[mb]? = some (.cells #[v] 56 (0, 0)) := one_setCell hu
  have hsz : (w.setCell ⟨mb, 0, none⟩ v).heap.size = w.heap.size := by simp [World.setCell]
  rcases h.2 with ⟨hv, hn⟩ | ⟨g, cap, cur, hv, hb, hg, r⟩
  · refine ⟨mg, ⟨fun hne => (hne (List.eq_nil_of_length_eq_zero hn)).elim, by rw [hsz]; exact h2, v, e, ⟨⟨h.1, Or.inl ⟨hv, hn⟩⟩, Or.inl hv⟩⟩, Or.inl rfl⟩
  · refine ⟨g, ⟨fun _ => by omega, by rw [hsz]; exact lt_of_heap hg, v, e, ⟨⟨h.1, Or.inr ⟨g, cap, cur, hv, by omega, ?_, r⟩⟩, Or.inr ⟨cap, hv⟩⟩⟩, Or.inr hb⟩
    rw [heap_set_other (by omega)]; exact hg
theorem ownsRow_drew {w : World} {B : Nat} {v : Value} {n : Nat} {xs : List Value} (h : w.ownsRow B 63 2 v n xs) (k : Nat) : (w.drewN k).ownsRow B 63 2 v n xs := h
theorem cells2_new (w : World) (x y : Value) (t : TypeId) : ∀ (j : Nat) (u : Value), [x, y][j]? = some u → (w.alloc (.cells #[x, y] t)).cell? ((⟨w.heap.size, 0, none⟩ : Addr).add j) = some u := by
  intro j u hj
  rw [Addr.add_lit, Nat.zero_add, cell_of_row _ _ _ _ _ _ (heap_alloc_new w _)]
  match j, hj with
  | 0, hj => exact hj
  | 1, hj => exact hj
  | j + 2, hj => simp at hj

end Go.Proofs.Ytoiegoehebkjgaa
