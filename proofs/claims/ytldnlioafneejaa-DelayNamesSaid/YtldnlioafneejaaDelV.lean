/- DelayNames. -/
import Derived.Test.YtldnlioafneejaaDelT
namespace Go.Proofs.Ytldnlioafneejaa
open Go.RowKit Tk De Dl
set_option linter.unusedVariables false

theorem wpList_append_on {P : Program} {w : World} {ops : Array Oper} {rest : List Oper} {o : Oper} {a : Act} {Q : Exit → Act → World → Prop} (hwant : Region.wanted o (yielded ops a.tmps) = true) (s x : Operand) (t u : TypeId)
    (ho : o.op = .call { callee := .builtin .append, args := #[s, x], argTypes := #[t, u] })
    (sv xv v' : Value) (w' : World) (hs : a.eval s = sv) (hx : a.eval x = xv) (hrun : (Builtin.append_ #[t, u] o.type #[sv, xv]).run P w = .ok v' w')
    (h : wpList P ops Q rest (a.put o.dst v') w') : wpList P ops Q (o :: rest) a w := by
  refine wpList_step fun K hK => ?_
  rw [if_pos hwant]
  unfold Oper.wp
  simp [execOp, ho, resolve, invoke, builtin, hs, hx, hrun, Result.andThen]
  exact hK _ _ h
def goodl : List (List Int) := [[64, 64, 64, 0, 64, 4, 32, 2]]
def good : Pn := ⟨64, 64, 1, lz goodl⟩
/-- the box of the one, its task -/
structure NB (w W : World) : Prop where
  kt : W.heap[w.heap.size]? = some (.cells #[.int .i64 64, .int .i64 64, .int .i64 64, .int .i64 0, .int .i64 64, .int .i64 4, .int .i64 32, .int .i64 2] 39 (0, 0))
  k : W.heap[w.heap.size + 1]? = some (.cells #[.int .i64 64, .int .i64 64, .slice (some ⟨w.heap.size, 0, none⟩) 1 1] 35 (0, 0))
  b : Below w.heap.size w W
theorem NB.low {w W W' : World} (h : NB w W) (q : Below (w.heap.size + 1 + 1) W W') : NB w W' :=
  ⟨(q.block _ (by omega)).trans h.kt, (q.block _ (by omega)).trans h.k, h.b.trans (q.mono (by omega))⟩
theorem NB.sz {w W : World} (h : NB w W) : w.heap.size + 1 + 1 ≤ W.heap.size := lt_of_block h.k
theorem NB.below {w W W' : World} (h : NB w W) (q : Below W.heap.size W W') : NB w W' := h.low (q.mono h.sz)
theorem NB.t {w W : World} (h : NB w W) : TK W (.slice (some ⟨w.heap.size, 0, none⟩) 1 1) 1 (lz goodl) :=
  tk_of (l := goodl) (by decide) (fun j u hj => by
    rw [cell_of_row _ _ j _ _ _ h.kt]
    rw [← List.getElem?_toArray] at hj
    exact hj) (by decide) (by decide)
theorem NB.c {w W : World} (h : NB w W) : W.cell? ⟨w.heap.size + 1, 0, none⟩ = some (.int .i64 64) ∧ W.cell? ⟨w.heap.size + 1, 1, none⟩ = some (.int .i64 64) ∧ W.cell? ⟨w.heap.size + 1, 2, none⟩ = some (.slice (some ⟨w.heap.size, 0, none⟩) 1 1) :=
  ⟨cell_of_row _ _ 0 _ _ _ h.k, cell_of_row _ _ 1 _ _ _ h.k, cell_of_row _ _ 2 _ _ _ h.k⟩
theorem many_ps {w W : World} {B : Nat} {v : Value} (h : NB w W) (m : Nat) (ho : W.ownsRow B 35 3 v m (pcells (List.replicate m (good, (.slice (some ⟨w.heap.size, 0, none⟩) 1 1))))) : PS W v (List.replicate m good) := by
  have := big_ps (W := W) (l := List.replicate m (good, (.slice (some ⟨w.heap.size, 0, none⟩) 1 1))) (by rw [List.length_replicate]; exact ho) (fun q hq => by
    have : q = (good, (.slice (some ⟨w.heap.size, 0, none⟩) 1 1)) := List.eq_of_mem_replicate hq
    subst this
    exact ⟨h.t, by show 1 ≤ 4; decide⟩) (Below.refl _ _)
  rwa [List.map_replicate] at this
/-- the four, too -/
structure NS (w W : World) : Prop extends NB w W where
  o : W.ownsRow (w.heap.size + 1 + 1) 35 3 (.slice (some ⟨w.heap.size + 1 + 1, 0, none⟩) 4 4) 4 (pcells (List.replicate 4 (good, (.slice (some ⟨w.heap.size, 0, none⟩) 1 1))))
theorem NS.below {w W W' : World} (h : NS w W) (q : Below W.heap.size W W') : NS w W' :=
  ⟨h.toNB.below q, h.o.kept (grown_of_below q) (Or.inr (by simp [Value.ownBlock]))⟩
def good4 : List Pn := List.replicate 4 good
def good5 : List Pn := List.replicate 5 good
theorem NS.ps {w W : World} (h : NS w W) : PS W (.slice (some ⟨w.heap.size + 1 + 1, 0, none⟩) 4 4) good4 := many_ps h.toNB 4 h.o
theorem names_start (w W : World) (hW : W = ((w.alloc (.cells #[.int .i64 64, .int .i64 64, .int .i64 64, .int .i64 0, .int .i64 64, .int .i64 4, .int .i64 32, .int .i64 2] 39)).alloc (.cells #[.int .i64 64, .int .i64 64, .slice (some ⟨w.heap.size, 0, none⟩) 1 1] 35)).alloc
      (.cells #[.int .i64 64, .int .i64 64, .slice (some ⟨w.heap.size, 0, none⟩) 1 1, .int .i64 64, .int .i64 64, .slice (some ⟨w.heap.size, 0, none⟩) 1 1, .int .i64 64, .int .i64 64, .slice (some ⟨w.heap.size, 0, none⟩) 1 1, .int .i64 64, .int .i64 64, .slice (some ⟨w.heap.size, 0, none⟩) 1 1] 35)) : NS w W := by
  subst hW
  have h1 := heap_alloc_new w (.cells #[.int .i64 64, .int .i64 64, .int .i64 64, .int .i64 0, .int .i64 64, .int .i64 4, .int .i64 32, .int .i64 2] 39)
  obtain ⟨o1, ho1⟩ : ∃ o : Obj, o = .cells #[.int .i64 64, .int .i64 64, .int .i64 64, .int .i64 0, .int .i64 64, .int .i64 4, .int .i64 32, .int .i64 2] 39 := ⟨_, rfl⟩
  rw [← ho1] at h1 ⊢
  obtain ⟨o2, ho2⟩ : ∃ o : Obj, o = .cells #[.int .i64 64, .int .i64 64, .slice (some ⟨w.heap.size, 0, none⟩) 1 1] 35 := ⟨_, rfl⟩
  rw [← ho2]
  have h2 := heap_alloc_new (w.alloc o1) o2
  have h3 := World.ownsRow_lit (base := w.heap.size + 1 + 1) (e := 35) (size := 3) ((w.alloc o1).alloc o2) #[.int .i64 64, .int .i64 64, .slice (some ⟨w.heap.size, 0, none⟩) 1 1, .int .i64 64, .int .i64 64, .slice (some ⟨w.heap.size, 0, none⟩) 1 1, .int .i64 64, .int .i64 64, .slice (some ⟨w.heap.size, 0, none⟩) 1 1, .int .i64 64, .int .i64 64, .slice (some ⟨w.heap.size, 0, none⟩) 1 1] 4 (by simp) (by decide) rfl
  generalize (.cells #[.int .i64 64, .int .i64 64, .slice (some ⟨w.heap.size, 0, none⟩) 1 1, .int .i64 64, .int .i64 64, .slice (some ⟨w.heap.size, 0, none⟩) 1 1, .int .i64 64, .int .i64 64, .slice (some ⟨w.heap.size, 0, none⟩) 1 1, .int .i64 64, .int .i64 64, .slice (some ⟨w.heap.size, 0, none⟩) 1 1] 35 : Obj) = o3 at *
  have h2' := (Below.heap_alloc _ o3 _ (lt_of_block h2)).trans h2
  have h1' := (Below.heap_alloc _ o3 _ (by rw [World.size_alloc]; exact Nat.lt_succ_of_lt (lt_of_block h1))).trans ((Below.heap_alloc _ o2 _ (lt_of_block h1)).trans h1)
  rw [World.size_alloc] at h2'
  simp only [World.size_alloc] at h3
  exact ⟨⟨by rw [h1', ho1], by rw [h2', ho2], (((Below.refl _ w).alloc (Nat.le_refl _) _).alloc (by simp) _).alloc (by simp; omega) _⟩, h3⟩
theorem five_facts {w W : World} (h : NS w W) (ty : TypeId) : ∃ v' w', (Builtin.append_ #[22, 22] ty #[(.slice (some ⟨w.heap.size + 1 + 1, 0, none⟩) 4 4), .slice (some ⟨W.heap.size, 0, none⟩) 1 1]).run Try.prog (W.alloc (.cells #[.int .i64 64, .int .i64 64, .slice (some ⟨w.heap.size, 0, none⟩) 1 1] 35)) = .ok v' w' ∧
    PS w' v' good5 ∧ NB w w' ∧ ∃ a c, v' = .slice a 5 c := by
  have hb0 := (Below.refl W.heap.size W).alloc (Nat.le_refl _) (.cells #[.int .i64 64, .int .i64 64, .slice (some ⟨w.heap.size, 0, none⟩) 1 1] 35)
  have hn := h.below hb0
  have hl := World.ownsRow_lit (base := 0) (e := 35) (size := 3) W #[.int .i64 64, .int .i64 64, .slice (some ⟨w.heap.size, 0, none⟩) 1 1] 1 (Nat.zero_le _) (by decide) rfl
  obtain ⟨v', w', hrun, hown, hbb⟩ := app_parts hn.o (l := [(good, (.slice (some ⟨w.heap.size, 0, none⟩) 1 1))]) hl (fun q hq => by
    have : q = (good, (.slice (some ⟨w.heap.size, 0, none⟩) 1 1)) := by simpa using hq
    subst this
    rfl) hn.toNB.sz (by show 4 + 1 ≤ 8; decide) ty
  have hn2 := hn.toNB.low hbb
  exact ⟨v', w', hrun, many_ps hn2 5 hown, hn2, own_form hown⟩
theorem kn1 : waR good4 3 0 = (384, 0) := by decide +kernel
theorem kn2 : deR good4 0 63 = (447, 0) := by decide +kernel
theorem kn3 : waR good4 4 0 = (0, 9) := by decide +kernel
theorem kn4 : waR good4 0 1 = (0, 9) := by decide +kernel
theorem kn5 : moR good4 (-1) = ([], 9) := by decide +kernel
theorem kn6 : deR good4 0 (-1) = (0, 2) := by decide +kernel
theorem kn7 : deR good4 9 (-1) = (0, 9) := by decide +kernel
theorem kn8 : chkPE good4 = 0 := by decide +kernel
theorem kn9 : chkPE [] = 0 := by decide +kernel
theorem kn10 : chkPE good5 = 2 := by decide +kernel
/-- one task in a row of its own, one partition with it -/
theorem case_tk (v : World) (o1 o2 : Obj) (t : List Int) (ht : t.length = 8) : TK (((v.alloc o1).alloc o2).alloc (.cells (t.map (Value.int .i64)).toArray 39)) (.slice (some ⟨v.heap.size + 1 + 1, 0, none⟩) 1 1) 1 (lz [t]) := by
  have hk := heap_alloc_new ((v.alloc o1).alloc o2) (.cells (t.map (Value.int .i64)).toArray 39)
  simp only [World.size_alloc] at hk
  refine tk_of (l := [t]) (by simpa using ht) (fun j u hj => ?_) (Nat.le_refl 1) (by decide)
  rw [cell_of_row _ _ j _ _ _ hk, List.getElem?_toArray]
  simpa [tcells] using hj
end Go.Proofs.Ytldnlioafneejaa
