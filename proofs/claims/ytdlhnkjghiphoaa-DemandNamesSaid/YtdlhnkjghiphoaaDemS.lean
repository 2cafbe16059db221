/- Two rows of the call's own beside each other, beside numbers that are written. -/
import Derived.Test.YtdlhnkjghiphoaaDemN
import Derived.Test.YtdlhnkjghiphoaaDemK
import Derived.ArgAppend
import Derived.Laws.OwnMore
import Derived.Test.YtdlhnkjghiphoaaDemR
namespace Go.Proofs.Ytdlhnkjghiphoaa
open Go.RowKit Tk De
set_option linter.unusedVariables false

theorem wpList_append_eq {P : Program} {w : World} {ops : Array Oper} {rest : List Oper} {o : Oper} {a : Act} {Q : Exit → Act → World → Prop} (hgd : o.guard = none) (s x : Operand) (t u : TypeId)
    (ho : o.op = .call { callee := .builtin .append, args := #[s, x], argTypes := #[t, u] })
    (sv xv v' : Value) (w' : World) (hs : a.eval s = sv) (hx : a.eval x = xv) (hrun : (Builtin.append_ #[t, u] o.type #[sv, xv]).run P w = .ok v' w')
    (h : wpList P ops Q rest (a.put o.dst v') w') : wpList P ops Q (o :: rest) a w := by
  refine wpList_plain hgd fun K hK => ?_
  unfold Oper.wp
  simp [execOp, ho, resolve, invoke, builtin, hs, hx, hrun, Result.andThen]
  exact hK _ _ h
theorem step_append_eq {P : Program} {ops : Array Oper} {o : Oper} {a : Act} {w w' : World} {K : Act → World → Prop} {Q : Exit → Act → World → Prop} {E : Prop}
    (hg : o.guard = none) (s x : Operand) (t : TypeId) (hop : o.op = Op.call { callee := Callee.builtin Builtin.append, args := #[s, x], argTypes := #[t, t] })
    (sv xv v' : Value) (hs : a.eval s = sv) (hx : a.eval x = xv) (hrun : (Builtin.append_ #[t, t] o.type #[sv, xv]).run P w = .ok v' w') (hK : K (a.put o.dst v') w') :
    if Region.wanted o (yielded ops a.tmps) = true then Oper.wp P o a w K Q else E := by
  have hw : Region.wanted o (yielded ops a.tmps) = true := by simp [Region.wanted, hg]
  rw [if_pos hw]
  unfold Oper.wp
  simp [execOp, hop, resolve, invoke, builtin, hs, hx, hrun, Result.andThen]
  exact hK
/-- a number more in a row of the call's own: it stays where it was, or lies anew -/
theorem app_int {w : World} {B n : Nat} {v : Value} {xs : List Value} (ty : TypeId) (x : Int) {ab : Nat} (hown : w.ownsRow B 3 1 v n xs) (hc : w.cell? ⟨ab, 0, none⟩ = some (.int .i64 x)) (hB : B ≤ w.heap.size) (hn : n ≤ 1000) :
    ∃ v' w', (Builtin.append_ #[23, 23] ty #[v, .slice (some ⟨ab, 0, none⟩) 1 1]).run Try.prog w = .ok v' w' ∧ w'.ownsRow B 3 1 v' (n + 1) (xs ++ [.int .i64 x]) ∧ w.grownBy w' v.ownBlock ∧ (v'.ownBlock = v.ownBlock ∨ ∀ k, v'.ownBlock = some k → w.heap.size ≤ k) := by
  obtain ⟨i0, hi, hz0, hz1, hz2⟩ := info_parts infoIn
  have hnews : ∀ (j : Nat) (u : Value), ([Value.int .i64 x] : List Value)[j]? = some u → w.cell? ((⟨ab, 0, none⟩ : Addr).add j) = some u := by
    intro j u hj
    cases j with
    | zero => simp at hj; subst hj; exact hc
    | succ j => simp at hj
  have hm1 : n + 1 ≤ maxLen := by unfold maxLen; omega
  rcases hown.2 with ⟨rfl, h0⟩ | ⟨g, cap, cur, rfl, hg, hh, hnc, hcm, hcs, htk⟩
  · have hx0 : xs = [] := List.eq_nil_of_length_eq_zero (by have := hown.1; omega)
    subst hx0; subst h0
    obtain ⟨v', w', hrun, hown', hgr, _⟩ := run_append_own (P := Try.prog) w w.heap.size 23 ty 3 i0 (.int .i64 0) 1 8 Try.underlying23 hi hz0 hz1 hz2 rfl (by decide) (.slice none 0 0) 0 [] (World.ownsRow_nil w w.heap.size 3 1) ⟨ab, 0, none⟩ 1 1 [.int .i64 x] rfl hnews (one_i x) hm1 (by omega) (Nat.le_refl _)
    refine ⟨v', w', hrun, ⟨hown'.1, ?_⟩, hgr, Or.inr fun k hk => (hown'.lt k hk).1⟩
    rcases hown'.2 with hn | ⟨g', cap', cur, rfl, hb, rest⟩
    · exact Or.inl hn
    · exact Or.inr ⟨g', cap', cur, rfl, by omega, rest⟩
  · by_cases hroom : n + 1 ≤ cap
    · obtain ⟨w', hrun, hown', hgr⟩ := run_append_fits (P := Try.prog) w B 23 ty 3 i0 1 Try.underlying23 hi hz1 g n cap xs hown ⟨ab, 0, none⟩ 1 1 [.int .i64 x] rfl hnews (one_i x) hroom
      exact ⟨_, w', hrun, hown', hgr, Or.inl rfl⟩
    · obtain ⟨v', w', hrun, hown', hgr⟩ := run_append_arg_grows (P := Try.prog) w 23 ty 3 i0 (.int .i64 0) 1 8 Try.underlying23 hi hz0 hz1 hz2 rfl (by decide) ⟨g, 0, none⟩ n cap xs hown.1 (fun j u hj => World.ownsRow.cells hown (g := g) rfl j u hj) ⟨ab, 0, none⟩ 1 1 [.int .i64 x] rfl hnews (by omega) hm1 (by omega)
      refine ⟨v', w', hrun, ⟨hown'.1, ?_⟩, ⟨hgr.os, hgr.tape, hgr.output, hgr.size, fun k hk _ => hgr.block k hk (by simp)⟩, Or.inr fun k hk => (hown'.lt k hk).1⟩
      rcases hown'.2 with hn | ⟨g', cap', cur, rfl, hb, rest⟩
      · exact Or.inl hn
      · exact Or.inr ⟨g', cap', cur, rfl, by omega, rest⟩
/-- numbers, told by a row's cells -/
def nv (l : List Nat) : List Value := l.map fun q : Nat => Value.int .i64 q
/-- the state: numbers in block g, two rows behind it, apart -/
structure St (w1 W : World) (g : Nat) (cur : Array Value) (vE vA : Value) (es qs : List Nat) : Prop where
  below : Below g w1 W
  G : W.heap[g]? = some (.cells cur 3 (0, 0))
  E : W.ownsRow (g + 1) 3 1 vE es.length (nv es)
  A : W.ownsRow (g + 1) 3 1 vA qs.length (nv qs)
  ap : ∀ k, vE.ownBlock = some k → vA.ownBlock ≠ some k
theorem St.lt {w1 W : World} {g : Nat} {cur : Array Value} {vE vA : Value} {es qs : List Nat} (h : St w1 W g cur vE vA es qs) : g < W.heap.size := lt_of_block h.G
theorem St.drew {w1 W : World} {g : Nat} {cur : Array Value} {vE vA : Value} {es qs : List Nat} (h : St w1 W g cur vE vA es qs) : St w1 W.drew g cur vE vA es qs := ⟨h.below.drew, h.G, h.E, h.A, h.ap⟩
theorem St.alloc {w1 W : World} {g : Nat} {cur : Array Value} {vE vA : Value} {es qs : List Nat} (h : St w1 W g cur vE vA es qs) (o : Obj) : St w1 (W.alloc o) g cur vE vA es qs :=
  ⟨h.below.alloc (Nat.le_of_lt h.lt) o, (Below.heap_alloc _ _ _ h.lt).trans h.G, World.ownsRow.alloc h.E o, World.ownsRow.alloc h.A o, h.ap⟩
theorem St.swap {w1 W : World} {g : Nat} {cur : Array Value} {vE vA : Value} {es qs : List Nat} (h : St w1 W g cur vE vA es qs) : St w1 W g cur vA vE qs es := ⟨h.below, h.G, h.A, h.E, fun k hk e => h.ap k e hk⟩
theorem or_none_ne {a b : Option Nat} (h : ∀ k, a = some k → b ≠ some k) : b = none ∨ b ≠ a := by
  cases b with
  | none => exact Or.inl rfl
  | some k => exact Or.inr fun e => h k e.symm rfl
/-- a number more in the first row -/
theorem St.appE {w1 W : World} {g : Nat} {cur : Array Value} {vE vA : Value} {es qs : List Nat} (h : St w1 W g cur vE vA es qs) (ty : TypeId) (x : Nat) {ab : Nat} (hc : W.cell? ⟨ab, 0, none⟩ = some (.int .i64 x)) (hn : es.length ≤ 1000) :
    ∃ v' w', (Builtin.append_ #[23, 23] ty #[vE, .slice (some ⟨ab, 0, none⟩) 1 1]).run Try.prog W = .ok v' w' ∧ St w1 w' g cur v' vA (es ++ [x]) qs := by
  obtain ⟨v', w', hrun, hown, hgr, hblk⟩ := app_int ty x h.E hc h.lt hn
  have hgne : some g ≠ vE.ownBlock := fun e => by have := (h.E.lt g e.symm).1; omega
  refine ⟨v', w', hrun, h.below.grown hgr (Nat.le_of_lt h.lt) (fun k hk => by have := (h.E.lt k hk).1; omega), (hgr.block g h.lt hgne).trans h.G, ?_, World.ownsRow.kept h.A hgr (or_none_ne h.ap), fun k hk => ?_⟩
  · have e1 : (es ++ [x]).length = es.length + 1 := by simp
    have e2 : nv (es ++ [x]) = nv es ++ [.int .i64 x] := by simp [nv]
    rw [e1, e2]
    exact hown
  · rcases hblk with hb | hb
    · exact h.ap k (hb.symm.trans hk)
    · intro e
      have h1 := (h.A.lt k e).2
      have h2 := hb k hk
      omega
/-- a number more in the second row -/
theorem St.appA {w1 W : World} {g : Nat} {cur : Array Value} {vE vA : Value} {es qs : List Nat} (h : St w1 W g cur vE vA es qs) (ty : TypeId) (x : Nat) {ab : Nat} (hc : W.cell? ⟨ab, 0, none⟩ = some (.int .i64 x)) (hn : qs.length ≤ 1000) :
    ∃ v' w', (Builtin.append_ #[23, 23] ty #[vA, .slice (some ⟨ab, 0, none⟩) 1 1]).run Try.prog W = .ok v' w' ∧ St w1 w' g cur vE v' es (qs ++ [x]) := by
  obtain ⟨v', w', hrun, hs⟩ := h.swap.appE ty x hc hn
  exact ⟨v', w', hrun, hs.swap⟩
/-- a number is written -/
theorem St.set {w1 W : World} {g : Nat} {cur : Array Value} {vE vA : Value} {es qs : List Nat} (h : St w1 W g cur vE vA es qs) (i : Nat) (y : Value) : St w1 (W.setCell ⟨g, i, none⟩ y) g (cur.setIfInBounds i y) vE vA es qs := by
  have hgr : W.grownBy (W.setCell ⟨g, i, none⟩ y) (some g) := ⟨rfl, rfl, rfl, by simp [World.setCell], fun k hk hne => heap_set_other (fun e => hne (by rw [e]))⟩
  have key : ∀ {v : Value} {n : Nat} {xs : List Value}, W.ownsRow (g + 1) 3 1 v n xs → (W.setCell ⟨g, i, none⟩ y).ownsRow (g + 1) 3 1 v n xs := by
    intro v n xs hv
    refine World.ownsRow.kept hv hgr (or_none_ne fun k hk e => ?_)
    have h1 := (hv.lt k e).1
    have := Option.some.inj hk
    omega
  exact ⟨h.below.setCell (p := ⟨g, i, none⟩) (Nat.le_refl g) y, heap_set_same h.G, key h.E, key h.A, h.ap⟩
theorem is_of_nv {W : World} {B : Nat} {v : Value} {l : List Nat} (h : W.ownsRow B 3 1 v l.length (nv l)) : IS W v (l.map fun q : Nat => (q : Int)) :=
  is_of_own (base := B) (n := l.length) (by simp) (by
    have : (l.map fun q : Nat => (q : Int)).map (Value.int .i64) = nv l := by simp [nv, Function.comp_def]
    rw [this]; exact h)
end Go.Proofs.Ytdlhnkjghiphoaa
