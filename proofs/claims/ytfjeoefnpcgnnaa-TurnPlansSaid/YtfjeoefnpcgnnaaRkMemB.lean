/- What an append to the entries comes to. -/
import Derived.Test.YtfjeoefnpcgnnaaRkMemA
import Derived.Deep.RegionLawGrows
namespace Go.Proofs.Ytfjeoefnpcgnnaa.Rq
open Go.RowKit Rk
set_option linter.unusedVariables false
set_option maxRecDepth 100000

/-- an append whose run is known, as one step of a region that draws -/
theorem step_append_eq {P : Program} {ops : Array Oper} {o : Oper} {a : Act} {w w' : World} {K : Act → World → Prop} {Q : Exit → Act → World → Prop} {E : Prop}
    (hg : o.guard = none) (s x : Operand) (t : TypeId) (hop : o.op = Op.call { callee := Callee.builtin Builtin.append, args := #[s, x], argTypes := #[t, t] })
    (sv xv v' : Value) (hs : a.eval s = sv) (hx : a.eval x = xv) (hrun : (Builtin.append_ #[t, t] o.type #[sv, xv]).run P w = .ok v' w') (hK : K (a.put o.dst v') w') :
    if Region.wanted o (yielded ops a.tmps) = true then Oper.wp P o a w K Q else E := by
  have hw : Region.wanted o (yielded ops a.tmps) = true := by simp [Region.wanted, hg]
  rw [if_pos hw]
  unfold Oper.wp
  simp [execOp, hop, resolve, invoke, builtin, hs, hx, hrun, Result.andThen]
  exact hK

theorem info59 : (Try.prog.info? 95).map (fun i => (i.zero, i.size, i.bytes)) = some (some (.agg #[.int .i64 0, .int .i64 0]), 2, 16) := by kernel_rfl

/-- what is heaped: with entries, or with none so far -/
def HN (w : World) (hb g n : Nat) (f : Nat → En) (pl : Int → Int) (v : Value) : Prop :=
  (∃ cap, v = .slice (some ⟨g, 0, none⟩) n cap ∧ HM w hb g cap n f pl) ∨ (n = 0 ∧ g = hb ∧ v = .slice none 0 0 ∧ PL w hb (.slice none 0 0) pl)
theorem HN.P {w : World} {hb g n : Nat} {f : Nat → En} {pl : Int → Int} {v : Value} (h : HN w hb g n f pl v) : PL w hb v pl := by
  rcases h with ⟨cap, rfl, h⟩ | ⟨_, _, rfl, h⟩
  · exact h.P
  · exact h
theorem HN.keep {w w' : World} {hb g n : Nat} {f : Nat → En} {pl : Int → Int} {v : Value} (h : HN w hb g n f pl v) (e1 : w'.heap[hb]? = w.heap[hb]?) (e2 : w'.heap[g]? = w.heap[g]?) : HN w' hb g n f pl v := by
  rcases h with ⟨cap, hv, h⟩ | ⟨h1, h2, hv, h⟩
  · exact Or.inl ⟨cap, hv, h.keep e1 e2⟩
  · exact Or.inr ⟨h1, h2, hv, h.keep e1⟩
theorem HN.ltg {w : World} {hb g n : Nat} {f : Nat → En} {pl : Int → Int} {v : Value} (h : HN w hb g n f pl v) : g < w.heap.size := by
  rcases h with ⟨cap, hv, h⟩ | ⟨h1, h2, hv, h⟩
  · exact h.E.lt
  · rw [h2]; exact h.lt
theorem HN.only {S : Nat → Prop} {w w' : World} {hb g n : Nat} {f : Nat → En} {pl : Int → Int} {v : Value} (h : HN w hb g n f pl v) (o : Only S w w') (h1 : ¬ S hb) (h2 : ¬ S g) : HN w' hb g n f pl v :=
  h.keep (o.block _ h.P.lt h1) (o.block _ h.ltg h2)
theorem HN.below {w w' : World} {hb g n : Nat} {f : Nat → En} {pl : Int → Int} {v : Value} (h : HN w hb g n f pl v) (b : Below w.heap.size w w') : HN w' hb g n f pl v :=
  h.keep (b.block _ h.P.lt) (b.block _ h.ltg)
theorem HN.slice {w : World} {hb g n : Nat} {f : Nat → En} {pl : Int → Int} {v : Value} (h : HN w hb g n f pl v) : ∃ a cap, v = .slice a n cap := by
  rcases h with ⟨cap, rfl, h⟩ | ⟨rfl, h2, rfl, h⟩
  · exact ⟨_, _, rfl⟩
  · exact ⟨_, _, rfl⟩

theorem getE {xs : List Value} {n : Nat} {f : Nat → En} {x : En} (hl : xs.length = n * 2) (hf : ∀ i, i < n → xs[i * 2]? = some (.int .i64 (f i).1) ∧ xs[i * 2 + 1]? = some (.int .i64 (f i).2)) (i : Nat) (hi : i < n + 1) :
    (xs ++ [.int .i64 x.1, .int .i64 x.2])[i * 2]? = some (.int .i64 (up f n x i).1) ∧ (xs ++ [.int .i64 x.1, .int .i64 x.2])[i * 2 + 1]? = some (.int .i64 (up f n x i).2) := by
  by_cases e : i = n
  · subst e
    rw [up_same, List.getElem?_append_right (by omega), List.getElem?_append_right (by omega), hl]
    have e1 : i * 2 - i * 2 = 0 := by omega
    have e2 : i * 2 + 1 - i * 2 = 1 := by omega
    rw [e1, e2]
    exact ⟨rfl, rfl⟩
  · rw [up_other e, List.getElem?_append_left (by omega), List.getElem?_append_left (by omega)]
    exact hf i (by omega)
theorem en_of_own {w : World} {B g cap n : Nat} {ys : List Value} {f : Nat → En} (h : w.ownsRow B 95 2 (.slice (some ⟨g, 0, none⟩) n cap) n ys)
    (hf : ∀ i, i < n → ys[i * 2]? = some (.int .i64 (f i).1) ∧ ys[i * 2 + 1]? = some (.int .i64 (f i).2)) : EN w g cap n f ∧ n ≤ cap ∧ cap ≤ maxLen ∧ B ≤ g := by
  rcases h.2 with ⟨h', _⟩ | ⟨g', cap', cur, h', hb, hg, hnc, hcm, hcs, htake⟩
  · simp at h'
  · simp only [Value.slice.injEq, Option.some.injEq, Addr.mk.injEq, and_true, true_and] at h'
    obtain ⟨rfl, rfl⟩ := h'
    refine ⟨⟨cur, hg, hcs, fun i hi => ?_⟩, hnc, hcm, hb⟩
    have h1 := hf i hi
    rw [← htake, List.getElem?_take, List.getElem?_take, if_pos (by omega), if_pos (by omega)] at h1
    simpa using h1
theorem own_of_hm {w : World} {hb g cap n : Nat} {f : Nat → En} {pl : Int → Int} (h : HM w hb g cap n f pl) : ∃ xs, w.ownsRow 0 95 2 (.slice (some ⟨g, 0, none⟩) n cap) n xs ∧ xs.length = n * 2 ∧
    (∀ i, i < n → xs[i * 2]? = some (.int .i64 (f i).1) ∧ xs[i * 2 + 1]? = some (.int .i64 (f i).2)) ∧ ∀ j u, xs[j]? = some u → w.cell? ⟨g, j, none⟩ = some u := by
  obtain ⟨c, h1, h2, h3⟩ := h.E
  have hl : (c.toList.take (n * 2)).length = n * 2 := by rw [List.length_take, Array.length_toList]; have := h.le; omega
  refine ⟨c.toList.take (n * 2), ⟨hl, Or.inr ⟨g, cap, c, rfl, Nat.zero_le _, h1, h.le, h.max, h2, rfl⟩⟩, hl, fun i hi => ?_, fun j u hj => ?_⟩
  · rw [List.getElem?_take, List.getElem?_take, if_pos (by omega), if_pos (by omega)]
    simpa using h3 i hi
  · rw [List.getElem?_take] at hj
    split at hj
    · rw [cell_of_row w g j c 95 _ h1]; simpa using hj
    · cases hj

/-- an entry appended -/
theorem push_mem {w : World} {hb g n : Nat} {f : Nat → En} {pl : Int → Int} {v : Value} (h : HN w hb g n f pl v) (x : En) (ty : TypeId) (a : Addr) (h0 : w.cell? (a.add 0) = some (.int .i64 x.1)) (h1 : w.cell? (a.add 1) = some (.int .i64 x.2)) (hN : n ≤ 1000000) :
    ∃ g' cap' w', (Builtin.append_ #[99, 99] ty #[v, .slice (some a) 1 1]).run Try.prog w = .ok (.slice (some ⟨g', 0, none⟩) (n + 1) cap') w' ∧ EN w' g' cap' (n + 1) (up f n x) ∧ n + 1 ≤ cap' ∧ cap' ≤ maxLen ∧
      ((g' = g ∧ g ≠ hb) ∨ w.heap.size ≤ g') ∧ Only (fun k => k = g ∧ g ≠ hb) w w' := by
  obtain ⟨i0, hi, hz0, hz1, hz2⟩ := info_parts info59
  have hnews : ∀ j u, [Value.int .i64 x.1, .int .i64 x.2][j]? = some u → w.cell? (a.add j) = some u := by
    intro j u hj
    match j, hj with
    | 0, hj => simp only [List.getElem?_cons_zero, Option.some.injEq] at hj; rw [← hj]; exact h0
    | 1, hj => simp only [List.getElem?_cons_succ, List.getElem?_cons_zero, Option.some.injEq] at hj; rw [← hj]; exact h1
    | j + 2, hj => simp at hj
  have hone : ∀ u ∈ [Value.int .i64 x.1, .int .i64 x.2], u.oneCell' = true := by
    intro u hu
    simp only [List.mem_cons, List.not_mem_nil, or_false] at hu
    rcases hu with rfl | rfl <;> rfl
  have form : ∀ {B : Nat} {v' : Value} {w' : World} {ys : List Value}, w'.ownsRow B 95 2 v' (n + 1) ys → ∃ g' cap', v' = .slice (some ⟨g', 0, none⟩) (n + 1) cap' := by
    intro B v' w' ys ho
    rcases ho.2 with ⟨_, h'⟩ | ⟨g', cap', cur, h', _⟩
    · omega
    · exact ⟨g', cap', h'⟩
  rcases h with ⟨cap, rfl, hm⟩ | ⟨rfl, rfl, rfl, hp⟩
  · obtain ⟨xs, hown, hl, hxs, hcl⟩ := own_of_hm hm
    by_cases hroom : n + 1 ≤ cap
    · obtain ⟨w', hrun, ho, hgr⟩ := run_append_fits (P := Try.prog) w 0 99 ty 95 i0 2 Try.underlying99 hi hz1 g n cap xs hown a 1 1 _ rfl hnews hone hroom
      obtain ⟨e1, e2, e3, _⟩ := en_of_own ho (fun i hi => getE hl hxs i hi)
      exact ⟨g, cap, w', hrun, e1, e2, e3, Or.inl ⟨rfl, Ne.symm hm.ne⟩, ⟨hgr.os, hgr.tape, hgr.output, hgr.size, fun k hk hS => hgr.block k hk (fun e => hS ⟨by simpa using e, Ne.symm hm.ne⟩)⟩⟩
    · obtain ⟨v', w', hrun, ho, hgr⟩ := run_append_arg_grows (P := Try.prog) w 99 ty 95 i0 _ 2 16 Try.underlying99 hi hz0 hz1 hz2 rfl (by decide) ⟨g, 0, none⟩ n cap xs hl (fun j u hj => by rw [Addr.add_lit, Nat.zero_add]; exact hcl j u hj) a 1 1 _ rfl hnews (by omega) (by unfold maxLen; omega) (by omega)
      obtain ⟨g', cap', rfl⟩ := form ho
      obtain ⟨e1, e2, e3, e4⟩ := en_of_own ho (fun i hi => getE hl hxs i hi)
      exact ⟨g', cap', w', hrun, e1, e2, e3, Or.inr e4, ⟨hgr.os, hgr.tape, hgr.output, hgr.size, fun k hk hS => hgr.block k hk (fun e => by cases e)⟩⟩
  · obtain ⟨v', w', hrun, ho, hgr, _⟩ := run_append_own (P := Try.prog) w w.heap.size 99 ty 95 i0 _ 2 16 Try.underlying99 hi hz0 hz1 hz2 rfl (by decide) (.slice none 0 0) 0 [] (World.ownsRow_nil w _ 95 2) a 1 1 _ rfl hnews hone (by unfold maxLen; omega) (by omega) (Nat.le_refl _)
    obtain ⟨g', cap', rfl⟩ := form ho
    obtain ⟨e1, e2, e3, e4⟩ := en_of_own ho (fun i hi => getE (xs := []) (n := 0) rfl (fun i hi => by omega) i hi)
    exact ⟨g', cap', w', hrun, e1, e2, e3, Or.inr e4, ⟨hgr.os, hgr.tape, hgr.output, hgr.size, fun k hk hS => hgr.block k hk (fun e => by cases e)⟩⟩

theorem HN.alloc {w : World} {hb g n : Nat} {f : Nat → En} {pl : Int → Int} {v : Value} (h : HN w hb g n f pl v) (o : Obj) : HN (w.alloc o) hb g n f pl v := h.keep (Below.heap_alloc _ _ _ h.P.lt) (Below.heap_alloc _ _ _ h.ltg)
theorem HN.drew {w : World} {hb g n : Nat} {f : Nat → En} {pl : Int → Int} {v : Value} (h : HN w hb g n f pl v) : HN w.drew hb g n f pl v := h.keep rfl rfl
theorem made_cells {w : World} {x y : Value} {t : TypeId} {o : Obj} : (((w.alloc o).alloc (.cells #[x, y] t)).drew.cell? ⟨w.heap.size + 1, 0, none⟩ = some x) ∧ ((w.alloc o).alloc (.cells #[x, y] t)).drew.cell? ⟨w.heap.size + 1, 1, none⟩ = some y :=
  ⟨(cell_of_row _ _ _ _ _ _ (heap_alloc2_new w o (.cells #[x, y] t))).trans rfl, (cell_of_row _ _ _ _ _ _ (heap_alloc2_new w o (.cells #[x, y] t))).trans rfl⟩
theorem made_cells0 {w : World} {x y : Value} {t : TypeId} {o : Obj} : (((w.alloc (.cells #[x, y] t)).alloc o).drew.cell? ⟨w.heap.size, 0, none⟩ = some x) ∧ ((w.alloc (.cells #[x, y] t)).alloc o).drew.cell? ⟨w.heap.size, 1, none⟩ = some y :=
  ⟨(cell_of_row _ _ _ _ _ _ (heap_alloc2_old w (.cells #[x, y] t) o)).trans rfl, (cell_of_row _ _ _ _ _ _ (heap_alloc2_old w (.cells #[x, y] t) o)).trans rfl⟩
theorem up_up (f : Nat → En) (a : Nat) (x : En) : up (up f a x) a x = up f a x := by funext i; unfold up; split <;> rfl

end Go.Proofs.Ytfjeoefnpcgnnaa.Rq
