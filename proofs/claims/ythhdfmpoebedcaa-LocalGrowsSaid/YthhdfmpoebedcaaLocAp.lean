/- Appends of partitions to a row of the call's own. -/
import Derived.Test.YthhdfmpoebedcaaLocMb
import Derived.Test.YthhdfmpoebedcaaLocI
import Derived.BigQuiet
namespace Go.Proofs.Ythhdfmpoebedcaa
open Go.RowKit Tk De Dl
set_option linter.unusedVariables false

theorem app_ok {L : List Pn} {X : Pn} (hok : chkP L = true) (hl : L.length ≤ 3) (hX : PB X) : chkP (L ++ [X]) = true := by
  refine okP_all (fun i hi => ?_) (by rw [List.length_append, List.length_singleton]; omega)
  rw [List.length_append, List.length_singleton] at hi
  by_cases h : i < L.length
  · rw [getD_app h]; exact okP_iff.2 (chkP_at hok h)
  · have : i = L.length := by omega
    rw [this, getD_end]; exact okP_iff.2 hX

theorem wpList_append_eq {P : Program} {w : World} {ops : Array Oper} {rest : List Oper} {o : Oper} {a : Act} {Q : Exit → Act → World → Prop} (hgd : o.guard = none) (s x : Operand) (t u : TypeId)
    (ho : o.op = .call { callee := .builtin .append, args := #[s, x], argTypes := #[t, u] })
    (sv xv v' : Value) (w' : World) (hs : a.eval s = sv) (hx : a.eval x = xv) (hrun : (Builtin.append_ #[t, u] o.type #[sv, xv]).run P w = .ok v' w')
    (h : wpList P ops Q rest (a.put o.dst v') w') : wpList P ops Q (o :: rest) a w := by
  refine wpList_plain hgd fun K hK => ?_
  unfold Oper.wp
  simp [execOp, ho, resolve, invoke, builtin, hs, hx, hrun, Result.andThen]
  exact hK _ _ h
theorem pcells_one : ∀ {l : List (Pn × Value)}, (∀ q ∈ l, q.2.oneCell' = true) → ∀ u ∈ pcells l, u.oneCell' = true
  | [], _, u, hu => by cases hu
  | (p, v) :: r, h, u, hu => by
    simp only [pcells, List.mem_cons] at hu
    rcases hu with rfl | rfl | rfl | hu
    · rfl
    · rfl
    · exact h (p, u) (by simp)
    · exact pcells_one (fun q hq => h q (by simp [hq])) u hu
theorem TW.oneCell {w : World} {B n : Nat} {v : Value} {z : Nat → Nat → Int} (h : TW w B v n z) : v.oneCell' = true := by
  obtain ⟨a, c, rfl⟩ := h.slice
  rfl
/-- an append of partitions of the call's own to partitions of the call's own -/
theorem app_parts {w : World} {B n : Nat} {v : Value} {xs : List Value} (hown : w.ownsRow B 33 3 v n xs) {C : Nat} {x : Value} {l : List (Pn × Value)} (hx : w.ownsRow C 33 3 x l.length (pcells l)) (h1 : ∀ q ∈ l, q.2.oneCell' = true)
    (hB : B ≤ w.heap.size) (hn : n + l.length ≤ 8) (ty : TypeId) :
    ∃ v' w', (Builtin.append_ #[22, 22] ty #[v, x]).run Try.prog w = .ok v' w' ∧ w'.ownsRow B 33 3 v' (n + l.length) (xs ++ pcells l) ∧ Below B w w' := by
  obtain ⟨i0, hi, hz0, hz1, hz2⟩ := info_parts infoPt
  have hc := hx
  rcases hx.2 with ⟨rfl, h0⟩ | ⟨g, cap, cur, rfl, hg, hh, hnc, hcm, _⟩
  · have : l = [] := List.eq_nil_of_length_eq_zero h0
    subst this
    refine ⟨v, w, run_append_owned_none (P := Try.prog) (w := w) B 22 ty 33 i0 3 Try.underlying22 hi v n xs hown, ?_, Below.refl _ _⟩
    simpa [pcells] using hown
  · obtain ⟨v', w', hrun, hown', hgr, _⟩ := run_append_own (P := Try.prog) (w := w) B 22 ty 33 i0 _ 3 40 Try.underlying22 hi hz0 hz1 hz2 rfl (by decide) v n xs hown ⟨g, 0, none⟩ l.length cap (pcells l) (pcells_len l)
      (fun j u hj => World.ownsRow.cells hc (g := g) rfl j u hj) (pcells_one h1) (by unfold maxLen; omega) (by omega) hB
    exact ⟨v', w', hrun, hown', (Below.refl B w).grown hgr hB (fun k e => (hown.lt k e).1)⟩
theorem own_form {w : World} {B k : Nat} {v : Value} {xs : List Value} (h : w.ownsRow B 33 3 v k xs) : ∃ a cap, v = .slice a k cap := by
  rcases h.2 with ⟨rfl, rfl⟩ | ⟨g, cap, cur, rfl, _⟩
  · exact ⟨_, _, rfl⟩
  · exact ⟨_, _, rfl⟩
/-- a row of the call's own over tasks that were there -/
theorem big_ps {W W' : World} {B : Nat} {v : Value} {l : List (Pn × Value)} (ho : W'.ownsRow B 33 3 v l.length (pcells l)) (hT : ∀ q ∈ l, TK W q.2 q.1.n q.1.z ∧ q.1.n ≤ 4) (hb : Below W.heap.size W W') : PS W' v (l.map (·.1)) := by
  have hc := ho
  rcases ho.2 with ⟨rfl, h0⟩ | ⟨g, cap, cur, rfl, hg, hh, hnc, hcm, _⟩
  · have : l = [] := List.eq_nil_of_length_eq_zero h0
    subst this
    exact PS.nil _
  · refine ps_of (fun j u hj => ?_) (fun i hi => ?_) hnc hcm
    · have := World.ownsRow.cells hc (g := g) rfl j u hj
      rw [Addr.add_lit, Nat.zero_add] at this
      exact this
    · have hm : l.getD i pr0 ∈ l := by
        have : l.getD i pr0 = l[i] := by simp [List.getD, List.getElem?_eq_getElem hi]
        rw [this]; exact List.getElem_mem hi
      have := hT _ hm
      exact ⟨this.1.below hb, by have := this.2; omega⟩
theorem empty_own (w : World) (B : Nat) (hB : B ≤ w.heap.size) : (w.alloc (.cells #[] 33)).ownsRow B 33 3 (.slice (some ⟨w.heap.size, 0, none⟩) 0 0) 0 [] :=
  World.ownsRow_made w #[] 0 hB (Nat.zero_le _) rfl
/-- both appends -/
theorem big_facts {w : World} {B1 B2 : Nat} {r x : Value} {L M : List Pn} (h1 : PW w B1 r L) (h2 : PW w B2 x M) (hl : L.length + M.length ≤ 8) (ty1 ty2 : TypeId) :
    ∃ v1 W1 v2 W2 a2 c2, v2 = .slice a2 (L.length + M.length) c2 ∧ (Builtin.append_ #[22, 22] ty1 #[.slice (some ⟨w.heap.size, 0, none⟩) 0 0, r]).run Try.prog (w.alloc (.cells #[] 33)) = .ok v1 W1 ∧
      (Builtin.append_ #[22, 22] ty2 #[v1, x]).run Try.prog W1 = .ok v2 W2 ∧ PS W2 v2 (L ++ M) ∧ Below w.heap.size w W2 ∧ (∃ a1 c1, v1 = .slice a1 L.length c1) := by
  obtain ⟨l, rfl, ho, ht⟩ := h1
  obtain ⟨m, rfl, mo, mt⟩ := h2
  rw [List.length_map, List.length_map] at hl
  have hb0 := (Below.refl w.heap.size w).alloc (Nat.le_refl _) (.cells #[] 33)
  obtain ⟨v1, W1, r1, o1, b1⟩ := app_parts (empty_own w w.heap.size (Nat.le_refl _)) (ho.kept (grown_of_below hb0) (by cases r.ownBlock <;> simp)) (fun q hq => (ht q hq).1.oneCell) (by rw [World.size_alloc]; omega) (by omega) ty1
  have hb1 := hb0.trans b1
  obtain ⟨v2, W2, r2, o2, b2⟩ := app_parts o1 (mo.kept (grown_of_below hb1) (by cases x.ownBlock <;> simp)) (fun q hq => (mt q hq).1.oneCell) hb1.size (by omega) ty2
  have hb2 := hb1.trans b2
  rw [Nat.zero_add] at o1 o2
  obtain ⟨a1, c1, e1⟩ := own_form o1
  obtain ⟨a2, c2, e2⟩ := own_form o2
  have hp := big_ps (W := w) (l := l ++ m) (by rw [List.length_append, pcells_app]; simpa using o2) (fun q hq => by
    rcases List.mem_append.1 hq with hq | hq
    · exact ⟨(ht q hq).1.tk, (ht q hq).2⟩
    · exact ⟨(mt q hq).1.tk, (mt q hq).2⟩) hb2
  rw [List.map_append] at hp
  exact ⟨v1, W1, v2, W2, a2, c2, by rw [e2, List.length_map, List.length_map], r1, r2, hp, hb2, a1, c1, by rw [e1, List.length_map]⟩
end Go.Proofs.Ythhdfmpoebedcaa
