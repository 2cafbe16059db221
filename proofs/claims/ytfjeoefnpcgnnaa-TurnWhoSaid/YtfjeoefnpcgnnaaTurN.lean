/- Numbers in rows: read, made, appended; Bring, EqInts. -/
import Derived.Test.YtfjeoefnpcgnnaaPurB
import Derived.OwnWalk
import Derived.ArgAppend
import Derived.Laws.OwnMore
import Derived.Deep.RegionLawGrows
import Derived.Deep.Upon
namespace Go.Proofs.Ytfjeoefnpcgnnaa.Pw
open Go.RowKit Go.Sort Pu
set_option linter.unusedVariables false
set_option maxRecDepth 100000

/-- numbers that can be read -/
def IS (w : World) (v : Value) (xs : List Int) : Prop :=
  ∃ a cap, v = .slice a xs.length cap ∧ xs.length ≤ cap ∧ cap ≤ maxLen ∧ (a = none → cap = 0) ∧ (0 < xs.length → ∃ b off, a = some ⟨b, off, none⟩ ∧ ∀ i, i < xs.length → w.cell? ⟨b, off + i, none⟩ = some (.int .i64 (xs.getD i 0)))
theorem IS.nil (w : World) : IS w (.slice none 0 0) [] := ⟨none, 0, rfl, Nat.le_refl _, Nat.zero_le _, fun _ => rfl, fun h => by cases h⟩
theorem IS.slice {w : World} {v : Value} {xs : List Int} (h : IS w v xs) : ∃ a cap, v = .slice a xs.length cap ∧ xs.length ≤ cap ∧ cap ≤ maxLen := by obtain ⟨a, cap, h1, h2, h3, _⟩ := h; exact ⟨a, cap, h1, h2, h3⟩
theorem IS.below {w w' : World} {v : Value} {xs : List Int} (h : IS w v xs) (q : Below w.heap.size w w') : IS w' v xs := by
  obtain ⟨a, cap, h1, h2, h3, h4, h5⟩ := h
  exact ⟨a, cap, h1, h2, h3, h4, fun hn => by obtain ⟨b, off, e, hc⟩ := h5 hn; exact ⟨b, off, e, fun i hi => (q.cell (World.block_lt_of_cell? w _ (hc i hi))).trans (hc i hi)⟩⟩
theorem IS.at {w : World} {n cap : Nat} {a : Option Addr} {xs : List Int} (h : IS w (.slice a n cap) xs) {i : Nat} (hi : i < n) : ∃ b off, a = some ⟨b, off, none⟩ ∧ w.cell? ⟨b, off + i, none⟩ = some (.int .i64 (xs.getD i 0)) := by
  obtain ⟨a', cap', e, h1, h2, h3, h4⟩ := h
  obtain ⟨rfl, rfl, rfl⟩ : a = a' ∧ n = xs.length ∧ cap = cap' := by simpa using e
  obtain ⟨b, off, rfl, hc⟩ := h4 (by omega)
  exact ⟨b, off, rfl, hc i hi⟩
theorem infoI13 : (Try.prog.info? 3).map (fun i => (i.zero, i.size, i.bytes)) = some (some (.int .i64 0), 1, 8) := by kernel_rfl
def nums (xs : List Int) : List Value := xs.map (Value.int .i64)
/-- numbers in a row of the call's own -/
def NR (w : World) (C : Nat) (v : Value) (xs : List Int) : Prop := w.ownsRow C 3 1 v xs.length (nums xs)
theorem NR.nil (w : World) (C : Nat) : NR w C (.slice none 0 0) [] := World.ownsRow_nil w C 3 1
theorem nums_at (xs : List Int) (i : Nat) (h : i < xs.length) : (nums xs)[i]? = some (.int .i64 (xs.getD i 0)) := by
  unfold nums
  rw [List.getElem?_map, List.getElem?_eq_getElem h, List.getD_eq_getElem?_getD, List.getElem?_eq_getElem h]
  rfl
theorem NR.is_form {w : World} {C : Nat} {v : Value} {xs : List Int} (h : NR w C v xs) : ∃ a cap, v = .slice a xs.length cap := by
  rcases h.2 with ⟨rfl, h0⟩ | ⟨g, cap, cur, rfl, _⟩
  · exact ⟨none, 0, by rw [h0]⟩
  · exact ⟨_, _, rfl⟩
theorem wpList_append_eq {P : Program} {w : World} {ops : Array Oper} {rest : List Oper} {o : Oper} {a : Act} {Q : Exit → Act → World → Prop} (hgd : o.guard = none) (s x : Operand) (t u : TypeId)
    (ho : o.op = .call { callee := .builtin .append, args := #[s, x], argTypes := #[t, u] })
    (sv xv v' : Value) (w' : World) (hs : a.eval s = sv) (hx : a.eval x = xv) (hrun : (Builtin.append_ #[t, u] o.type #[sv, xv]).run P w = .ok v' w')
    (h : wpList P ops Q rest (a.put o.dst v') w') : wpList P ops Q (o :: rest) a w := by
  refine wpList_plain hgd fun K hK => ?_
  unfold Oper.wp
  simp [execOp, ho, resolve, invoke, builtin, hs, hx, hrun, Result.andThen]
  exact hK _ _ h
/-- a number more -/
theorem app_num {w : World} {C : Nat} {v : Value} {xs : List Int} (h : NR w C v xs) (x : Int) {g : Nat} (hg : w.heap[g]? = some (.cells #[.int .i64 x] 3 (0, 0))) (hB : C ≤ w.heap.size) (hn : xs.length ≤ 1000) (ty : TypeId) :
    ∃ v' w', (Builtin.append_ #[23, 23] ty #[v, .slice (some ⟨g, 0, none⟩) 1 1]).run Try.prog w = .ok v' w' ∧ NR w' C v' (xs ++ [x]) ∧ Below C w w' := by
  obtain ⟨i0, hi, hz0, hz1, hz2⟩ := info_parts infoI13
  obtain ⟨v', w', hrun, hown', hgr, _⟩ := run_append_own (P := Try.prog) (w := w) C 23 ty 3 i0 (.int .i64 0) 1 8 Try.underlying23 hi hz0 hz1 hz2 rfl (by decide) v xs.length _ h ⟨g, 0, none⟩ 1 1 [.int .i64 x] rfl
    (fun j u hj => by rw [Addr.add_lit, Nat.zero_add, cell_of_row _ _ j _ _ _ hg, List.getElem?_toArray]; exact hj) (by intro u hu; simp at hu; subst hu; rfl) (by unfold maxLen; omega) (by omega) hB
  refine ⟨v', w', hrun, ?_, (Below.refl C w).grown hgr hB (fun k e => (World.ownsRow.lt h k e).1)⟩
  unfold NR nums at *
  rw [List.length_append, List.map_append]
  exact hown'
theorem NR.is {w : World} {C : Nat} {v : Value} {xs : List Int} (h : NR w C v xs) : IS w v xs := by
  have hc := fun g => World.ownsRow.cells h (g := g)
  rcases h.2 with ⟨rfl, h0⟩ | ⟨g, cap, cur, rfl, hb, hh, hnc, hcm, _⟩
  · rw [List.eq_nil_of_length_eq_zero h0]; exact IS.nil w
  · refine ⟨_, cap, rfl, hnc, hcm, (fun e => by cases e), fun _ => ⟨g, 0, rfl, fun i hi => ?_⟩⟩
    have q1 := hc g rfl _ _ (nums_at xs i hi)
    rw [Addr.add_lit] at q1
    exact q1
theorem own_base {w : World} {B C e size n : Nat} {v : Value} {xs : List Value} (h : w.ownsRow B e size v n xs) (hC : C ≤ B) : w.ownsRow C e size v n xs := by
  refine ⟨h.1, ?_⟩
  rcases h.2 with hn | ⟨g, cap, cur, rfl, hb, rest⟩
  · exact Or.inl hn
  · exact Or.inr ⟨g, cap, cur, rfl, by omega, rest⟩
/-- a number more: where it was, if there is room, or anew -/
theorem app_num2 {w : World} {B : Nat} {v : Value} {xs : List Int} (ty : TypeId) (x : Int) {g : Nat} (hown : NR w B v xs) (hg : w.heap[g]? = some (.cells #[.int .i64 x] 3 (0, 0))) (hB : B ≤ w.heap.size) (hn : xs.length ≤ 1000) :
    ∃ v' w', (Builtin.append_ #[23, 23] ty #[v, .slice (some ⟨g, 0, none⟩) 1 1]).run Try.prog w = .ok v' w' ∧ NR w' B v' (xs ++ [x]) ∧ w.grownBy w' v.ownBlock ∧ (v'.ownBlock = v.ownBlock ∨ ∀ k, v'.ownBlock = some k → w.heap.size ≤ k) := by
  obtain ⟨i0, hi, hz0, hz1, hz2⟩ := info_parts infoI13
  have hnews : ∀ (j : Nat) (u : Value), ([Value.int .i64 x] : List Value)[j]? = some u → w.cell? ((⟨g, 0, none⟩ : Addr).add j) = some u := by
    intro j u hj
    rw [Addr.add_lit, Nat.zero_add, cell_of_row _ _ j _ _ _ hg, List.getElem?_toArray]
    exact hj
  have hone : ∀ u ∈ ([Value.int .i64 x] : List Value), u.oneCell' = true := by
    intro u hu
    simp at hu
    subst hu
    rfl
  have hm1 : xs.length + 1 ≤ maxLen := by unfold maxLen; omega
  have e1 : (xs ++ [x]).length = xs.length + 1 := by simp
  have e2 : nums (xs ++ [x]) = nums xs ++ [.int .i64 x] := by unfold nums; rw [List.map_append]; rfl
  have fin : ∀ {w' : World} {v' : Value} {C : Nat}, B ≤ C → w'.ownsRow C 3 1 v' (xs.length + 1) (nums xs ++ [.int .i64 x]) → NR w' B v' (xs ++ [x]) := fun hC hown => by
    unfold NR; rw [e1, e2]; exact own_base hown hC
  have hlen : (nums xs).length = xs.length * 1 := by unfold nums; simp
  rcases hown.2 with ⟨rfl, h0⟩ | ⟨g0, cap, cur, rfl, hg0, hh, hnc, hcm, hcs, htk⟩
  · have hx0 : xs = [] := List.eq_nil_of_length_eq_zero h0
    subst hx0
    obtain ⟨v', w', hrun, hown', hgr, _⟩ := run_append_own (P := Try.prog) w w.heap.size 23 ty 3 i0 _ 1 8 Try.underlying23 hi hz0 hz1 hz2 rfl (by decide) (.slice none 0 0) 0 [] (World.ownsRow_nil w w.heap.size 3 1) ⟨g, 0, none⟩ 1 1 _ rfl hnews hone hm1 (by simp) (Nat.le_refl _)
    exact ⟨v', w', hrun, fin hB hown', hgr, Or.inr fun k hk => (hown'.lt k hk).1⟩
  · by_cases hroom : xs.length + 1 ≤ cap
    · obtain ⟨w', hrun, hown', hgr⟩ := run_append_fits (P := Try.prog) w B 23 ty 3 i0 1 Try.underlying23 hi hz1 g0 xs.length cap _ hown ⟨g, 0, none⟩ 1 1 _ rfl hnews hone hroom
      exact ⟨_, w', hrun, fin (Nat.le_refl _) hown', hgr, Or.inl rfl⟩
    · obtain ⟨v', w', hrun, hown', hgr⟩ := run_append_arg_grows (P := Try.prog) w 23 ty 3 i0 _ 1 8 Try.underlying23 hi hz0 hz1 hz2 rfl (by decide) ⟨g0, 0, none⟩ xs.length cap _ hlen (fun j u hj => World.ownsRow.cells hown (g := g0) rfl j u hj) ⟨g, 0, none⟩ 1 1 _ rfl hnews (by omega) hm1 (by omega)
      exact ⟨v', w', hrun, fin hB hown', ⟨hgr.os, hgr.tape, hgr.output, hgr.size, fun k hk _ => hgr.block k hk (by simp)⟩, Or.inr fun k hk => (hown'.lt k hk).1⟩
/-- numbers behind numbers -/
theorem app_nums {w : World} {C : Nat} {v u : Value} {xs ys : List Int} (h : NR w C v xs) (hu : IS w u ys) (hB : C ≤ w.heap.size) (hn : xs.length + ys.length ≤ 1000) (ty : TypeId) :
    ∃ v' w', (Builtin.append_ #[23, 23] ty #[v, u]).run Try.prog w = .ok v' w' ∧ NR w' C v' (xs ++ ys) ∧ Below C w w' := by
  obtain ⟨i0, hi, hz0, hz1, hz2⟩ := info_parts infoI13
  obtain ⟨a, cap, rfl, h1, h2, h3, h4⟩ := hu
  have e1 : (xs ++ ys).length = xs.length + ys.length := List.length_append
  have e2 : nums (xs ++ ys) = nums xs ++ nums ys := List.map_append
  have hone : ∀ u ∈ nums ys, u.oneCell' = true := fun u hu => by
    obtain ⟨x, _, rfl⟩ := List.mem_map.mp hu; rfl
  have hlen : (nums ys).length = ys.length * 1 := by unfold nums; simp
  by_cases h0 : ys = []
  · subst h0
    obtain ⟨va, vc, rfl⟩ := h.is_form
    have hle : xs.length ≤ vc := by obtain ⟨_, _, e, q, _⟩ := h.is; simp at e; omega
    have hs : Src Try.prog 1 23 (.slice a 0 cap) 0 [] w := by
      cases a with
      | none => exact Src.ofNil w Try.underlying23 cap
      | some ad => exact Src.ofSlice w Try.underlying23 ad 0 cap [] rfl (by intro j u hj; simp at hj) (by intro u hu; cases hu)
    exact ⟨_, w, run_append_nothing w _ _ ty 3 i0 Try.underlying23 hi va xs.length vc hle _ (by rw [hz1]; exact hs), by rw [List.append_nil]; exact h, Below.refl _ _⟩
  · obtain ⟨b, off, rfl, hc⟩ := h4 (List.length_pos_iff.mpr h0)
    obtain ⟨v', w', hrun, hown', hgr, _⟩ := run_append_own (P := Try.prog) w C 23 ty 3 i0 _ 1 8 Try.underlying23 hi hz0 hz1 hz2 rfl (by decide) v xs.length _ h ⟨b, off, none⟩ ys.length cap (nums ys) hlen
      (fun j u hj => by
        have hl : j < ys.length := by have := (List.getElem?_eq_some_iff.1 hj).1; unfold nums at this; simpa using this
        rw [nums_at ys j hl] at hj
        rw [Addr.add_lit, hc j hl]
        exact hj) hone (by unfold maxLen; omega) (by omega) hB
    refine ⟨v', w', hrun, ?_, (Below.refl C w).grown hgr hB (fun k e => (World.ownsRow.lt h k e).1)⟩
    unfold NR
    rw [e1, e2]
    exact hown'
/-- the same numbers are the same -/
theorem eqs_any {w : World} {u v : Value} {xs : List Int} (hu : IS w u xs) (hv : IS w v xs) (hl : xs.length ≤ 100000) : Calls Try.prog 11 #[u, v] w (TrueB w) := by
  obtain ⟨a, cap, rfl, hn1, hn2⟩ := hu.slice
  obtain ⟨b, cap', rfl, hn3, hn4⟩ := hv.slice
  have HU := Lib.hid hu
  have HV := Lib.hid hv
  obtain ⟨m, hm⟩ : ∃ m, m = xs.length := ⟨_, rfl⟩
  rw [← hm] at hl hn1 hn3 HU HV ⊢
  clear hu hv hm
  have mixed : Try.prog.follows .mixedOrders = true := by kernel_rfl
  go_enter Try.func11, Try.ntmps11
  go_wp2_with fail
  go_loopw [5] (fun i wr => ∃ k : Nat, k ≤ m ∧ i = .int .i64 k ∧ Hid (Below w.heap.size w wr)) (fun i _ => m - (intOf i).toNat)
  case atStart => exact ⟨0, Nat.zero_le _, rfl, Below.refl _ _⟩
  case round =>
    obtain ⟨k, hk, rfl, HB⟩ := hrel
    by_cases hlt : k < m
    · obtain ⟨b1, o1, rfl, e1⟩ := (HU.out.below HB.out).at hlt
      obtain ⟨b2, o2, rfl, e2⟩ := (HV.out.below HB.out).at hlt
      generalize xs.getD k 0 = q at *
      have hki : (k : Int) < (m : Int) := by omega
      have hk0 : (0 : Int) ≤ k := by omega
      go_wp2_with fail
      go_quiet (fail)
      go_wp2_with fail
      go_roundw
      case rel => exact ⟨k + 1, by omega, by go_num, below_drewN HB.out _⟩
      case measure => simp [intOf]; omega
    · obtain rfl : k = m := by omega
      go_wp2_with fail
      go_ret
      exact ⟨rfl, HB.out⟩
end Go.Proofs.Ytfjeoefnpcgnnaa.Pw
