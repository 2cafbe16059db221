/- Plainly: ceilings over entries and over what tasks hold; rows of calls that can be read; numbers behind numbers. -/
import Derived.Test.YtmheggedlepdlaaStaR
namespace Go.Proofs.Ytmheggedlepdlaa
open Go.RowKit Lv Sk Go.Sort
set_option linter.unusedVariables false

/-- each entry's task uses its resource -/
def Us (n : Nat) (z : Nat → Nat → Int) (l : List En) : Prop := ∀ e ∈ l, us n (lo z) e.2 e.1 = true
theorem Us.nil (n : Nat) (z : Nat → Nat → Int) : Us n z [] := fun e h => by cases h
theorem Us.sub {n : Nat} {z : Nat → Nat → Int} {l m : List En} (h : Us n z l) (s : m.Sublist l) : Us n z m := fun e he => h e (s.subset he)
theorem Us.lock {n : Nat} {z : Nat → Nat → Int} {l : List En} (h : Us n z l) (t r : Int) : Us n z (lockL n (us n (lo z) r t) l t r) := by
  unfold lockL
  split
  · next e =>
    obtain ⟨_, h2, _⟩ := lock0 e
    intro x hx
    rcases List.mem_append.mp hx with q | q
    · exact h x q
    · obtain rfl := List.mem_singleton.mp q
      exact h2
  · exact h
theorem ce_ge {n : Nat} {D : Nat → Int} {u : Nat → Bool} {j : Nat} (hu : u j = true) : ∀ {k : Nat}, j < k → lev n D j ≤ ce n D u k
  | k + 1, h => by
    unfold ce
    by_cases e : j = k
    · subst e; rw [if_pos hu]; omega
    · have := ce_ge (n := n) (D := D) hu (k := k) (by omega)
      split <;> omega
theorem lev_ceil {n : Nat} {z : Nat → Nat → Int} {t r : Int} (h : us n (lo z) r t = true) : lev n (dl z) t ≤ ceil n (dl z) (lo z) r := by
  obtain ⟨⟨h1, h2⟩, _⟩ := us_range h
  obtain ⟨j, rfl⟩ : ∃ j : Nat, t = j := ⟨t.toNat, by omega⟩
  exact ce_ge (u := fun i : Nat => us n (lo z) r (i : Int)) h (by omega)
theorem cls_nonneg (c : Int → Int) (l : List En) (k : Nat) : 0 ≤ cls c l k := by
  cases k with
  | zero => exact Int.le_refl _
  | succ k => unfold cls; have := cls_nonneg c l k; omega
theorem cls_ge {c : Int → Int} {l : List En} : ∀ {k i : Nat}, i < k → c (l.getD i e0).2 ≤ cls c l k
  | k + 1, i, h => by
    unfold cls
    by_cases e : i = k
    · subst e; omega
    · have := cls_ge (c := c) (l := l) (k := k) (i := i) (by omega); omega
theorem cls_le {c : Int → Int} {l : List En} {M : Int} (h0 : 0 ≤ M) : ∀ {k : Nat}, (∀ i, i < k → c (l.getD i e0).2 ≤ M) → cls c l k ≤ M
  | 0, _ => h0
  | k + 1, h => by
    unfold cls
    have := cls_le (c := c) (l := l) h0 (k := k) (fun i hi => h i (by omega))
    have := h k (by omega)
    omega
theorem hi_nonneg (c : Int → Int) (l : List Int) (k : Nat) : 0 ≤ hi c l k := by
  cases k with
  | zero => exact Int.le_refl _
  | succ k => unfold hi; have := hi_nonneg c l k; omega
theorem hi_ge {c : Int → Int} {l : List Int} : ∀ {k i : Nat}, i < k → c (l.getD i 0) ≤ hi c l k
  | k + 1, i, h => by
    unfold hi
    by_cases e : i = k
    · subst e; omega
    · have := hi_ge (c := c) (l := l) (k := k) (i := i) (by omega); omega
theorem hi_le {c : Int → Int} {l : List Int} {M : Int} (h0 : 0 ≤ M) : ∀ {k : Nat}, (∀ i, i < k → c (l.getD i 0) ≤ M) → hi c l k ≤ M
  | 0, _ => h0
  | k + 1, h => by
    unfold hi
    have := hi_le (c := c) (l := l) h0 (k := k) (fun i hi => h i (by omega))
    have := h k (by omega)
    omega
theorem getD_mem {l : List En} {i : Nat} (h : i < l.length) : l.getD i e0 ∈ l := by
  rw [List.getD_eq_getElem?_getD, List.getElem?_eq_getElem h]
  exact List.getElem_mem h
theorem cls_mem {c : Int → Int} {l : List En} {e : En} (h : e ∈ l) : c e.2 ≤ cls c l l.length := by
  obtain ⟨i, hi, rfl⟩ := List.mem_iff_getElem.mp h
  have := cls_ge (c := c) (l := l) hi
  rwa [List.getD_eq_getElem?_getD, List.getElem?_eq_getElem hi] at this
theorem hi_mem {c : Int → Int} {l : List Int} {x : Int} (h : x ∈ l) : c x ≤ hi c l l.length := by
  obtain ⟨i, hi', rfl⟩ := List.mem_iff_getElem.mp h
  have := hi_ge (c := c) (l := l) hi'
  rwa [List.getD_eq_getElem?_getD, List.getElem?_eq_getElem hi'] at this
/-- what the first k tasks have -/
def allN (l : List En) : Nat → List Int
  | 0 => []
  | k + 1 => allN l k ++ held l (k : Int)
theorem mem_all {l : List En} {x : Int} : ∀ {k : Nat}, x ∈ allN l k ↔ ∃ j : Nat, j < k ∧ x ∈ held l (j : Int)
  | 0 => ⟨(fun h => by cases h), (fun ⟨j, h, _⟩ => by omega)⟩
  | k + 1 => by
    unfold allN
    rw [List.mem_append, mem_all]
    constructor
    · rintro (⟨j, h1, h2⟩ | h)
      · exact ⟨j, by omega, h2⟩
      · exact ⟨k, by omega, h⟩
    · rintro ⟨j, h1, h2⟩
      by_cases e : j = k
      · subst e; exact Or.inr h2
      · exact Or.inl ⟨j, by omega, h2⟩
theorem all_len {l : List En} (h : H4 l) : ∀ k : Nat, (allN l k).length ≤ k * 4
  | 0 => Nat.le_refl _
  | k + 1 => by
    unfold allN
    have := all_len h k
    have := h (k : Int)
    rw [List.length_append]
    omega
theorem cls_all {c : Int → Int} {n : Nat} {l : List En} (ok : Ok n l) : cls c l l.length = hi c (allN l n) (allN l n).length := by
  apply Int.le_antisymm
  · refine cls_le (hi_nonneg _ _ _) fun i hi' => ?_
    have hm := getD_mem hi'
    have ht := ok.ts _ hm
    refine hi_mem (mem_all.mpr ⟨(l.getD i e0).1.toNat, by omega, ?_⟩)
    rw [held_mem, show (((l.getD i e0).1.toNat : Nat) : Int) = (l.getD i e0).1 by omega]
    exact hm
  · refine hi_le (cls_nonneg _ _ _) fun i hi' => ?_
    have hm : (allN l n).getD i 0 ∈ allN l n := by
      rw [List.getD_eq_getElem?_getD, List.getElem?_eq_getElem hi']
      exact List.getElem_mem hi'
    obtain ⟨j, _, h2⟩ := mem_all.mp hm
    exact cls_mem (held_mem.mp h2)
theorem all_pos {n : Nat} {l : List En} (ok : Ok n l) : decide (0 < l.length) = decide (0 < (allN l n).length) := by
  rw [Bool.eq_iff_iff, decide_eq_true_iff, decide_eq_true_iff]
  constructor
  · intro h
    have hm := getD_mem h
    have ht := ok.ts _ hm
    have : (l.getD 0 e0).2 ∈ allN l n := mem_all.mpr ⟨(l.getD 0 e0).1.toNat, by omega, by
      rw [held_mem, show (((l.getD 0 e0).1.toNat : Nat) : Int) = (l.getD 0 e0).1 by omega]
      exact hm⟩
    exact List.length_pos_of_mem this
  · intro h
    obtain ⟨x, hx⟩ := List.exists_mem_of_length_pos h
    obtain ⟨j, _, h2⟩ := mem_all.mp hx
    exact List.length_pos_of_mem (held_mem.mp h2)
theorem top_held {l : List En} (h : 0 < l.length) : 0 < (held l (topT l)).length := by
  unfold topT
  rw [if_neg (by omega)]
  exact List.length_pos_of_mem (held_mem.mpr (getD_mem (show l.length - 1 < l.length by omega)))
/-- calls that can be read -/
def DS (w : World) (v : Value) (n : Nat) (d : Nat → Nat → Int) : Prop :=
  ∃ a cap, v = .slice a n cap ∧ n ≤ cap ∧ cap ≤ maxLen ∧
    (0 < n → ∃ b off, a = some ⟨b, off, none⟩ ∧ ∀ i, i < n → ∀ j, j < 3 → w.cell? ⟨b, off + i * 3 + j, none⟩ = some (.int .i64 (d i j)))
theorem DS.nil (w : World) (d : Nat → Nat → Int) : DS w (.slice none 0 0) 0 d := ⟨none, 0, rfl, Nat.le_refl _, Nat.zero_le _, fun h => by cases h⟩
theorem DS.slice {w : World} {v : Value} {n : Nat} {d : Nat → Nat → Int} (h : DS w v n d) : ∃ a cap, v = .slice a n cap ∧ n ≤ cap ∧ cap ≤ maxLen := by obtain ⟨a, cap, h1, h2, h3, _⟩ := h; exact ⟨a, cap, h1, h2, h3⟩
theorem DS.below {w w' : World} {v : Value} {n : Nat} {d : Nat → Nat → Int} (h : DS w v n d) (q : Below w.heap.size w w') : DS w' v n d := by
  obtain ⟨a, cap, h1, h2, h3, h5⟩ := h
  exact ⟨a, cap, h1, h2, h3, fun hn => by obtain ⟨b, off, e, hc⟩ := h5 hn; exact ⟨b, off, e, fun i hi j hj => (q.cell (lt_of_cell (hc i hi j hj))).trans (hc i hi j hj)⟩⟩
theorem DS.at {w : World} {n cap : Nat} {a : Option Addr} {m : Nat} {d : Nat → Nat → Int} (h : DS w (.slice a n cap) m d) {i : Nat} (hi : i < n) : ∃ b off, a = some ⟨b, off, none⟩ ∧ w.cell? ⟨b, off + i * 3, none⟩ = some (.int .i64 (d i 0)) ∧ w.cell? ⟨b, off + i * 3 + 1, none⟩ = some (.int .i64 (d i 1)) ∧ w.cell? ⟨b, off + i * 3 + 2, none⟩ = some (.int .i64 (d i 2)) := by
  obtain ⟨a', cap', e, h1, h2, h4⟩ := h
  obtain ⟨rfl, rfl, rfl⟩ : a = a' ∧ n = m ∧ cap = cap' := by simpa using e
  obtain ⟨b, off, rfl, hc⟩ := h4 (by omega)
  exact ⟨b, off, rfl, hc i hi 0 (by decide), hc i hi 1 (by decide), hc i hi 2 (by decide)⟩
/-- numbers behind numbers -/
theorem app_nums {w : World} {C : Nat} {v u : Value} {xs ys : List Int} (h : NR w C v xs) (hu : IS w u ys) (hB : C ≤ w.heap.size) (hn : xs.length + ys.length ≤ 1000) (ty : TypeId) :
    ∃ v' w', (Builtin.append_ #[40, 40] ty #[v, u]).run Try.prog w = .ok v' w' ∧ NR w' C v' (xs ++ ys) ∧ Below C w w' := by
  obtain ⟨i0, hi, hz0, hz1, hz2⟩ := info_parts infoI13
  obtain ⟨a, cap, rfl, h1, h2, h3, h4⟩ := hu
  have e1 : (xs ++ ys).length = xs.length + ys.length := List.length_append
  have e2 : nums (xs ++ ys) = nums xs ++ nums ys := List.map_append
  have hone : ∀ u ∈ nums ys, u.oneCell' = true := fun u hu => by
    obtain ⟨x, _, rfl⟩ := List.mem_map.mp hu; rfl
  have hlen : (nums ys).length = ys.length * 1 := by unfold nums; simp
  by_cases h0 : ys = []
  · subst h0
    obtain ⟨va, vc, rfl⟩ := h.is_form
    have hle : xs.length ≤ vc := by obtain ⟨_, _, e, q, _⟩ := h.is; simp at e; omega
    have hs : Src Try.prog 1 40 (.slice a 0 cap) 0 [] w := by
      cases a with
      | none => exact Src.ofNil w Try.underlying40 cap
      | some ad => exact Src.ofSlice w Try.underlying40 ad 0 cap [] rfl (by intro j u hj; simp at hj) (by intro u hu; cases hu)
    exact ⟨_, w, run_append_nothing w _ _ ty 3 i0 Try.underlying40 hi va xs.length vc hle _ (by rw [hz1]; exact hs), by rw [List.append_nil]; exact h, Below.refl _ _⟩
  · obtain ⟨b, off, rfl, hc⟩ := h4 (List.length_pos_iff.mpr h0)
    obtain ⟨v', w', hrun, hown', hgr, _⟩ := run_append_own (P := Try.prog) w C 40 ty 3 i0 _ 1 8 Try.underlying40 hi hz0 hz1 hz2 rfl (by decide) v xs.length _ h ⟨b, off, none⟩ ys.length cap (nums ys) hlen
      (fun j u hj => by
        have hl : j < ys.length := by have := (List.getElem?_eq_some_iff.1 hj).1; unfold nums at this; simpa using this
        rw [nums_at ys j hl] at hj
        rw [Addr.add_lit, hc j hl]
        exact hj) hone (by unfold maxLen; omega) (by omega) hB
    refine ⟨v', w', hrun, ?_, (Below.refl C w).grown hgr hB (fun k e => (World.ownsRow.lt h k e).1)⟩
    unfold NR
    rw [e1, e2]
    exact hown'
/-- Bring, as a region that draws takes it -/
theorem bring_q (a n : Int) (h : 1 ≤ n) (hn : n ≤ 100000) (w : World) : Calls Try.prog 13 #[.int .i64 a, .int .i64 n] w (fun e w' => e = .returned (.int .i64 (bring a n)) ∧ w' = w) := bring_any a n w h (by omega)
end Go.Proofs.Ytmheggedlepdlaa
