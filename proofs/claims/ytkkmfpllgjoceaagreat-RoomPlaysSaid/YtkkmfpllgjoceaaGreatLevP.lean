/- Levels and ceilings, plainly: how many have a longer Deadline, who of those that use a resource has the shortest one. -/
import Derived.Test.YtkkmfpllgjoceaaGreatRows
import Derived.WalkKit
import Derived.WalkSpells
namespace Go.Proofs.YtkkmfpllgjoceaaGreat.St.Lv
set_option linter.unusedVariables false
set_option maxRecDepth 100000

/-- one more than how many of the first k have more than x -/
def lc (D : Nat → Int) (x : Int) : Nat → Int
  | 0 => 1
  | k + 1 => if x < D k then lc D x k + 1 else lc D x k
theorem lc_ge (D : Nat → Int) (x : Int) (k : Nat) : 1 ≤ lc D x k := by
  induction k with
  | zero => exact Int.le_refl _
  | succ k ih => unfold lc; split <;> omega
theorem lc_le (D : Nat → Int) (x : Int) (k : Nat) : lc D x k ≤ k + 1 := by
  induction k with
  | zero => exact Int.le_refl _
  | succ k ih => unfold lc; split <;> omega
theorem lc_own {D : Nat → Int} {i : Nat} : ∀ {k : Nat}, i < k → lc D (D i) k ≤ k
  | k + 1, h => by
    unfold lc
    by_cases e : i = k
    · subst e
      rw [if_neg (by omega)]
      have := lc_le D (D i) i
      omega
    · have := lc_own (D := D) (i := i) (k := k) (by omega)
      split <;> omega
theorem lc_mono {D : Nat → Int} {x y : Int} (h : x ≤ y) (k : Nat) : lc D y k ≤ lc D x k := by
  induction k with
  | zero => exact Int.le_refl _
  | succ k ih =>
    unfold lc
    by_cases e : y < D k
    · rw [if_pos e, if_pos (by omega)]; omega
    · rw [if_neg e]; split <;> omega
theorem lc_less {D : Nat → Int} {x : Int} {j : Nat} (h : x < D j) : ∀ {k : Nat}, j < k → lc D (D j) k + 1 ≤ lc D x k
  | k + 1, hk => by
    unfold lc
    by_cases e : j = k
    · subst e
      rw [if_neg (by omega), if_pos h]
      have := lc_mono (D := D) (Int.le_of_lt h) j
      omega
    · have ih := lc_less h (k := k) (by omega)
      by_cases e2 : D j < D k
      · rw [if_pos e2, if_pos (by omega)]; omega
      · rw [if_neg e2]; split <;> omega
/-- a task's level; 0, if there is none -/
def lev (n : Nat) (D : Nat → Int) (i : Int) : Int := if 0 ≤ i ∧ i < n then lc D (D i.toNat) n else 0
theorem lev_at {n : Nat} {D : Nat → Int} {i : Nat} (h : i < n) : lev n D i = lc D (D i) n := by
  unfold lev; rw [if_pos ⟨by omega, by omega⟩]; rfl
theorem lev_none {n : Nat} {D : Nat → Int} {i : Int} (h : ¬ (0 ≤ i ∧ i < n)) : lev n D i = 0 := by unfold lev; rw [if_neg h]
theorem lev_range (n : Nat) (D : Nat → Int) (i : Int) : 0 ≤ lev n D i ∧ lev n D i ≤ n := by
  unfold lev
  split
  · next h => exact ⟨by have := lc_ge D (D i.toNat) n; omega, lc_own (by omega)⟩
  · omega

/-- has a number this bit? -/
def bit (x r : Int) : Bool := bits BinOp.and IntKind.i64 (x / 2 ^ r.toNat) 1 == 1
/-- does a task use a resource? -/
def us (n : Nat) (U : Nat → Int) (r i : Int) : Bool := (decide (0 ≤ i) && decide (i < n)) && ((decide (0 ≤ r) && decide (r < 8)) && bit (U i.toNat) r)
/-- who of the first k has the shortest Deadline, of those that u tells; -1 without one -/
def fs (D : Nat → Int) (u : Nat → Bool) : Nat → Int
  | 0 => -1
  | k + 1 => if u k && (decide (fs D u k < 0) || decide (D k < D (fs D u k).toNat)) then k else fs D u k
/-- the highest level of the first k, of those that u tells -/
def ce (n : Nat) (D : Nat → Int) (u : Nat → Bool) : Nat → Int
  | 0 => 0
  | k + 1 => if u k then max (ce n D u k) (lev n D k) else ce n D u k
theorem fs_ce {n : Nat} {D : Nat → Int} {u : Nat → Bool} : ∀ {k : Nat}, k ≤ n →
    (fs D u k = -1 ∧ ce n D u k = 0 ∧ ∀ j, j < k → u j = false) ∨
    ∃ f : Nat, fs D u k = f ∧ f < k ∧ u f = true ∧ (∀ j, j < k → u j = true → D f ≤ D j) ∧ ce n D u k = lc D (D f) n
  | 0, _ => Or.inl ⟨rfl, rfl, fun j h => by omega⟩
  | k + 1, hk => by
    have hl : lev n D k = lc D (D k) n := lev_at (by omega)
    have hg := lc_ge D (D k) n
    unfold fs ce
    rw [hl]
    cases hu : u k with
    | false =>
      rcases fs_ce (D := D) (u := u) (n := n) (k := k) (by omega) with ⟨h1, h2, h3⟩ | ⟨f, h1, h2, h3, h4, h5⟩
      · left
        refine ⟨by simpa using h1, by simpa using h2, fun j hj => ?_⟩
        by_cases e : j = k
        · subst e; exact hu
        · exact h3 j (by omega)
      · right
        refine ⟨f, by simpa using h1, by omega, h3, fun j hj hj2 => ?_, by simpa using h5⟩
        by_cases e : j = k
        · subst e; rw [hu] at hj2; cases hj2
        · exact h4 j (by omega) hj2
    | true =>
      right
      rcases fs_ce (D := D) (u := u) (n := n) (k := k) (by omega) with ⟨h1, h2, h3⟩ | ⟨f, h1, h2, h3, h4, h5⟩
      · refine ⟨k, by rw [h1]; simp, by omega, hu, fun j hj hj2 => ?_, by rw [h2, if_pos rfl]; omega⟩
        by_cases e : j = k
        · subst e; exact Int.le_refl _
        · rw [h3 j (by omega)] at hj2; cases hj2
      · rw [h1, h5]
        simp only [Int.toNat_natCast, Bool.true_and, if_true]
        by_cases e : D k < D f
        · refine ⟨k, by simp [e], by omega, hu, fun j hj hj2 => ?_, ?_⟩
          · by_cases e2 : j = k
            · subst e2; exact Int.le_refl _
            · have := h4 j (by omega) hj2; omega
          · have := lc_mono (D := D) (Int.le_of_lt e) n; omega
        · refine ⟨f, ?_, by omega, h3, fun j hj hj2 => ?_, ?_⟩
          · rw [if_neg]; simp [e]
          · by_cases e2 : j = k
            · subst e2; omega
            · exact h4 j (by omega) hj2
          · have := lc_mono (D := D) (x := D f) (y := D k) (by omega) n; omega
theorem fs_range {n : Nat} {D : Nat → Int} {u : Nat → Bool} {k : Nat} (hk : k ≤ n) : -1 ≤ fs D u k ∧ fs D u k < k + 1 ∧ (0 ≤ fs D u k → (fs D u k).toNat < k) := by
  rcases fs_ce (D := D) (u := u) hk with ⟨h1, _⟩ | ⟨f, h1, h2, _⟩ <;> rw [h1] <;> omega
theorem ceil_eq (n : Nat) (D : Nat → Int) (u : Nat → Bool) : lev n D (fs D u n) = ce n D u n := by
  rcases fs_ce (n := n) (D := D) (u := u) (Nat.le_refl n) with ⟨h1, h2, _⟩ | ⟨f, h1, h2, _, _, h3⟩
  · rw [h1, h2, lev_none (by omega)]
  · rw [h1, h3, lev_at h2]
theorem max_if (q l : Int) : max q l = if q < l then l else q := by split <;> omega
/-- a resource's ceiling -/
def ceil (n : Nat) (D U : Nat → Int) (r : Int) : Int := ce n D (fun i => us n U r i) n
theorem ce_range (n : Nat) (D : Nat → Int) (u : Nat → Bool) (k : Nat) : 0 ≤ ce n D u k ∧ ce n D u k ≤ n := by
  induction k with
  | zero => exact ⟨Int.le_refl _, by unfold ce; omega⟩
  | succ k ih =>
    unfold ce
    have := lev_range n D k
    split <;> omega
theorem ceil_range (n : Nat) (D U : Nat → Int) (r : Int) : 0 ≤ ceil n D U r ∧ ceil n D U r ≤ n := ce_range _ _ _ _
/-- the highest of the first k -/
def hi (c : Int → Int) (l : List Int) : Nat → Int
  | 0 => 0
  | k + 1 => max (hi c l k) (c (l.getD k 0))
theorem hi_range {c : Int → Int} {l : List Int} {n : Nat} (h : ∀ r, 0 ≤ c r ∧ c r ≤ n) (k : Nat) : 0 ≤ hi c l k ∧ hi c l k ≤ n := by
  induction k with
  | zero => exact ⟨Int.le_refl _, by unfold hi; omega⟩
  | succ k ih => unfold hi; have := h (l.getD k 0); omega
end Go.Proofs.YtkkmfpllgjoceaaGreat.St.Lv
