/- What jobs ask for, plainly: the pairs that the statement lays, and their sum. -/
import Derived.Test.YtdlhnkjghiphoaaDemQ
namespace Go.Proofs.Ytdlhnkjghiphoaa.De
open Tk
set_option linter.unusedVariables false

/-- when the next job may be released; when it is -/
def atk (P : Nat) (d : Nat → Nat) (i : Nat) : Nat → Nat
  | 0 => 0
  | k + 1 => atk P d i k + d (i * 10 + k) + P
def rel (P : Nat) (d : Nat → Nat) (i k : Nat) : Nat := atk P d i k + d (i * 10 + k)
theorem atk_le {P : Nat} {d : Nat → Nat} (hP : P ≤ 64) (hd : ∀ j, d j ≤ 20) (i : Nat) : ∀ k, atk P d i k ≤ k * 84
  | 0 => Nat.le_refl _
  | k + 1 => by
    have := atk_le hP hd i k
    have := hd (i * 10 + k)
    unfold atk
    omega
theorem rel_step (P : Nat) (d : Nat → Nat) (i k : Nat) : rel P d i k + P ≤ rel P d i (k + 1) := by
  unfold rel
  rw [atk]
  omega
theorem spaced_range (P : Nat) (f : Nat → Nat) (h : ∀ k, f k + P ≤ f (k + 1)) : ∀ (n s : Nat), Spaced P ((List.range' s n).map f)
  | 0, _ => trivial
  | 1, _ => trivial
  | n + 2, s => by
    have ih := spaced_range P f h (n + 1) (s + 1)
    rw [List.range'_succ, List.map_cons]
    rw [List.range'_succ, List.map_cons] at ih ⊢
    exact ⟨h s, ih⟩
theorem cj_append (D b t : Nat) : ∀ (xs ys : List Nat), cj D b t (xs ++ ys) = cj D b t xs + cj D b t ys
  | [], ys => by simp [cj]
  | x :: r, ys => by rw [List.cons_append, cj, cj, cj_append]; omega
/-- the pairs of a task: how far off the deadline is, what is asked for -/
def pt (b P D J : Nat) (d : Nat → Nat) (i : Nat) : Nat → List (Nat × Nat)
  | 0 => []
  | k + 1 => pt b P D J d i k ++ (if b ≤ rel P d i k then [(rel P d i k + D - b, J)] else [])
def su (t : Nat) : List (Nat × Nat) → Nat
  | [] => 0
  | q :: r => (if q.1 ≤ t then q.2 else 0) + su t r
theorem su_append (t : Nat) : ∀ xs ys, su t (xs ++ ys) = su t xs + su t ys
  | [], ys => by simp [su]
  | x :: r, ys => by rw [List.cons_append, su, su, su_append]; omega
theorem su_pt (b P D J t : Nat) (d : Nat → Nat) (i : Nat) : ∀ k, su t (pt b P D J d i k) = cj D b t ((List.range k).map (rel P d i)) * J
  | 0 => by simp [pt, su, cj]
  | k + 1 => by
    rw [pt, su_append, su_pt, List.range_succ, List.map_append, cj_append, Nat.add_mul]
    congr 1
    simp only [List.map_cons, List.map_nil, cj, Nat.add_zero]
    unfold hit
    by_cases h1 : b ≤ rel P d i k
    · rw [if_pos h1]
      simp only [su, Nat.add_zero]
      by_cases h2 : rel P d i k + D ≤ b + t
      · rw [if_pos (by omega), decide_eq_true h1, decide_eq_true h2]; simp
      · rw [if_neg (by omega), decide_eq_true h1, decide_eq_false h2]; simp
    · rw [if_neg h1, decide_eq_false h1]; simp [su]
theorem su_pt_le {b P D J t : Nat} {d : Nat → Nat} {i : Nat} (hP : 0 < P) : su t (pt b P D J d i 10) ≤ jobs P D t * J := by
  rw [su_pt]
  refine Nat.mul_le_mul_right _ (cj_le hP ?_)
  rw [List.range_eq_range']
  exact spaced_range P _ (rel_step P d i) 10 0
/-- the pairs of the first tasks -/
def pa (b : Nat) (P D J : Nat → Nat) (d : Nat → Nat) : Nat → List (Nat × Nat)
  | 0 => []
  | i + 1 => pa b P D J d i ++ pt b (P i) (D i) (J i) d i 10
theorem su_pa_le {b t : Nat} {P D J d : Nat → Nat} : ∀ {n : Nat}, (∀ i, i < n → 0 < P i) → su t (pa b P D J d n) ≤ dem P D J t n
  | 0, _ => Nat.le_refl _
  | n + 1, h => by
    rw [pa, su_append, dem]
    exact Nat.add_le_add (su_pa_le (fun i hi => h i (by omega))) (su_pt_le (h n (by omega)))
theorem pt_len (b P D J : Nat) (d : Nat → Nat) (i : Nat) : ∀ k, (pt b P D J d i k).length ≤ k
  | 0 => Nat.le_refl _
  | k + 1 => by
    have := pt_len b P D J d i k
    rw [pt, List.length_append]
    split <;> simp <;> omega
theorem pa_len (b : Nat) (P D J : Nat → Nat) (d : Nat → Nat) : ∀ n, (pa b P D J d n).length ≤ n * 10
  | 0 => Nat.le_refl _
  | n + 1 => by
    have := pa_len b P D J d n
    have := pt_len b (P n) (D n) (J n) d n 10
    rw [pa, List.length_append]
    omega
/-- each number of a pair is small -/
def Small (pl : List (Nat × Nat)) : Prop := ∀ q ∈ pl, q.1 ≤ 2000 ∧ q.2 ≤ 5000
theorem small_pt {b P D J : Nat} {d : Nat → Nat} {i : Nat} (hP : P ≤ 64) (hD : D ≤ 64) (hJ : J ≤ 4160) (hd : ∀ j, d j ≤ 20) : ∀ k, k ≤ 10 → Small (pt b P D J d i k)
  | 0, _ => fun q hq => by cases hq
  | k + 1, hk => by
    intro q hq
    rw [pt, List.mem_append] at hq
    rcases hq with hq | hq
    · exact small_pt hP hD hJ hd k (by omega) q hq
    · by_cases h : b ≤ rel P d i k
      · rw [if_pos h, List.mem_singleton] at hq
        subst hq
        have h1 := atk_le hP hd i k
        have h2 := hd (i * 10 + k)
        unfold rel
        exact ⟨by show atk P d i k + d (i * 10 + k) + D - b ≤ 2000; omega, by show J ≤ 5000; omega⟩
      · rw [if_neg h] at hq; cases hq
theorem small_pa {b : Nat} {P D J d : Nat → Nat} (hd : ∀ j, d j ≤ 20) : ∀ {n : Nat}, (∀ i, i < n → P i ≤ 64 ∧ D i ≤ 64 ∧ J i ≤ 4160) → Small (pa b P D J d n)
  | 0, _ => fun q hq => by cases hq
  | n + 1, h => by
    intro q hq
    rw [pa, List.mem_append] at hq
    rcases hq with hq | hq
    · exact small_pa hd (fun i hi => h i (by omega)) q hq
    · obtain ⟨h1, h2, h3⟩ := h n (by omega)
      exact small_pt h1 h2 h3 hd 10 (by omega) q hq
theorem su_step {t : Nat} {pl : List (Nat × Nat)} {j : Nat} (h : j < pl.length) : su t (pl.take (j + 1)) = su t (pl.take j) + (if (pl.getD j (0, 0)).1 ≤ t then (pl.getD j (0, 0)).2 else 0) := by
  rw [List.take_add_one, List.getElem?_eq_getElem h, su_append]
  simp [su, List.getD, List.getElem?_eq_getElem h]
theorem su_le {t : Nat} : ∀ {pl : List (Nat × Nat)}, Small pl → su t pl ≤ pl.length * 5000
  | [], _ => Nat.le_refl _
  | q :: r, h => by
    have h1 := h q (by simp)
    have h2 := su_le (t := t) (pl := r) (fun x hx => h x (by simp [hx]))
    rw [su, List.length_cons]
    split <;> omega
end Go.Proofs.Ytdlhnkjghiphoaa.De
