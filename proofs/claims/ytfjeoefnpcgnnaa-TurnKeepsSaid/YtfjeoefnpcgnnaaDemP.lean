/- The demand of a task, plainly. -/
import Derived.Test.YtfjeoefnpcgnnaaRows
import Derived.WalkKit
import Derived.WalkSpells
namespace Go.Proofs.Ytfjeoefnpcgnnaa.De
set_option linter.unusedVariables false

/-- how many jobs can be released, and have their deadlines, in t ticks in a row -/
def jobs (P D t : Nat) : Nat := if t < D then 0 else 1 + (t - D) / P
theorem jobs_period {P D t : Nat} (hP : 0 < P) (h : D ≤ t) (q : Nat) : jobs P D (t + q * P) = jobs P D t + q := by
  unfold jobs
  rw [if_neg (by omega), if_neg (by omega), show t + q * P - D = (t - D) + q * P by omega, Nat.add_mul_div_right _ _ hP]
  omega
theorem jobs_one {P D t : Nat} (hP : 0 < P) (h : D + P ≤ t) : jobs P D t = 1 + jobs P D (t - P) := by
  have := jobs_period (D := D) hP (t := t - P) (by omega) 1
  rw [Nat.one_mul, show t - P + P = t by omega] at this
  omega
theorem jobs_mono {P D t u : Nat} (h : t ≤ u) : jobs P D t ≤ jobs P D u := by
  unfold jobs
  by_cases h1 : t < D
  · rw [if_pos h1]; exact Nat.zero_le _
  · rw [if_neg h1, if_neg (by omega)]
    have := Nat.div_le_div_right (c := P) (show t - D ≤ u - D by omega)
    omega
/-- releases, each a period behind the last one at least -/
def Spaced (P : Nat) : List Nat → Prop
  | [] => True
  | [_] => True
  | a :: b :: r => a + P ≤ b ∧ Spaced P (b :: r)
theorem Spaced.tail {P a : Nat} {r : List Nat} (h : Spaced P (a :: r)) : Spaced P r := by
  cases r with
  | nil => trivial
  | cons b r => exact h.2
theorem Spaced.all {P : Nat} : ∀ {r : List Nat} {a : Nat}, Spaced P (a :: r) → ∀ x ∈ r, a + P ≤ x
  | [], _, _, x, hx => by cases hx
  | b :: r, a, h, x, hx => by
    rcases List.mem_cons.1 hx with rfl | hx
    · exact h.1
    · have := Spaced.all h.2 x hx
      have := h.1
      omega
/-- those that are released from b on, and have their deadlines by b + t -/
def hit (D b t : Nat) (a : Nat) : Bool := decide (b ≤ a) && decide (a + D ≤ b + t)
def cj (D b t : Nat) : List Nat → Nat
  | [] => 0
  | a :: r => (if hit D b t a then 1 else 0) + cj D b t r
theorem cj_shift {D b t P : Nat} (ht : P ≤ t) : ∀ {r : List Nat}, (∀ x ∈ r, b + P ≤ x) → cj D b t r = cj D (b + P) (t - P) r
  | [], _ => rfl
  | a :: r, h => by
    have ha := h a (by simp)
    have e : hit D b t a = hit D (b + P) (t - P) a := by
      unfold hit
      rw [Bool.eq_iff_iff, Bool.and_eq_true, Bool.and_eq_true]
      simp only [decide_eq_true_eq]
      omega
    unfold cj
    rw [e, cj_shift ht (fun x hx => h x (by simp [hx]))]
theorem cj_none {D b t : Nat} : ∀ {r : List Nat}, (∀ x ∈ r, b + t < x + D) → cj D b t r = 0
  | [], _ => rfl
  | a :: r, h => by
    have ha := h a (by simp)
    have e : hit D b t a = false := by unfold hit; simp; omega
    unfold cj
    rw [e, cj_none (fun x hx => h x (by simp [hx]))]
    rfl
/-- no more than the demand -/
theorem cj_le {P D : Nat} (hP : 0 < P) : ∀ {r : List Nat} {b t : Nat}, Spaced P r → cj D b t r ≤ jobs P D t
  | [], b, t, _ => Nat.zero_le _
  | a :: r, b, t, h => by
    have hall := h.all
    have htl := h.tail
    cases e : hit D b t a with
    | false =>
      unfold cj
      rw [e]
      have := cj_le hP (D := D) (b := b) (t := t) htl
      simpa using this
    | true =>
      have e2 : b ≤ a ∧ a + D ≤ b + t := by unfold hit at e; simpa using e
      unfold cj
      rw [e]
      by_cases hc : D + P ≤ t
      · rw [cj_shift (P := P) (by omega) (fun x hx => by have := hall x hx; omega), jobs_one hP hc]
        have := cj_le hP (D := D) (b := b + P) (t := t - P) htl
        simp only [if_true]
        omega
      · rw [cj_none (fun x hx => by have := hall x hx; omega)]
        have : 1 ≤ jobs P D t := by unfold jobs; rw [if_neg (by omega)]; exact Nat.le_add_right 1 _
        simpa using this
end Go.Proofs.Ytfjeoefnpcgnnaa.De
