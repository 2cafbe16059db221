/- What Slack and Test answer, plainly; who passes. -/
import Derived.Test.YthhdfmpoebedcaaLocS
namespace Go.Proofs.Ythhdfmpoebedcaa.Lo
open Go.Proofs.Ythhdfmpoebedcaa.De Go.Proofs.Ythhdfmpoebedcaa.Su Go.Proofs.Ythhdfmpoebedcaa.Dl Go.Proofs.Ythhdfmpoebedcaa.Ed
set_option linter.unusedVariables false

/-- the first of n numbers from t on, 0 if there is none -/
def seek (f : Nat → Bool) (t : Nat) : Nat → Nat
  | 0 => 0
  | n + 1 => if f t then t else seek f (t + 1) n
theorem seek_none {f : Nat → Bool} : ∀ {n t : Nat}, (∀ u, t ≤ u → u < t + n → f u = false) → seek f t n = 0
  | 0, _, _ => rfl
  | n + 1, t, h => by
    unfold seek
    rw [h t (Nat.le_refl _) (by omega)]
    exact seek_none fun u h1 h2 => h u (by omega) (by omega)
theorem seek_zero {f : Nat → Bool} : ∀ {n t : Nat}, 0 < t → seek f t n = 0 → ∀ u, t ≤ u → u < t + n → f u = false
  | 0, _, _, _, u, h1, h2 => by omega
  | n + 1, t, ht, h, u, h1, h2 => by
    unfold seek at h
    cases hc : f t with
    | true => rw [hc, if_pos rfl] at h; omega
    | false =>
      rw [hc] at h
      by_cases e : u = t
      · rw [e]; exact hc
      · exact seek_zero (by omega) h u (by omega) (by omega)
theorem seek_at {f : Nat → Bool} : ∀ {n t m : Nat}, m ≤ n → (∀ u, t ≤ u → u < t + m → f u = false) → seek f t n = seek f (t + m) (n - m)
  | n, t, 0, _, _ => rfl
  | 0, t, m + 1, h, _ => by omega
  | n + 1, t, m + 1, h, hf => by
    rw [show seek f t (n + 1) = if f t then t else seek f (t + 1) n from rfl, hf t (Nat.le_refl _) (by omega)]
    rw [if_neg (by simp), seek_at (by omega) (m := m) (fun u h1 h2 => hf u (by omega) (by omega)), show t + 1 + m = t + (m + 1) by omega, show n + 1 - (m + 1) = n - m by omega]
/-- a number of ticks that the test finds -/
def bad (l : List Pn) (q t : Nat) : Bool := decide (0 < demN l q t) && decide (slk l q t < 0)
def firstBad (l : List Pn) (q : Nat) : Nat := seek (bad l q) 1 (endN l q)
def slR (l : List Pn) (q t : Int) : Int × Int :=
  if chkP l then (if 0 ≤ q ∧ q < l.length then (if 0 ≤ t ∧ t ≤ 1048576 then (slk l q.toNat t.toNat, 0) else (0, 2)) else (0, 9)) else (0, 2)
/-- of one that is there, and has tasks -/
def teN (l : List Pn) (q : Nat) : Int × Int :=
  if hyp l q ≤ 4096 then (if useN l q ≤ hyp l q / (l.getD q p0).per.toNat * (l.getD q p0).bud.toNat then (if firstBad l q = 0 then (0, 0) else ((firstBad l q : Nat), 120)) else (0, 120)) else (0, 5)
def teR (l : List Pn) (q : Int) : Int × Int :=
  if chkP l then (if 0 ≤ q ∧ q < l.length then (if (l.getD q.toNat p0).n = 0 then (0, 0) else teN l q.toNat) else (0, 9)) else (0, 2)
theorem firstBad_zero {l : List Pn} {q : Nat} : firstBad l q = 0 ↔ ∀ t, 1 ≤ t → t ≤ endN l q → 0 < demN l q t → 0 ≤ slk l q t := by
  constructor
  · intro h t h1 h2 h3
    have := seek_zero (by decide) h t h1 (by omega)
    unfold bad at this
    rw [decide_eq_true h3, Bool.true_and, decide_eq_false_iff_not] at this
    omega
  · intro h
    refine seek_none fun t h1 h2 => ?_
    unfold bad
    by_cases h3 : 0 < demN l q t
    · have h4 : ¬ slk l q t < 0 := by have := h t h1 (by omega) h3; omega
      rw [decide_eq_false h4, Bool.and_false]
    · rw [decide_eq_false h3, Bool.false_and]
theorem teN_ok {l : List Pn} {q : Nat} : (teN l q).2 = 0 ↔ Pass l q := by
  unfold teN
  constructor
  · intro h
    split at h
    · rename_i h1
      split at h
      · rename_i h2
        split at h
        · rename_i h3
          exact ⟨h1, h2, firstBad_zero.1 h3⟩
        · cases h
      · cases h
    · cases h
  · intro h
    rw [if_pos h.h, if_pos h.u, if_pos (firstBad_zero.2 h.s)]
theorem teN_no {l : List Pn} {q : Nat} (h : (teN l q).2 ≠ 0) : (teN l q).2 = 120 ∨ (teN l q).2 = 5 := by
  unfold teN at h ⊢
  split
  · rename_i h1
    rw [if_pos h1] at h
    split
    · rename_i h2
      rw [if_pos h2] at h
      split
      · rename_i h3
        rw [if_pos h3] at h
        exact absurd rfl h
      · exact Or.inl rfl
    · exact Or.inl rfl
  · exact Or.inr rfl
/-- the chapter's examples -/
def eP (l : List (List Int)) : Pn := ⟨5, 2, l.length, fun i j => (l.getD i []).getD j 0⟩
example : slR [eP [[20, 12, 2, 0, 0, 0, 0, 0]]] 0 11 = (2, 0) := by decide +kernel
example : slR [eP [[20, 12, 2, 0, 0, 0, 0, 0]]] 0 12 = (1, 0) := by decide +kernel
example : teR [eP [[20, 12, 2, 0, 0, 0, 0, 0]]] 0 = (0, 0) := by decide +kernel
example : teR [eP [[20, 12, 4, 0, 0, 0, 0, 0]]] 0 = (12, 120) := by decide +kernel
example : teR [eP [[20, 12, 2, 0, 0, 0, 0, 0], [5, 5, 2, 0, 0, 0, 0, 0]]] 0 = (0, 120) := by decide +kernel
end Go.Proofs.Ythhdfmpoebedcaa.Lo
