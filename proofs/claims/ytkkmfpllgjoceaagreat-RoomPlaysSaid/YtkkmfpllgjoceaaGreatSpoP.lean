/- Guards, plainly: what is answered, what they are behind it. -/
import Derived.Test.YtkkmfpllgjoceaaGreatRows
namespace Go.Proofs.YtkkmfpllgjoceaaGreat.Sg
namespace Sp
/-- what is wrong with a release at n, if the earliest tick is e -/
def wt (e n : Int) : Int := if n < 0 then 2 else if 1099511627776 < n then 10 else if n < e then 140 else 0
/-- the earliest tick behind it -/
def rl (p e n : Int) : Int := if wt e n = 0 then n + p else e
/-- what is wrong with a period -/
def wp (q : Int) : Int := if 1 ≤ q ∧ q ≤ 64 then 0 else 2
/-- the period behind a change -/
def ch (p q : Int) : Int := if wp q = 0 then q else p
/-- numbers that a guard may have -/
structure Ok (p e : Int) : Prop where
  p1 : 1 ≤ p
  p2 : p ≤ 64
  e1 : 0 ≤ e
  e2 : e ≤ 1099511627840
theorem wt_cases (e n : Int) : (n < 0 ∧ wt e n = 2) ∨ (0 ≤ n ∧ 1099511627776 < n ∧ wt e n = 10) ∨ (0 ≤ n ∧ n ≤ 1099511627776 ∧ n < e ∧ wt e n = 140) ∨ (0 ≤ n ∧ n ≤ 1099511627776 ∧ e ≤ n ∧ wt e n = 0) := by
  unfold wt
  split
  · exact Or.inl ⟨by omega, rfl⟩
  · split
    · exact Or.inr (Or.inl ⟨by omega, by omega, rfl⟩)
    · split
      · exact Or.inr (Or.inr (Or.inl ⟨by omega, by omega, by omega, rfl⟩))
      · exact Or.inr (Or.inr (Or.inr ⟨by omega, by omega, by omega, rfl⟩))
theorem wp_cases (q : Int) : (1 ≤ q ∧ q ≤ 64 ∧ wp q = 0) ∨ ((q < 1 ∨ 64 < q) ∧ wp q = 2) := by
  unfold wp
  split
  · next h => exact Or.inl ⟨h.1, h.2, rfl⟩
  · next h => exact Or.inr ⟨by omega, rfl⟩
theorem Ok.rl {p e : Int} (h : Ok p e) (n : Int) : Ok p (rl p e n) := by
  unfold Sp.rl
  split
  · next h0 =>
    rcases wt_cases e n with ⟨_, q⟩ | ⟨_, _, q⟩ | ⟨_, _, _, q⟩ | ⟨q1, q2, q3, q⟩
    · rw [h0] at q; cases q
    · rw [h0] at q; cases q
    · rw [h0] at q; cases q
    · have := h.p1; have := h.p2; exact ⟨h.p1, h.p2, by omega, by omega⟩
  · exact h
theorem Ok.ch {p e : Int} (h : Ok p e) (q : Int) : Ok (ch p q) e := by
  unfold Sp.ch
  split
  · next h0 =>
    rcases wp_cases q with ⟨q1, q2, _⟩ | ⟨_, q2⟩
    · exact ⟨q1, q2, h.e1, h.e2⟩
    · rw [h0] at q2; cases q2
  · exact h
theorem Ok.new {p : Int} (h : wp p = 0) : Ok p 0 := by
  rcases wp_cases p with ⟨q1, q2, _⟩ | ⟨_, q2⟩
  · exact ⟨q1, q2, by omega, by omega⟩
  · rw [h] at q2; cases q2
end Sp
end Go.Proofs.YtkkmfpllgjoceaaGreat.Sg
