/- Servers that share more than 1 don't keep their budgets. Plainly. -/
import Derived.Test.YtlifkclgflfnlaaShaP
namespace Go.Proofs.Ytlifkclgflfnlaa.Sh
open Go.Proofs.Ytlifkclgflfnlaa.De Go.Proofs.Ytlifkclgflfnlaa.Su Go.Proofs.Ytlifkclgflfnlaa.Dl Go.Proofs.Ytlifkclgflfnlaa.Ed Go.Proofs.Ytlifkclgflfnlaa.Lo
set_option linter.unusedVariables false

/-- what was asked for is left, or was run -/
def EI (n : Nat) (B : Nat → Nat) (now : Nat) (left rel : Nat → Nat) : Prop := sm (fun i => B i * rel i) n ≤ sm left n + now
theorem ei_start (n : Nat) (B left : Nat → Nat) : EI n B 0 left (fun _ => 0) := by
  unfold EI
  rw [sm_zero (fun i _ => Nat.mul_zero _)]
  exact Nat.zero_le _
theorem ei_release {n : Nat} {B : Nat → Nat} {now : Nat} {left rel left' rel' : Nat → Nat} (h : EI n B now left rel) {k : Nat} (hk : k < n) (h0 : left k = 0) (hl : left' k = B k) (hr : rel' k = rel k + 1)
    (ho : ∀ i, i ≠ k → left' i = left i ∧ rel' i = rel i) : EI n B now left' rel' := by
  unfold EI at h ⊢
  have e1 := sm_one (f := left') (g := left) (k := k) (fun i hi => (ho i hi).1) hk
  have e2 := sm_one (f := fun i => B i * rel' i) (g := fun i => B i * rel i) (k := k) (fun i hi => by simp only [(ho i hi).2]) hk
  simp only [hr, Nat.mul_add, Nat.mul_one] at e2
  omega
theorem ei_run {n : Nat} {B : Nat → Nat} {now : Nat} {left rel left' : Nat → Nat} (h : EI n B now left rel) {k : Nat} (hk : k < n) (hp : 0 < left k) (hl : left' k = left k - 1) (ho : ∀ i, i ≠ k → left' i = left i) : EI n B (now + 1) left' rel := by
  unfold EI at h ⊢
  have e1 := sm_one (f := left') (g := left) (k := k) ho hk
  omega
theorem ei_none {n : Nat} {B : Nat → Nat} {now : Nat} {left rel : Nat → Nat} (h : EI n B now left rel) : EI n B (now + 1) left rel := by
  unfold EI at h ⊢
  omega
/-- at a common multiple of the periods something is left -/
theorem ei_late {n : Nat} {B P : Nat → Nat} {M : Nat} {left rel : Nat → Nat} (h : EI n B M left rel) (hr : ∀ i, i < n → rel i = M / P i) (hs : M < sm (fun i => B i * (M / P i)) n) : ∃ i, i < n ∧ 0 < left i := by
  apply Decidable.byContradiction
  intro hn
  have h0 : sm left n = 0 := sm_zero fun i hi => Nat.eq_zero_of_not_pos fun hc => hn ⟨i, hi, hc⟩
  have h1 : sm (fun i => B i * rel i) n = sm (fun i => B i * (M / P i)) n := sm_congr fun i hi => by rw [hr i hi]
  unfold EI at h
  omega
end Go.Proofs.Ytlifkclgflfnlaa.Sh
