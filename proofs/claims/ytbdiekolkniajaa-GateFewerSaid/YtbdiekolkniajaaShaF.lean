/- The document's sum and test: the walk. -/
import Derived.Test.YtbdiekolkniajaaShaE
namespace Go.Proofs.Ytbdiekolkniajaa.Sh
open Go.RowKit Tk De Dl Go.Proofs.Ytbdiekolkniajaa.Lo
set_option linter.unusedVariables false

theorem step_sum {T D P G : Nat} (ht1 : T ≤ 67108864) (ht2 : D ≤ 16777216) (hP : P ≤ 64) (hG : G ≤ 64) : ∃ M1 M2 M3 M4 : Nat, T * P + G * D = M4 ∧ D * P = M3 ∧ (T : Int) * P = (M1 : Nat) ∧ (G : Int) * D = (M2 : Nat) ∧ (D : Int) * P = (M3 : Nat) ∧ ((M1 : Nat) : Int) + (M2 : Nat) = (M4 : Nat) ∧
    M1 ≤ 1099511627776 ∧ M2 ≤ 1099511627776 ∧ M3 ≤ 1099511627776 ∧ M4 ≤ 1099511627776 := by
  have b1 : T * P ≤ 67108864 * 64 := Nat.mul_le_mul ht1 hP
  have b2 : G * D ≤ 64 * 16777216 := Nat.mul_le_mul hG ht2
  have b3 : D * P ≤ 16777216 * 64 := Nat.mul_le_mul ht2 hP
  exact ⟨T * P, G * D, D * P, T * P + G * D, rfl, rfl, (Int.natCast_mul T P).symm, (Int.natCast_mul G D).symm, (Int.natCast_mul D P).symm, (Int.natCast_add _ _).symm, by omega, by omega, by omega, by omega⟩
end Go.Proofs.Ytbdiekolkniajaa.Sh
