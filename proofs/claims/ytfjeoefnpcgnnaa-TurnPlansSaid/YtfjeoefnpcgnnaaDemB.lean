/- Whether tasks may be asked: the document's answer. -/
import Derived.Test.YtfjeoefnpcgnnaaDemA
namespace Go.Proofs.Ytfjeoefnpcgnnaa
open Go.RowKit Tk De
set_option linter.unusedVariables false

/-- a task, by value -/
abbrev tv (t : Nat → Int) : Value := .agg #[.int .i64 (t 0), .int .i64 (t 1), .int .i64 (t 2), .int .i64 (t 3), .int .i64 (t 4), .int .i64 (t 5), .int .i64 (t 6), .int .i64 (t 7)]
theorem tOK_six (t : Nat → Int) : tOK t = (decide (1 ≤ t 0) && (decide (t 0 ≤ 64) && (decide (1 ≤ t 1) && (decide (t 1 ≤ t 0) && (decide (1 ≤ t 2) && decide (t 2 ≤ t 1)))))) := by
  unfold tOK
  simp only [Bool.and_assoc]
/-- the first k of them are such -/
def mo (xs : List Int) : Nat → Bool
  | 0 => true
  | k + 1 => mo xs k && inMore (xs.getD k 0)
theorem mo_at {xs : List Int} : ∀ {k : Nat}, mo xs k = true ↔ ∀ j, j < k → inMore (xs.getD j 0) = true
  | 0 => by simp [mo]
  | k + 1 => by
    unfold mo
    rw [Bool.and_eq_true, mo_at]
    exact ⟨fun h j hj => by
      by_cases e : j = k
      · subst e; exact h.2
      · exact h.1 j (by omega), fun h => ⟨fun j hj => h j (by omega), h k (by omega)⟩⟩
theorem mo_all (xs : List Int) : mo xs xs.length = moreOK xs := by
  rw [Bool.eq_iff_iff, mo_at]
  exact ⟨more_all, fun h j hj => all_at (p := inMore) h hj⟩
theorem mo_no {xs : List Int} {k : Nat} (hk : k < xs.length) (h : mo xs (k + 1) = false) : moreOK xs = false := by
  cases e : moreOK xs with
  | false => rfl
  | true =>
    rw [← mo_all, mo_at] at e
    rw [mo_at.2 (fun j hj => e j (by omega))] at h
    cases h
end Go.Proofs.Ytfjeoefnpcgnnaa
