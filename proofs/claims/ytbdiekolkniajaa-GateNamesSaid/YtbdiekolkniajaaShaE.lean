/- The document's sum, in lowest terms at the end. -/
import Derived.Test.YtbdiekolkniajaaShaD
namespace Go.Proofs.Ytbdiekolkniajaa.Sh
open Go.RowKit Tk De Dl Go.Proofs.Ytbdiekolkniajaa.Lo
set_option linter.unusedVariables false

theorem low_scale {g x y : Nat} (hg : 0 < g) : low (g * x) (g * y) = low x y := by
  unfold low
  rw [Nat.gcd_mul_left, Nat.mul_div_mul_left _ _ hg, Nat.mul_div_mul_left _ _ hg]
/-- the sum, not in lowest terms -/
def un (B P : Nat → Nat) : Nat → Nat × Nat
  | 0 => (0, 1)
  | n + 1 => ((un B P n).1 * P n + B n * (un B P n).2, (un B P n).2 * P n)
theorem un_pos {B P : Nat → Nat} : ∀ {n : Nat}, (∀ i, i < n → 0 < P i) → 0 < (un B P n).2
  | 0, _ => Nat.zero_lt_one
  | n + 1, h => Nat.mul_pos (un_pos fun i hi => h i (by omega)) (h n (by omega))
theorem sumF_un {B P : Nat → Nat} : ∀ {n : Nat}, (∀ i, i < n → 0 < P i) → sumF B P n = low (un B P n).1 (un B P n).2
  | 0, _ => by show ((0 : Nat), (1 : Nat)) = low 0 1; decide
  | n + 1, h => by
    have ih := sumF_un (B := B) (n := n) fun i hi => h i (by omega)
    have hp := un_pos (B := B) (n := n) fun i hi => h i (by omega)
    have hg := Nat.gcd_pos_of_pos_right (un B P n).1 hp
    have e1 : (un B P n).1 = Nat.gcd (un B P n).1 (un B P n).2 * (sumF B P n).1 := by rw [ih]; exact (Nat.mul_div_cancel' (Nat.gcd_dvd_left _ _)).symm
    have e2 : (un B P n).2 = Nat.gcd (un B P n).1 (un B P n).2 * (sumF B P n).2 := by rw [ih]; exact (Nat.mul_div_cancel' (Nat.gcd_dvd_right _ _)).symm
    show low _ _ = low ((un B P n).1 * P n + B n * (un B P n).2) ((un B P n).2 * P n)
    generalize Nat.gcd (un B P n).1 (un B P n).2 = g at *
    rw [e1, e2, ← low_scale hg]
    congr 1
    · rw [Nat.mul_add, Nat.mul_assoc, Nat.mul_left_comm (B n)]
    · rw [Nat.mul_assoc]
theorem un_bd {B P : Nat → Nat} : ∀ {n : Nat}, (∀ i, i < n → P i ≤ 64 ∧ B i ≤ 64) → (un B P n).1 ≤ n * 64 ^ n ∧ (un B P n).2 ≤ 64 ^ n
  | 0, _ => ⟨Nat.le_refl _, Nat.le_refl _⟩
  | n + 1, h => by
    obtain ⟨h1, h2⟩ := un_bd (B := B) (n := n) fun i hi => h i (by omega)
    obtain ⟨p1, p2⟩ := h n (by omega)
    have m1 := Nat.mul_le_mul h1 p1
    have m2 := Nat.mul_le_mul p2 h2
    have m3 := Nat.mul_le_mul h2 p1
    refine ⟨?_, ?_⟩
    · show (un B P n).1 * P n + B n * (un B P n).2 ≤ (n + 1) * 64 ^ (n + 1)
      rw [Nat.pow_succ, Nat.add_mul, ← Nat.mul_assoc]
      omega
    · show (un B P n).2 * P n ≤ 64 ^ (n + 1)
      rw [Nat.pow_succ]
      exact m3
theorem un_small {B P : Nat → Nat} {n : Nat} (hn : n ≤ 4) (h : ∀ i, i < n → P i ≤ 64 ∧ B i ≤ 64) : (un B P n).1 ≤ 67108864 ∧ (un B P n).2 ≤ 16777216 := by
  obtain ⟨h1, h2⟩ := un_bd h
  have h3 : 64 ^ n ≤ 64 ^ 4 := Nat.pow_le_pow_right (by decide) hn
  have h4 := Nat.mul_le_mul hn h3
  have e : 64 ^ 4 = 16777216 := by decide
  omega
/-- may they be asked -/
def okT (p b : Int) : Bool := decide (1 ≤ p ∧ p ≤ 64 ∧ 1 ≤ b ∧ b ≤ p)
def okS (p b : Nat → Int) : Nat → Bool
  | 0 => true
  | k + 1 => okS p b k && okT (p k) (b k)
theorem okS_iff {p b : Nat → Int} : ∀ {n : Nat}, okS p b n = true ↔ ∀ i, i < n → 1 ≤ p i ∧ p i ≤ 64 ∧ 1 ≤ b i ∧ b i ≤ p i
  | 0 => ⟨fun _ i hi => by omega, fun _ => rfl⟩
  | n + 1 => by
    rw [okS, Bool.and_eq_true, okS_iff (n := n), okT, decide_eq_true_eq]
    constructor
    · intro h i hi
      by_cases e : i = n
      · rw [e]; exact h.2
      · exact h.1 i (by omega)
    · exact fun h => ⟨fun i hi => h i (by omega), h n (by omega)⟩
theorem okS_no {p b : Nat → Int} {n k : Nat} (hk : k < n) (h : okT (p k) (b k) = false) : okS p b n = false := by
  cases hc : okS p b n with
  | false => rfl
  | true =>
    have := okS_iff.1 hc k hk
    unfold okT at h
    rw [decide_eq_true this] at h
    cases h
def nn (f : Nat → Int) (i : Nat) : Nat := (f i).toNat
def mayS (n : Nat) (p b : Nat → Int) : Bool := decide (n ≤ 4) && okS p b n
def suF (n : Nat) (p b : Nat → Int) : Nat × Nat := sumF (nn b) (nn p) n
def suA (n : Nat) (p b : Nat → Int) : Int := if mayS n p b then ((suF n p b).1 : Nat) else 0
def suB (n : Nat) (p b : Nat → Int) : Int := if mayS n p b then ((suF n p b).2 : Nat) else 0
def suE (n : Nat) (p b : Nat → Int) : Int := if mayS n p b then 0 else 2
def teE (n : Nat) (p b : Nat → Int) : Int := if mayS n p b then (if (suF n p b).2 < (suF n p b).1 then 120 else 0) else 2
def ThreeB (a b c : Int) (w : World) (e : Ending) (w' : World) : Prop := e = .returned (.tuple #[.int .i64 a, .int .i64 b, .int .i64 c]) ∧ Below w.heap.size w w'
theorem su_no {n : Nat} {p b : Nat → Int} (h : mayS n p b = false) : suA n p b = 0 ∧ suB n p b = 0 ∧ suE n p b = 2 ∧ teE n p b = 2 := by
  unfold suA suB suE teE
  rw [h]
  exact ⟨rfl, rfl, rfl, rfl⟩
theorem su_yes {n : Nat} {p b : Nat → Int} (h : mayS n p b = true) : suA n p b = ((suF n p b).1 : Nat) ∧ suB n p b = ((suF n p b).2 : Nat) ∧ suE n p b = 0 ∧ teE n p b = if (suF n p b).2 < (suF n p b).1 then 120 else 0 := by
  unfold suA suB suE teE
  rw [h]
  exact ⟨rfl, rfl, rfl, rfl⟩
theorem nn_bd {n : Nat} {p b : Nat → Int} (h : okS p b n = true) : ∀ i, i < n → 0 < nn p i ∧ nn p i ≤ 64 ∧ nn b i ≤ 64 := fun i hi => by
  have := okS_iff.1 h i hi
  unfold nn
  omega
/-- the greatest common divisor of a sum -/
theorem gcd_step {x y : Nat} : Nat.gcd y (x % y) = Nat.gcd x y := by rw [Nat.gcd_comm y, ← Nat.gcd_rec, Nat.gcd_comm]
end Go.Proofs.Ytbdiekolkniajaa.Sh
