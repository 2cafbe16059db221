/- What servers share; whoever passes keeps its budget. Plainly. -/
import Derived.Test.YtlifkclgflfnlaaLocK
namespace Go.Proofs.Ytlifkclgflfnlaa.Sh
open Go.Proofs.Ytlifkclgflfnlaa.De Go.Proofs.Ytlifkclgflfnlaa.Su Go.Proofs.Ytlifkclgflfnlaa.Dl Go.Proofs.Ytlifkclgflfnlaa.Ed Go.Proofs.Ytlifkclgflfnlaa.Lo
set_option linter.unusedVariables false

/-- a fraction in lowest terms -/
def low (t b : Nat) : Nat × Nat := (t / Nat.gcd t b, b / Nat.gcd t b)
/-- the sum of the first n -/
def sumF (B P : Nat → Nat) : Nat → Nat × Nat
  | 0 => (0, 1)
  | n + 1 => low ((sumF B P n).1 * P n + B n * (sumF B P n).2) ((sumF B P n).2 * P n)
theorem low_pos {t b : Nat} (h : 0 < b) : 0 < (low t b).2 := Nat.div_pos (Nat.le_of_dvd h (Nat.gcd_dvd_right t b)) (Nat.gcd_pos_of_pos_right t h)
theorem low_co {t b : Nat} (h : 0 < b) : Nat.Coprime (low t b).1 (low t b).2 := Nat.coprime_div_gcd_div_gcd (Nat.gcd_pos_of_pos_right t h)
/-- what a fraction is of M, if that is a whole number -/
theorem low_of {t b M s : Nat} (hb : 0 < b) (h : t * M = b * s) : (low t b).2 ∣ M ∧ (low t b).1 * (M / (low t b).2) = s := by
  have hg := Nat.gcd_pos_of_pos_right t hb
  have h1 : (low t b).1 * Nat.gcd t b = t := Nat.div_mul_cancel (Nat.gcd_dvd_left t b)
  have h2 : (low t b).2 * Nat.gcd t b = b := Nat.div_mul_cancel (Nat.gcd_dvd_right t b)
  have h3 : (low t b).1 * M = (low t b).2 * s := by
    refine Nat.eq_of_mul_eq_mul_left hg ?_
    rw [← Nat.mul_assoc, ← Nat.mul_assoc, Nat.mul_comm _ (low t b).1, Nat.mul_comm _ (low t b).2, h1, h2, h]
  have h4 : (low t b).2 ∣ M := (low_co hb).symm.dvd_of_dvd_mul_left ⟨s, h3⟩
  refine ⟨h4, ?_⟩
  obtain ⟨c, hc⟩ := h4
  rw [hc, Nat.mul_div_cancel_left _ (low_pos hb)]
  refine Nat.eq_of_mul_eq_mul_left (low_pos (t := t) hb) ?_
  rw [← h3]
  conv => rhs; rw [hc]
  rw [Nat.mul_left_comm]
theorem sumF_pos {B P : Nat → Nat} : ∀ {n : Nat}, (∀ i, i < n → 0 < P i) → 0 < (sumF B P n).2
  | 0, _ => Nat.zero_lt_one
  | n + 1, h => low_pos (Nat.mul_pos (sumF_pos fun i hi => h i (by omega)) (h n (by omega)))
theorem sumF_of {B P : Nat → Nat} {M : Nat} : ∀ {n : Nat}, (∀ i, i < n → 0 < P i) → (∀ i, i < n → P i ∣ M) → (sumF B P n).2 ∣ M ∧ (sumF B P n).1 * (M / (sumF B P n).2) = sm (fun i => B i * (M / P i)) n
  | 0, _, _ => ⟨Nat.one_dvd _, by simp [sumF, sm]⟩
  | n + 1, hP, hd => by
    obtain ⟨h1, h2⟩ := sumF_of (B := B) (n := n) (fun i hi => hP i (by omega)) (fun i hi => hd i (by omega))
    have h3 := sumF_pos (B := B) (P := P) (n := n) (fun i hi => hP i (by omega))
    have h4 := hP n (by omega)
    obtain ⟨c, hc⟩ := h1
    obtain ⟨e, he⟩ := hd n (by omega)
    refine low_of (Nat.mul_pos h3 h4) ?_
    show _ = _ * (sm (fun i => B i * (M / P i)) n + B n * (M / P n))
    rw [← h2]
    have e1 : M / (sumF B P n).2 = c := by rw [hc, Nat.mul_div_cancel_left _ h3]
    have e2 : M / P n = e := by rw [he, Nat.mul_div_cancel_left _ h4]
    rw [e1, e2, Nat.add_mul, Nat.mul_add]
    congr 1
    · clear e1 h2; rw [hc]; ac_rfl
    · clear e2; rw [he]; ac_rfl
/-- at most 1 -/
theorem sumF_le {B P : Nat → Nat} {M n : Nat} (hM : 0 < M) (hP : ∀ i, i < n → 0 < P i) (hd : ∀ i, i < n → P i ∣ M) : (sumF B P n).1 ≤ (sumF B P n).2 ↔ sm (fun i => B i * (M / P i)) n ≤ M := by
  obtain ⟨⟨c, hc⟩, h2⟩ := sumF_of (B := B) hP hd
  have h3 := sumF_pos (B := B) hP
  have e1 : M / (sumF B P n).2 = c := by conv => lhs; rw [hc]; rw [Nat.mul_div_cancel_left _ h3]
  rw [e1] at h2
  have hc0 : 0 < c := Nat.pos_of_ne_zero fun h => by rw [h, Nat.mul_zero] at hc; omega
  rw [← h2]
  conv => rhs; rhs; rw [hc]
  exact ⟨fun h => Nat.mul_le_mul_right _ h, fun h => Nat.le_of_mul_le_mul_right h hc0⟩
/-- servers, as tasks whose Deadline is their Period -/
def srv (n : Nat) (P B : Nat → Nat) : Pn := ⟨1, 1, n, fun i j => match j with | 0 => P i | 1 => P i | 2 => B i | _ => 0⟩
theorem srv_pb {n : Nat} {P B : Nat → Nat} (hn : n ≤ 4) (h : ∀ i, i < n → 1 ≤ P i ∧ P i ≤ 64 ∧ 1 ≤ B i ∧ B i ≤ P i) : PB (srv n P B) := by
  refine ⟨Int.le_refl _, by show (1 : Int) ≤ 64; omega, Int.le_refl _, Int.le_refl _, hn, fun i hi => ?_⟩
  obtain ⟨h1, h2, h3, h4⟩ := h i hi
  refine ⟨tOK_iff.2 ⟨?_, ?_, ?_, Int.le_refl _, ?_, ?_⟩, Int.le_refl _, ?_, Int.le_refl _, by show (0 : Int) ≤ 4; omega, fun hc => absurd (show (0 : Int) < 0 from hc) (by omega), fun _ => ⟨rfl, rfl⟩⟩
  · show (1 : Int) ≤ P i; omega
  · show (P i : Int) ≤ 64; omega
  · show (1 : Int) ≤ P i; omega
  · show (1 : Int) ≤ B i; omega
  · show (B i : Int) ≤ P i; omega
  · show (0 : Int) ≤ B i; omega
def alw : Nat → Bool := fun _ => true
theorem cnt_alw (a : Nat) : ∀ n, cnt alw a n = n
  | 0 => rfl
  | n + 1 => by unfold cnt; rw [cnt_alw a n]; rfl
/-- no server is late, if they share 1 at most -/
theorem sv_in_time {n : Nat} {P B : Nat → Nat} {M : Nat} (hM : 0 < M) (hP : ∀ i, i < n → 0 < P i) (hd : ∀ i, i < n → P i ∣ M) (hs : sm (fun i => B i * (M / P i)) n ≤ M) {now : Nat} {left ends next : Nat → Nat} (h : KS (srv n P B) alw now left ends next)
    {k : Nat} (hk : k < n) (hl : 0 < left k) (he : ends k ≤ now) : False := by
  obtain ⟨rels, hi, hsp, _⟩ := h
  refine in_time (P := per (srv n P B).z) (sup := fun t => t) hi hk hl he (fun i hi => hP i hi) hsp (fun t0 ht => ?_) (fun t _ _ => ?_)
  · rw [cnt_alw]; exact Nat.le_refl _
  · exact share_dem hM hP hd hs t
end Go.Proofs.Ytlifkclgflfnlaa.Sh
