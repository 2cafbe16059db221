/- Of servers that share at most 1 each is in its plan, in each of its periods, as often as its budget says. Plainly. -/
import Derived.Test.YtfjeoefnpcgnnaaZl
import Derived.Test.YtfjeoefnpcgnnaaTurP
namespace Go.Proofs.Ytfjeoefnpcgnnaa.Tu
open Go.Proofs.Ytfjeoefnpcgnnaa.Sh
set_option linter.unusedVariables false

/-- the first j have been looked at -/
def mix (j : Nat) (f g : Nat → Nat) : Nat → Nat := fun i => if i < j then g i else f i
theorem mix_zero (f g : Nat → Nat) : mix 0 f g = f := by funext i; exact if_neg (by omega)
theorem mix_at (j : Nat) (f g : Nat → Nat) : mix j f g j = f j := if_neg (by omega)
theorem mix_end {n : Nat} {f g : Nat → Nat} (h : ∀ i, n ≤ i → g i = f i) : mix n f g = g := by
  funext i; unfold mix; split
  · rfl
  · exact (h i (by omega)).symm
theorem mix_upd {j x : Nat} {f g : Nat → Nat} (h : g j = x) : upd (mix j f g) j x = mix (j + 1) f g := by
  funext i; unfold upd mix
  by_cases e : i = j
  · rw [if_pos e, if_pos (by omega), e, h]
  · rw [if_neg e]
    by_cases e2 : i < j
    · rw [if_pos e2, if_pos (by omega)]
    · rw [if_neg e2, if_neg (by omega)]
theorem mix_same {j : Nat} {f g : Nat → Nat} (h : g j = f j) : mix j f g = mix (j + 1) f g := by
  rw [← mix_upd h]; funext i; unfold upd
  by_cases e : i = j
  · rw [if_pos e, e, mix_at]
  · rw [if_neg e]
section
variable {n : Nat} {P B b : Nat → Nat}
theorem km_tick (hP : ∀ i, i < n → 1 ≤ P i ∧ P i ≤ 64 ∧ 1 ≤ B i ∧ B i ≤ P i) (hn : n ≤ 4) {t : Nat} (h : KM n P B b t 0 (L n P B b t) (E n P B b t)) :
    ∀ {j : Nat}, j ≤ n → KM n P B b t j (mix j (L n P B b t) (L1 n P B b t)) (mix j (E n P B b t) (E1 n P B b t))
  | 0, _ => by rw [mix_zero, mix_zero]; exact h
  | j + 1, hj => by
    have ih := km_tick hP hn h (j := j) (by omega)
    have hjn : j < n := by omega
    by_cases hr : rel (P j) (b j) t
    · have := km_rel hP hn ih hjn hr.1 hr.2
      obtain ⟨x1, x2⟩ := L1_rel (B := B) (b := b) hjn hr
      rwa [mix_upd x1, mix_upd x2] at this
    · obtain ⟨x1, x2⟩ := L1_not (n := n) (B := B) hr
      rw [← mix_same x1, ← mix_same x2]
      refine km_same ih ?_
      rcases Nat.lt_or_ge t (b j) with hb | hb
      · exact nxt_ahead hb
      · exact nxt_not (hP j hjn).1 hb fun x => hr ⟨hb, x⟩
theorem km_at (hP : ∀ i, i < n → 1 ≤ P i ∧ P i ≤ 64 ∧ 1 ≤ B i ∧ B i ≤ P i) (hn : n ≤ 4) : ∀ t, KM n P B b t 0 (L n P B b t) (E n P B b t)
  | 0 => km_start n P B b
  | t + 1 => by
    have h := km_tick hP hn (km_at hP hn t) (Nat.le_refl n)
    rw [mix_end (f := L n P B b t) (g := L1 n P B b t) (fun i hi => if_neg (fun x => absurd x.1 (by omega))), mix_end (f := E n P B b t) (g := E1 n P B b t) (fun i hi => if_neg (fun x => absurd x.1 (by omega)))] at h
    rcases pl_cases (n := n) (P := P) (B := B) (b := b) (t := t) with ⟨z, z0⟩ | ⟨m, z, z1, z2, z3⟩
    · have e : L n P B b (t + 1) = L1 n P B b t := by funext i; rw [L_next, if_neg (by omega)]
      rw [e, E_next]; exact km_none h z0
    · have e : L n P B b (t + 1) = upd (L1 n P B b t) m (L1 n P B b t m - 1) := by
        funext i; rw [L_next, z]; unfold upd
        by_cases e' : i = m
        · rw [if_pos (by omega), if_pos e', e']
        · rw [if_neg (by omega), if_neg e']
      rw [e, E_next]; exact km_run h z1 z2 z3
/-- nothing is left when a period begins -/
theorem none_left (hP : ∀ i, i < n → 1 ≤ P i ∧ P i ≤ 64 ∧ 1 ≤ B i ∧ B i ≤ P i) (hn : n ≤ 4) {M : Nat} (hM : 0 < M) (hd : ∀ i, i < n → P i ∣ M) (hs : Go.Proofs.Ytfjeoefnpcgnnaa.Ed.sm (fun i => B i * (M / P i)) n ≤ M) {t i : Nat} (hi : i < n) (hr : rel (P i) (b i) t) : L n P B b t i = 0 := by
  have h := km_tick (b := b) hP hn (km_at hP hn t) (j := i) (by omega)
  rcases Nat.eq_zero_or_pos (L n P B b t i) with x | x
  · exact x
  · exact absurd (km_late hP hM hd hs h hi hr.1 hr.2 (by rw [mix_at]; exact x)) id
/-- what was run in a period is what is not left of the budget -/
theorem run_left {i a : Nat} (hi : i < n) (hP : 1 ≤ P i) (hr : rel (P i) (b i) a) : ∀ {s : Nat}, s < P i → L1 n P B b (a + s) i + cnt (pl n P B b) i a s = B i ∧ L n P B b (a + s + 1) i + cnt (pl n P B b) i a (s + 1) = B i := by
  have next : ∀ {s : Nat}, L1 n P B b (a + s) i + cnt (pl n P B b) i a s = B i → L n P B b (a + s + 1) i + cnt (pl n P B b) i a (s + 1) = B i := by
    intro s h
    rw [L_next]
    show _ + (cnt (pl n P B b) i a s + _) = _
    rcases pl_cases (n := n) (P := P) (B := B) (b := b) (t := a + s) with ⟨z, _⟩ | ⟨m, z, z1, z2, _⟩
    · rw [if_neg (by omega), if_neg (by omega)]; omega
    · by_cases e : m = i
      · subst e
        rw [if_pos z.symm, if_pos z]; omega
      · rw [if_neg (by omega), if_neg (by omega)]; omega
  intro s
  induction s with
  | zero =>
    intro _
    have h0 : L1 n P B b (a + 0) i + cnt (pl n P B b) i a 0 = B i := by rw [Nat.add_zero, (L1_rel (B := B) hi hr).1]; rfl
    exact ⟨h0, next h0⟩
  | succ s ih =>
    intro hs
    have hnr : ¬ rel (P i) (b i) (a + (s + 1)) := by
      rintro ⟨h1, h2⟩
      obtain ⟨q, hq⟩ := Nat.dvd_of_mod_eq_zero hr.2
      have := hr.1
      rw [show a + (s + 1) - b i = (s + 1) + P i * q by omega, Nat.add_mul_mod_self_left, Nat.mod_eq_of_lt hs] at h2
      omega
    have h0 : L1 n P B b (a + (s + 1)) i + cnt (pl n P B b) i a (s + 1) = B i := by rw [(L1_not hnr).1]; exact (ih (by omega)).2
    exact ⟨h0, next h0⟩
theorem keeps (hP : ∀ i, i < n → 1 ≤ P i ∧ P i ≤ 64 ∧ 1 ≤ B i ∧ B i ≤ P i) (hn : n ≤ 4) {M : Nat} (hM : 0 < M) (hd : ∀ i, i < n → P i ∣ M) (hs : Go.Proofs.Ytfjeoefnpcgnnaa.Ed.sm (fun i => B i * (M / P i)) n ≤ M) {i a : Nat} (hi : i < n) (hr : rel (P i) (b i) a) : cnt (pl n P B b) i a (P i) = B i := by
  have p1 := (hP i hi).1
  have h1 := (run_left (B := B) hi p1 hr (s := P i - 1) (by omega)).2
  have hr2 : rel (P i) (b i) (a + P i) := by
    refine ⟨by have := hr.1; omega, ?_⟩
    rw [show a + P i - b i = (a - b i) + P i by have := hr.1; omega, Nat.add_mod_right]; exact hr.2
  have h2 := none_left hP hn hM hd hs hi hr2
  rw [show a + (P i - 1) + 1 = a + P i by omega, h2, show P i - 1 + 1 = P i by omega] at h1
  omega
end
end Go.Proofs.Ytfjeoefnpcgnnaa.Tu
