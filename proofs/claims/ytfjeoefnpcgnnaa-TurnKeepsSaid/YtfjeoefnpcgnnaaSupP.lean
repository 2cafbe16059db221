/- The supply, plainly: how many ticks of so many a server gives at least. -/
import Derived.Test.YtfjeoefnpcgnnaaRows
import Derived.WalkKit
import Derived.WalkSpells
namespace Go.Proofs.Ytfjeoefnpcgnnaa.Su
set_option linter.unusedVariables false

/-- the supply of t ticks, of a period P and an idle rest I (P less the budget) -/
def sp (P I t : Nat) : Nat := (t - I) / P * (P - I) + ((t - I) % P - I)
/-- one tick more -/
theorem div_succ {P u : Nat} (h : 0 < P) : ((u + 1) / P = u / P ∧ (u + 1) % P = u % P + 1 ∧ u % P + 1 < P) ∨ ((u + 1) / P = u / P + 1 ∧ (u + 1) % P = 0 ∧ u % P + 1 = P) := by
  have hm := Nat.mod_lt u h
  have e := Nat.div_add_mod u P
  by_cases hc : u % P + 1 < P
  · left
    have e1 : u + 1 = P * (u / P) + (u % P + 1) := by omega
    refine ⟨?_, ?_, hc⟩
    · rw [e1, Nat.mul_add_div h, Nat.div_eq_of_lt hc]; rfl
    · rw [e1, Nat.mul_add_mod, Nat.mod_eq_of_lt hc]
  · right
    have hcc : u % P + 1 = P := by omega
    have e1 : u + 1 = P * (u / P + 1) := by rw [Nat.mul_add]; omega
    refine ⟨?_, ?_, hcc⟩
    · rw [e1, Nat.mul_div_cancel_left _ h]
    · rw [e1, Nat.mul_mod_right]
theorem sp_low {P I t : Nat} (hP : 0 < P) (h : t ≤ I) : sp P I t = 0 := by
  unfold sp
  rw [Nat.sub_eq_zero_of_le h, Nat.zero_div, Nat.zero_mod]
  omega
theorem sp_step {P I t : Nat} (hP : 0 < P) (hI : I < P) : sp P I (t + 1) = sp P I t + (if I ≤ t ∧ I ≤ (t - I) % P then 1 else 0) := by
  by_cases ht : I ≤ t
  · unfold sp
    rw [show t + 1 - I = (t - I) + 1 by omega]
    generalize t - I = u
    have hm := Nat.mod_lt u hP
    rcases div_succ (u := u) hP with ⟨h1, h2, h3⟩ | ⟨h1, h2, h3⟩
    · rw [h1, h2]
      by_cases hc : I ≤ u % P
      · rw [if_pos ⟨ht, hc⟩]; omega
      · rw [if_neg (fun h => hc h.2)]; omega
    · rw [h1, h2, if_pos ⟨ht, by omega⟩, Nat.add_mul]
      omega
  · rw [sp_low hP (by omega), sp_low hP (by omega), if_neg (fun h => ht h.1)]
theorem sp_mono {P I : Nat} (hP : 0 < P) (hI : I < P) : ∀ {t u : Nat}, t ≤ u → sp P I t ≤ sp P I u
  | t, 0, h => by obtain rfl : t = 0 := by omega
                  exact Nat.le_refl _
  | t, u + 1, h => by
    by_cases e : t = u + 1
    · subst e; exact Nat.le_refl _
    · have := sp_mono hP hI (t := t) (u := u) (by omega)
      rw [sp_step hP hI]; omega
theorem sp_period {P I t : Nat} (hP : 0 < P) (hI : I ≤ t) : sp P I (t + P) = sp P I t + (P - I) := by
  unfold sp
  rw [show t + P - I = (t - I) + P by omega, Nat.add_div_right _ hP, Nat.add_mod_right, Nat.succ_mul]
  omega
/-- how often of n numbers from a on -/
def cnt (r : Nat → Bool) (a : Nat) : Nat → Nat
  | 0 => 0
  | n + 1 => cnt r a n + (if r (a + n) then 1 else 0)
theorem cnt_succ (r : Nat → Bool) (a n : Nat) : cnt r a (n + 1) = cnt r a n + (if r (a + n) then 1 else 0) := rfl
theorem cnt_add (r : Nat → Bool) (a m : Nat) : ∀ n, cnt r a (m + n) = cnt r a m + cnt r (a + m) n
  | 0 => by simp [cnt]
  | n + 1 => by
    rw [show m + (n + 1) = (m + n) + 1 from rfl, cnt_succ, cnt_succ, cnt_add r a m n, Nat.add_assoc a m n]
    omega
theorem cnt_le (r : Nat → Bool) (a : Nat) : ∀ n, cnt r a n ≤ n
  | 0 => Nat.le_refl _
  | n + 1 => by unfold cnt; have := cnt_le r a n; split <;> omega
/-- a server runs in just its budget of each period, of the first K ones -/
def Runs (P B : Nat) (r : Nat → Bool) (K : Nat) : Prop := ∀ k, k < K → cnt r (k * P) P = B
/-- of a part of one period -/
theorem part_ge {P B k o n : Nat} {r : Nat → Bool} {K : Nat} (h : Runs P B r K) (hk : k < K) (hn : o + n ≤ P) (hB : B ≤ P) : n - (P - B) ≤ cnt r (k * P + o) n := by
  have h1 := h k hk
  obtain ⟨b, hb⟩ : ∃ b, b = k * P := ⟨_, rfl⟩
  rw [← hb] at h1 ⊢
  obtain ⟨q, hq⟩ : ∃ q, P = o + (n + q) := ⟨P - o - n, by omega⟩
  have h2 : cnt r b P = cnt r b o + (cnt r (b + o) n + cnt r (b + o + n) q) := by rw [hq, cnt_add, cnt_add]
  have h3 := cnt_le r b o
  have h4 := cnt_le r (b + o + n) q
  omega
/-- of whole periods -/
theorem whole_eq {P B : Nat} {r : Nat → Bool} {K : Nat} (h : Runs P B r K) : ∀ (m k : Nat), k + m ≤ K → cnt r (k * P) (m * P) = m * B
  | 0, k, _ => by simp [cnt]
  | m + 1, k, hk => by
    rw [Nat.succ_mul, cnt_add, whole_eq h m k (by omega), ← Nat.add_mul, h (k + m) (by omega), Nat.succ_mul]
/-- any t ticks in a row -/
theorem sound {P B : Nat} {r : Nat → Bool} {K a t : Nat} (hB0 : 0 < B) (hB : B ≤ P) (h : Runs P B r K) (ht : a + t ≤ K * P) : sp P (P - B) t ≤ cnt r a t := by
  have hP : 0 < P := by omega
  have hI : P - B < P := by omega
  have hPI : P - (P - B) = B := by omega
  have hm := Nat.mod_lt a hP
  have ea := Nat.div_add_mod a P
  obtain ⟨k, hk⟩ : ∃ k, k = a / P := ⟨_, rfl⟩
  obtain ⟨o, ho⟩ : ∃ o, o = a % P := ⟨_, rfl⟩
  rw [← hk, ← ho] at ea
  rw [← ho] at hm
  have ha : a = k * P + o := by rw [Nat.mul_comm]; exact ea.symm
  subst ha
  by_cases hc : t ≤ P - o
  · have hkK : k < K ∨ t = 0 := by
      rcases Nat.eq_zero_or_pos t with h0 | h0
      · exact Or.inr h0
      · left
        apply Decidable.byContradiction
        intro hn
        have : K * P ≤ k * P := Nat.mul_le_mul_right _ (by omega)
        omega
    rcases hkK with hkK | rfl
    · have h1 := part_ge h hkK (o := o) (n := t) (by omega) hB
      have h2 : sp P (P - B) t ≤ t - (P - B) := by
        unfold sp
        rcases Nat.lt_or_ge (t - (P - B)) P with h3 | h3
        · rw [Nat.div_eq_of_lt h3, Nat.mod_eq_of_lt h3]; omega
        · rw [show t - (P - B) = P by omega, Nat.div_self hP, Nat.mod_self]; omega
      omega
    · rw [sp_low hP (Nat.zero_le _)]; exact Nat.zero_le _
  · obtain ⟨x, hx⟩ : ∃ x, x = P - o := ⟨_, rfl⟩
    obtain ⟨m, hm2⟩ : ∃ m, m = (t - x) / P := ⟨_, rfl⟩
    obtain ⟨y, hy⟩ : ∃ y, y = (t - x) % P := ⟨_, rfl⟩
    have hyP : y < P := by rw [hy]; exact Nat.mod_lt _ hP
    have et : t = x + (m * P + y) := by
      have := Nat.div_add_mod (t - x) P
      rw [← hm2, ← hy, Nat.mul_comm] at this
      omega
    have hkm : k + 1 + m ≤ K ∧ (0 < y → k + 1 + m < K) := by
      have e1 : (k + 1 + m) * P = k * P + P + m * P := by rw [Nat.add_mul, Nat.add_mul, Nat.one_mul]
      constructor
      · apply Decidable.byContradiction
        intro hn
        have : (K + 1) * P ≤ (k + 1 + m) * P := Nat.mul_le_mul_right _ (by omega)
        rw [Nat.add_mul, Nat.one_mul] at this
        omega
      · intro hy0
        apply Decidable.byContradiction
        intro hn
        have : K * P ≤ (k + 1 + m) * P := Nat.mul_le_mul_right _ (by omega)
        omega
    have w1 := part_ge h (k := k) (o := o) (n := x) (by omega) (by omega) hB
    have w2 := whole_eq h m (k + 1) (by omega)
    have w3 : y - (P - B) ≤ cnt r ((k + 1 + m) * P) y := by
      rcases Nat.eq_zero_or_pos y with h0 | h0
      · rw [h0]; omega
      · have := part_ge h (k := k + 1 + m) (o := 0) (n := y) (hkm.2 h0) (by omega) hB
        simpa using this
    have ew : cnt r (k * P + o) t = cnt r (k * P + o) x + (cnt r ((k + 1) * P) (m * P) + cnt r ((k + 1 + m) * P) y) := by
      rw [et, cnt_add, cnt_add]
      have e1 : k * P + o + x = (k + 1) * P := by rw [Nat.add_mul, Nat.one_mul]; omega
      rw [e1, ← Nat.add_mul]
    rw [ew, w2]
    -- the supply of as many ticks
    have hle : sp P (P - B) t ≤ (x - (P - B)) + (m * B + (y - (P - B))) := by
      rcases Nat.lt_or_ge x (P - B) with hxI | hxI
      · refine Nat.le_trans (sp_mono hP hI (u := (P - B) + (m * P + y)) (by omega)) ?_
        unfold sp
        rw [hPI, Nat.add_sub_cancel_left, Nat.mul_comm m P, Nat.mul_add_div hP, Nat.mul_add_mod, Nat.div_eq_of_lt hyP, Nat.mod_eq_of_lt hyP, Nat.add_zero]
        omega
      · unfold sp
        rw [hPI, show t - (P - B) = P * m + ((x - (P - B)) + y) by rw [Nat.mul_comm]; omega, Nat.mul_add_div hP, Nat.mul_add_mod]
        have hx' : x - (P - B) ≤ B := by omega
        generalize x - (P - B) = x' at *
        rcases Nat.lt_or_ge (x' + y) P with h1 | h1
        · rw [Nat.div_eq_of_lt h1, Nat.mod_eq_of_lt h1, Nat.add_zero]
          omega
        · have h2 : (x' + y) / P = 1 := by
            rw [show x' + y = P * 1 + (x' + y - P) by omega, Nat.mul_add_div hP, Nat.div_eq_of_lt (by omega)]
          have h3 : (x' + y) % P = x' + y - P := by
            rw [show x' + y = P * 1 + (x' + y - P) by omega, Nat.mul_add_mod, Nat.mod_eq_of_lt (by omega)]
            omega
          rw [h2, h3, Nat.add_mul, Nat.one_mul]
          omega
    omega
/-- the worst way to run gives just as many -/
theorem worst {P B : Nat} (hB0 : 0 < B) (hB : B ≤ P) (t : Nat) : cnt (fun i => decide (P ≤ i) && decide (P - B ≤ i % P)) B t = sp P (P - B) t := by
  have hP : 0 < P := by omega
  induction t with
  | zero => rw [sp_low hP (Nat.zero_le _)]; rfl
  | succ t ih =>
    rw [cnt_succ, ih, sp_step hP (by omega)]
    have e : (decide (P ≤ B + t) && decide (P - B ≤ (B + t) % P)) = decide (P - B ≤ t ∧ P - B ≤ (t - (P - B)) % P) := by
      rw [Bool.eq_iff_iff, Bool.and_eq_true, decide_eq_true_eq, decide_eq_true_eq, decide_eq_true_eq]
      constructor
      · rintro ⟨h1, h2⟩
        have e : (B + t) % P = (t - (P - B)) % P := by rw [show B + t = (t - (P - B)) + P by omega, Nat.add_mod_right]
        exact ⟨by omega, by rw [← e]; exact h2⟩
      · rintro ⟨h1, h2⟩
        have e : (B + t) % P = (t - (P - B)) % P := by rw [show B + t = (t - (P - B)) + P by omega, Nat.add_mod_right]
        exact ⟨by omega, by rw [e]; exact h2⟩
    rw [e]
    simp
/-- enough ticks give as many as is asked for -/
theorem sp_reach {P B : Nat} (hB0 : 0 < B) (hB : B ≤ P) (n : Nat) : n ≤ sp P (P - B) (P - B + n * P) := by
  have hP : 0 < P := by omega
  unfold sp
  rw [show P - (P - B) = B by omega, Nat.add_sub_cancel_left, Nat.mul_div_cancel _ hP]
  have : n * 1 ≤ n * B := Nat.mul_le_mul_left _ hB0
  omega
end Go.Proofs.Ytfjeoefnpcgnnaa.Su
