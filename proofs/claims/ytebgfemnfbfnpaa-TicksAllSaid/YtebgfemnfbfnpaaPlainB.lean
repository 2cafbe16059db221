/- Plain numbers for TicksAll: small lists, their sum and their least common multiple. -/
import Derived.Test.YtebgfemnfbfnpaaPlain
namespace Go.Proofs.Ytebgfemnfbfnpaa.Tk
set_option linter.unusedVariables false

def small (z : Int) : Int := 1 + z % 12
def ks (zs : List Int) : List Int := (zs.take 10).map small
def sumL : List Int → Int
  | [] => 0
  | x :: r => x + sumL r
def divs (m : Int) (l : List Int) : Bool := l.all fun x => m % x == 0

theorem small_bd (z : Int) : 1 ≤ small z ∧ small z ≤ 12 := by
  unfold small
  have h1 := Int.emod_nonneg z (by omega : (12 : Int) ≠ 0)
  have h2 := Int.emod_lt_of_pos z (by omega : (0 : Int) < 12)
  omega
theorem ks_bd (zs : List Int) : ∀ x ∈ ks zs, 1 ≤ x ∧ x ≤ 12 := by
  intro x hx
  obtain ⟨z, _, rfl⟩ := List.mem_map.1 hx
  exact small_bd z
theorem ks_len (zs : List Int) : (ks zs).length = min 10 zs.length := by simp [ks]
theorem ks_at (zs : List Int) (j : Nat) (h : j < zs.length) (h' : j < 10) : (ks zs)[j]? = some (small (zs.getD j 0)) := by
  simp [ks, h', List.getElem?_eq_getElem h, List.getD]
theorem sumL_snoc (l : List Int) (x : Int) : sumL (l ++ [x]) = sumL l + x := by
  induction l with
  | nil => simp [sumL]
  | cons y r ih => simp only [List.cons_append, sumL, ih]; omega
theorem take_snoc (l : List Int) (j : Nat) (x : Int) (h : l[j]? = some x) : l.take (j + 1) = l.take j ++ [x] := by
  rw [List.take_add_one, h]; rfl
theorem sumL_bd (l : List Int) (h : ∀ x ∈ l, 1 ≤ x ∧ x ≤ 12) : 0 ≤ sumL l ∧ sumL l ≤ 12 * l.length := by
  induction l with
  | nil => simp [sumL]
  | cons y r ih =>
    have h1 := h y (by simp)
    have h2 := ih (fun x hx => h x (by simp [hx]))
    simp only [sumL, List.length_cons]
    omega
theorem sumAll_small (l : List Int) (h : ∀ x ∈ l, 1 ≤ x ∧ x ≤ 12) : ∀ s : Int, s + 12 * l.length ≤ 1099511627776 → sumAll s l = (s + sumL l, 0) := by
  induction l with
  | nil => intro s _; simp [sumAll, sumL]
  | cons y r ih =>
    intro s hs
    have h1 := h y (by simp)
    simp only [List.length_cons] at hs
    rw [sumAll, if_pos (by omega), ih (fun x hx => h x (by simp [hx])) _ (by omega), sumL]
    congr 1; omega
theorem all_small {l : List Int} (h : ∀ x ∈ l, 1 ≤ x ∧ x ≤ 12) : l.all tk = true ∧ l.all ok1 = true := by
  constructor <;> rw [List.all_eq_true] <;> intro x hx
  · exact tk_yes (by have := h x hx; omega) (by have := h x hx; omega)
  · exact (ok1_iff x).2 (by have := h x hx; omega)

theorem lcm2_nat {n x : Int} (hn : 0 ≤ n) (hx : 0 ≤ x) : lcm2 n x = ((Nat.lcm n.toNat x.toNat : Nat) : Int) := by
  obtain ⟨N, rfl⟩ := Int.eq_ofNat_of_zero_le hn
  obtain ⟨X, rfl⟩ := Int.eq_ofNat_of_zero_le hx
  simp only [lcm2, Int.toNat_natCast, Nat.lcm]
  rw [Nat.mul_div_assoc _ (Nat.gcd_dvd_right N X), ← Int.natCast_ediv]
  simp
theorem dvd_27720 {x : Int} (h : 1 ≤ x) (h' : x ≤ 12) : x.toNat ∣ 27720 := by
  have : x.toNat = 1 ∨ x.toNat = 2 ∨ x.toNat = 3 ∨ x.toNat = 4 ∨ x.toNat = 5 ∨ x.toNat = 6 ∨ x.toNat = 7 ∨ x.toNat = 8 ∨ x.toNat = 9 ∨ x.toNat = 10 ∨ x.toNat = 11 ∨ x.toNat = 12 := by omega
  rcases this with h | h | h | h | h | h | h | h | h | h | h | h <;> rw [h] <;> decide
theorem lcm_small (l : List Int) (h : ∀ x ∈ l, 1 ≤ x ∧ x ≤ 12) : ∀ n : Int, 1 ≤ n → n.toNat ∣ 27720 →
    ∃ N : Nat, lcmAll n l = ((N : Int), 0) ∧ N ∣ 27720 ∧ n.toNat ∣ N ∧ (∀ x ∈ l, x.toNat ∣ N) ∧ ∀ m : Nat, n.toNat ∣ m → (∀ x ∈ l, x.toNat ∣ m) → N ∣ m := by
  induction l with
  | nil =>
    intro n hn hd
    refine ⟨n.toNat, by rw [lcmAll]; congr 1; omega, hd, Nat.dvd_refl _, by simp, fun m hm _ => hm⟩
  | cons y r ih =>
    intro n hn hd
    have hy := h y (by simp)
    have e := lcm2_nat (n := n) (x := y) (by omega) (by omega)
    have hl : Nat.lcm n.toNat y.toNat ∣ 27720 := Nat.lcm_dvd hd (dvd_27720 hy.1 hy.2)
    have hle := Nat.le_of_dvd (by omega) hl
    have hpos : 0 < Nat.lcm n.toNat y.toNat := Nat.pos_of_dvd_of_pos hl (by omega)
    obtain ⟨N, h1, h2, h3, h4, h5⟩ := ih (fun x hx => h x (by simp [hx])) (lcm2 n y) (by omega) (by rw [e]; simpa using hl)
    have e2 : (lcm2 n y).toNat = Nat.lcm n.toNat y.toNat := by rw [e]; simp
    rw [e2] at h3 h5
    refine ⟨N, by rw [lcmAll, if_pos (by omega)]; exact h1, h2, Nat.dvd_trans (Nat.dvd_lcm_left _ _) h3, ?_, ?_⟩
    · intro x hx
      rcases List.mem_cons.1 hx with rfl | hx
      · exact Nat.dvd_trans (Nat.dvd_lcm_right _ _) h3
      · exact h4 x hx
    · intro m hm hall
      exact h5 m (Nat.lcm_dvd hm (hall y (by simp))) (fun x hx => hall x (by simp [hx]))

/-- what the law asks of a small list -/
theorem small_facts (l : List Int) (h : ∀ x ∈ l, 1 ≤ x ∧ x ≤ 12) (hl : l.length ≤ 10) : ∃ N : Int, 1 ≤ N ∧ N ≤ 27720 ∧ lcmR 1099511627776 l = (N, 0) ∧ sumR l = (sumL l, 0) ∧ lcmR (N - 1) l = (0, 10) ∧
    ∀ m : Int, 1 ≤ m → m ≤ N → divs m l = decide (m = N) := by
  obtain ⟨N, h1, h2, _, h4, h5⟩ := lcm_small l h 1 (by omega) (by decide)
  have hle := Nat.le_of_dvd (by omega) h2
  have hpos : 0 < N := Nat.pos_of_dvd_of_pos h2 (by omega)
  have ⟨a1, a2⟩ := all_small h
  refine ⟨N, by omega, by omega, ?_, ?_, ?_, ?_⟩
  · rw [lcmR_yes (by decide) a2, h1, cutTo, if_pos rfl, if_pos (by omega)]
  · rw [sumR_yes a1, sumAll_small l h 0 (by omega)]; congr 1; omega
  · rw [lcmR_yes (tk_yes (by omega) (by omega)) a2, h1, cutTo, if_pos rfl, if_neg (by show ¬ (N : Int) ≤ N - 1; omega)]
  · intro m hm hm'
    rw [Bool.eq_iff_iff, decide_eq_true_iff]
    unfold divs
    rw [List.all_eq_true]
    constructor
    · intro hall
      have hd : N ∣ m.toNat := h5 m.toNat (by simp) (fun x hx => by
        have hx1 := h x hx
        have := hall x hx
        simp only [beq_iff_eq] at this
        have hdv := Int.dvd_of_emod_eq_zero this
        rw [← Int.natCast_dvd_natCast, Int.toNat_of_nonneg (by omega), Int.toNat_of_nonneg (by omega)]
        exact hdv)
      have := Nat.le_of_dvd (by omega) hd
      omega
    · rintro rfl x hx
      have hx1 := h x hx
      have := h4 x hx
      rw [beq_iff_eq]
      apply Int.emod_eq_zero_of_dvd
      rw [← Int.toNat_of_nonneg (by omega : 0 ≤ x), Int.natCast_dvd_natCast]
      exact this

theorem divs_step (m : Int) (l : List Int) (i : Nat) (x : Int) (h : l[i]? = some x) : divs m (l.take (i + 1)) = (divs m (l.take i) && (m % x == 0)) := by
  rw [take_snoc l i x h]; simp [divs]
theorem divs_all (m : Int) (l : List Int) (i : Nat) (h : l.length ≤ i) : divs m (l.take i) = divs m l := by
  rw [List.take_of_length_le h]

end Go.Proofs.Ytebgfemnfbfnpaa.Tk
