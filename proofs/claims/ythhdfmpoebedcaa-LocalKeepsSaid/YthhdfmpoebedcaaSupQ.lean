/- The supply and the wait, plainly: what Of and Wait come to. -/
import Derived.Test.YthhdfmpoebedcaaSupP
namespace Go.Proofs.Ythhdfmpoebedcaa.Su
set_option linter.unusedVariables false

/-- the wait for n, of a period P and an idle rest I -/
def wt (P I n : Nat) : Nat := if n = 0 then 0 else n + ((n - 1) / (P - I) + 2) * I
theorem wt_form {P B n : Nat} (hB0 : 0 < B) (hB : B ≤ P) (hn : 0 < n) : ∃ q r, r < B ∧ n = q * B + r + 1 ∧ wt P (P - B) n = (P - B) + (q * P + (r + 1 + (P - B))) := by
  refine ⟨(n - 1) / B, (n - 1) % B, Nat.mod_lt _ hB0, ?_, ?_⟩
  · have := Nat.div_add_mod (n - 1) B
    rw [Nat.mul_comm] at this
    omega
  · unfold wt
    rw [if_neg (by omega), show P - (P - B) = B by omega]
    have h1 := Nat.div_add_mod (n - 1) B
    have h2 : (n - 1) / B * P = (n - 1) / B * B + (n - 1) / B * (P - B) := by rw [← Nat.mul_add]; congr 1; omega
    have h3 : B * ((n - 1) / B) = (n - 1) / B * B := Nat.mul_comm _ _
    rw [Nat.add_mul]
    omega
theorem sp_wt {P B : Nat} (hB0 : 0 < B) (hB : B ≤ P) (n : Nat) : sp P (P - B) (wt P (P - B) n) = n := by
  have hP : 0 < P := by omega
  rcases Nat.eq_zero_or_pos n with rfl | hn
  · rw [show wt P (P - B) 0 = 0 from rfl, sp_low hP (Nat.zero_le _)]
  · obtain ⟨q, r, hr, e, w⟩ := wt_form hB0 hB hn
    rw [w]
    unfold sp
    rw [Nat.add_sub_cancel_left, show P - (P - B) = B by omega, Nat.mul_comm q P, Nat.mul_add_div hP, Nat.mul_add_mod]
    by_cases hc : r + 1 < B
    · rw [Nat.div_eq_of_lt (by omega), Nat.mod_eq_of_lt (by omega), Nat.add_zero]
      omega
    · rw [show r + 1 + (P - B) = P by omega, Nat.div_self hP, Nat.mod_self, Nat.add_mul, Nat.one_mul]
      omega
theorem sp_less {P B : Nat} (hB0 : 0 < B) (hB : B ≤ P) {n t : Nat} (h : t < wt P (P - B) n) : sp P (P - B) t < n := by
  have hP : 0 < P := by omega
  have hn : 0 < n := by
    rcases Nat.eq_zero_or_pos n with rfl | hn
    · rw [show wt P (P - B) 0 = 0 from rfl] at h; omega
    · exact hn
  obtain ⟨q, r, hr, e, w⟩ := wt_form hB0 hB hn
  have h1 := sp_mono hP (show P - B < P by omega) (show t ≤ wt P (P - B) n - 1 by omega)
  have h2 := sp_step (t := wt P (P - B) n - 1) hP (show P - B < P by omega)
  have h3 := sp_wt hB0 hB n
  rw [show wt P (P - B) n - 1 + 1 = wt P (P - B) n by omega, h3] at h2
  have h4 : P - B ≤ wt P (P - B) n - 1 ∧ P - B ≤ (wt P (P - B) n - 1 - (P - B)) % P := by
    rw [w, show P - B + (q * P + (r + 1 + (P - B))) - 1 - (P - B) = P * q + (r + (P - B)) by rw [Nat.mul_comm]; omega, Nat.mul_add_mod, Nat.mod_eq_of_lt (by omega)]
    omega
  rw [if_pos h4] at h2
  omega
/-- from where the document begins to look -/
theorem wt_start {P B n : Nat} (hB0 : 0 < B) (hB : B ≤ P) (h : B < n) : P - B + (n - B) / B * P ≤ wt P (P - B) n := by
  unfold wt
  rw [if_neg (by omega), show P - (P - B) = B by omega]
  have h1 : (n - B) / B ≤ (n - 1) / B := Nat.div_le_div_right (by omega)
  have h2 : (n - B) / B * B ≤ n - B := Nat.div_mul_le_self _ _
  have h3 : (n - B) / B * P = (n - B) / B * B + (n - B) / B * (P - B) := by rw [← Nat.mul_add]; congr 1; omega
  have h4 : (n - B) / B * (P - B) ≤ (n - 1) / B * (P - B) := Nat.mul_le_mul_right _ h1
  rw [Nat.add_mul]
  omega
theorem wt_le {P B n : Nat} (hB0 : 0 < B) (hB : B ≤ P) (hP : P ≤ 64) (h : n ≤ 4096) : wt P (P - B) n ≤ 270000 := by
  unfold wt
  split
  · omega
  · rw [show P - (P - B) = B by omega]
    have h1 : (n - 1) / B ≤ n - 1 := Nat.div_le_self _ _
    have h2 : ((n - 1) / B + 2) * (P - B) ≤ 4097 * 63 := Nat.mul_le_mul (by omega) (by omega)
    omega
theorem sp_le {P B t : Nat} (hB0 : 0 < B) (hB : B ≤ P) : sp P (P - B) t ≤ t := by
  have hP : 0 < P := by omega
  induction t with
  | zero => rw [sp_low hP (Nat.zero_le _)]; exact Nat.le_refl _
  | succ t ih =>
    rw [sp_step hP (by omega)]
    split <;> omega
/-- may there be such a server? -/
def okS (p b : Int) : Bool := decide (1 ≤ b) && decide (b ≤ p) && decide (p ≤ 64)
theorem okS_nat {p b : Int} (h : okS p b = true) : ∃ P B : Nat, p = P ∧ b = B ∧ 0 < B ∧ B ≤ P ∧ P ≤ 64 := by
  simp only [okS, Bool.and_eq_true, decide_eq_true_eq] at h
  exact ⟨p.toNat, b.toNat, by omega, by omega, by omega, by omega, by omega⟩
theorem okS_yes {P B : Nat} (h1 : 0 < B) (h2 : B ≤ P) (h3 : P ≤ 64) : okS P B = true := by simp [okS]; omega
/-- from 0 to m? -/
def upTo (m n : Int) : Bool := decide (0 ≤ n) && decide (n ≤ m)
theorem upTo_nat {m n : Int} (h : upTo m n = true) : ∃ N : Nat, n = N ∧ (N : Int) ≤ m := by
  simp only [upTo, Bool.and_eq_true, decide_eq_true_eq] at h
  exact ⟨n.toNat, by omega, by omega⟩
theorem upTo_yes {m : Int} {N : Nat} (h : (N : Int) ≤ m) : upTo m N = true := by simp [upTo, h]
def ofN (p b t : Int) : Int := if okS p b && upTo 1048576 t then (sp p.toNat (p.toNat - b.toNat) t.toNat : Nat) else 0
def ofE (p b t : Int) : Int := if okS p b && upTo 1048576 t then 0 else 2
def waN (p b n : Int) : Int := if okS p b && upTo 4096 n then (wt p.toNat (p.toNat - b.toNat) n.toNat : Nat) else 0
def waE (p b n : Int) : Int := if okS p b && upTo 4096 n then 0 else 2
theorem ofN_ok {P B t : Nat} (h1 : 0 < B) (h2 : B ≤ P) (h3 : P ≤ 64) (ht : t ≤ 1048576) : ofN P B t = (sp P (P - B) t : Nat) := by
  unfold ofN; rw [okS_yes h1 h2 h3, upTo_yes (by omega)]; rfl
theorem ofE_ok {P B t : Nat} (h1 : 0 < B) (h2 : B ≤ P) (h3 : P ≤ 64) (ht : t ≤ 1048576) : ofE P B t = 0 := by
  unfold ofE; rw [okS_yes h1 h2 h3, upTo_yes (by omega)]; rfl
theorem waN_ok {P B n : Nat} (h1 : 0 < B) (h2 : B ≤ P) (h3 : P ≤ 64) (ht : n ≤ 4096) : waN P B n = (wt P (P - B) n : Nat) := by
  unfold waN; rw [okS_yes h1 h2 h3, upTo_yes (by omega)]; rfl
theorem waE_ok {P B n : Nat} (h1 : 0 < B) (h2 : B ≤ P) (h3 : P ≤ 64) (ht : n ≤ 4096) : waE P B n = 0 := by
  unfold waE; rw [okS_yes h1 h2 h3, upTo_yes (by omega)]; rfl
theorem ofN_no1 {p b t : Int} (h : okS p b = false) : ofN p b t = 0 := by simp [ofN, h]
theorem ofE_no1 {p b t : Int} (h : okS p b = false) : ofE p b t = 2 := by simp [ofE, h]
theorem waN_no1 {p b t : Int} (h : okS p b = false) : waN p b t = 0 := by simp [waN, h]
theorem waE_no1 {p b t : Int} (h : okS p b = false) : waE p b t = 2 := by simp [waE, h]
theorem ofN_no2 {p b t : Int} (h : upTo 1048576 t = false) : ofN p b t = 0 := by simp [ofN, h]
theorem ofE_no2 {p b t : Int} (h : upTo 1048576 t = false) : ofE p b t = 2 := by simp [ofE, h]
theorem waN_no2 {p b t : Int} (h : upTo 4096 t = false) : waN p b t = 0 := by simp [waN, h]
theorem waE_no2 {p b t : Int} (h : upTo 4096 t = false) : waE p b t = 2 := by simp [waE, h]
/-- the program's way to reckon it -/
theorem sp_max {P B t : Nat} (hB0 : 0 < B) (hB : B ≤ P) (h : P - B ≤ t) :
    ((sp P (P - B) t : Nat) : Int) = max (((t - (P - B)) / P : Nat) * (B : Int)) ((t : Int) - (((t - (P - B)) / P : Nat) + 2) * (P - B : Nat)) := by
  unfold sp
  rw [show P - (P - B) = B by omega]
  have h1 := Nat.div_add_mod (t - (P - B)) P
  have h2 := Nat.mod_lt (t - (P - B)) (show 0 < P by omega)
  generalize (t - (P - B)) / P = q at *
  generalize (t - (P - B)) % P = r at *
  have h3 : P * q = q * B + q * (P - B) := by rw [← Nat.mul_add, Nat.mul_comm]; congr 1; omega
  have h4 : ((q : Int) + 2) * ((P - B : Nat) : Int) = ((q * (P - B) : Nat) : Int) + 2 * ((P - B : Nat) : Int) := by push_cast; rw [Int.add_mul]
  have h5 : (q : Int) * (B : Int) = ((q * B : Nat) : Int) := by push_cast; rfl
  rw [h4, h5]
  generalize q * B = x at *
  generalize q * (P - B) = y at *
  omega
end Go.Proofs.Ythhdfmpoebedcaa.Su
