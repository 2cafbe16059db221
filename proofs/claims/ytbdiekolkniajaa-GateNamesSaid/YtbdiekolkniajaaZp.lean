/- The demand of a task, plainly. -/
import Derived.Test.YtbdiekolkniajaaRows
import Derived.WalkKit
import Derived.WalkSpells
namespace Go.Proofs.Ytbdiekolkniajaa.De
set_option linter.unusedVariables false

/-- how many jobs can be released, and have their deadlines, in t ticks in a row -/
def jobs (P D t : Nat) : Nat := if t < D then 0 else 1 + (t - D) / P
theorem jobs_period {P D t : Nat} (hP : 0 < P) (h : D ≤ t) (q : Nat) : jobs P D (t + q * P) = jobs P D t + q := by
  unfold jobs
  rw [if_neg (by omega), if_neg (by omega), show t + q * P - D = (t - D) + q * P by omega, Nat.add_mul_div_right _ _ hP]
  omega
theorem jobs_one {P D t : Nat} (hP : 0 < P) (h : D + P ≤ t) : jobs P D t = 1 + jobs P D (t - P) := by
  have := jobs_period (D := D) hP (t := t - P) (by omega) 1
  rw [Nat.one_mul, show t - P + P = t by omega] at this
  omega
theorem jobs_mono {P D t u : Nat} (h : t ≤ u) : jobs P D t ≤ jobs P D u := by
  unfold jobs
  by_cases h1 : t < D
  · rw [if_pos h1]; exact Nat.zero_le _
  · rw [if_neg h1, if_neg (by omega)]
    have := Nat.div_le_div_right (c := P) (show t - D ≤ u - D by omega)
    omega
/-- releases, each a period behind the last one at least -/
def Spaced (P : Nat) : List Nat → Prop
  | [] => True
  | [_] => True
  | a :: b :: r => a + P ≤ b ∧ Spaced P (b :: r)
theorem Spaced.tail {P a : Nat} {r : List Nat} (h : Spaced P (a :: r)) : Spaced P r := by
  cases r with
  | nil => trivial
  | cons b r => exact h.2
theorem Spaced.all {P : Nat} : ∀ {r : List Nat} {a : Nat}, Spaced P (a :: r) → ∀ x ∈ r, a + P ≤ x
  | [], _, _, x, hx => by cases hx
  | b :: r, a, h, x, hx => by
    rcases List.mem_cons.1 hx with rfl | hx
    · exact h.1
    · have := Spaced.all h.2 x hx
      have := h.1
      omega
/-- those that are released from b on, and have their deadlines by b + t -/
def hit (D b t : Nat) (a : Nat) : Bool := decide (b ≤ a) && decide (a + D ≤ b + t)
def cj (D b t : Nat) : List Nat → Nat
  | [] => 0
  | a :: r => (if hit D b t a then 1 else 0) + cj D b t r
theorem cj_shift {D b t P : Nat} (ht : P ≤ t) : ∀ {r : List Nat}, (∀ x ∈ r, b + P ≤ x) → cj D b t r = cj D (b + P) (t - P) r
  | [], _ => rfl
  | a :: r, h => by
    have ha := h a (by simp)
    have e : hit D b t a = hit D (b + P) (t - P) a := by
      unfold hit
      rw [Bool.eq_iff_iff, Bool.and_eq_true, Bool.and_eq_true]
      simp only [decide_eq_true_eq]
      omega
    unfold cj
    rw [e, cj_shift ht (fun x hx => h x (by simp [hx]))]
theorem cj_none {D b t : Nat} : ∀ {r : List Nat}, (∀ x ∈ r, b + t < x + D) → cj D b t r = 0
  | [], _ => rfl
  | a :: r, h => by
    have ha := h a (by simp)
    have e : hit D b t a = false := by unfold hit; simp; omega
    unfold cj
    rw [e, cj_none (fun x hx => h x (by simp [hx]))]
    rfl
/-- no more than the demand -/
theorem cj_le {P D : Nat} (hP : 0 < P) : ∀ {r : List Nat} {b t : Nat}, Spaced P r → cj D b t r ≤ jobs P D t
  | [], b, t, _ => Nat.zero_le _
  | a :: r, b, t, h => by
    have hall := h.all
    have htl := h.tail
    cases e : hit D b t a with
    | false =>
      unfold cj
      rw [e]
      have := cj_le hP (D := D) (b := b) (t := t) htl
      simpa using this
    | true =>
      have e2 : b ≤ a ∧ a + D ≤ b + t := by unfold hit at e; simpa using e
      unfold cj
      rw [e]
      by_cases hc : D + P ≤ t
      · rw [cj_shift (P := P) (by omega) (fun x hx => by have := hall x hx; omega), jobs_one hP hc]
        have := cj_le hP (D := D) (b := b + P) (t := t - P) htl
        simp only [if_true]
        omega
      · rw [cj_none (fun x hx => by have := hall x hx; omega)]
        have : 1 ≤ jobs P D t := by unfold jobs; rw [if_neg (by omega)]; exact Nat.le_add_right 1 _
        simpa using this
end Go.Proofs.Ytbdiekolkniajaa.De

namespace Go.Proofs.Ytbdiekolkniajaa.Tk
set_option linter.unusedVariables false

def top : Int := 1099511627776
def tk (n : Int) : Bool := decide (0 ≤ n) && decide (n ≤ 1099511627776)

theorem tk_yes {n : Int} (h : 0 ≤ n) (k : n ≤ 1099511627776) : tk n = true := by simp [tk, h, k]
theorem tk_lo {n : Int} (h : n < 0) : tk n = false := by simp [tk]; omega
theorem tk_hi {n : Int} (h : 1099511627776 < n) : tk n = false := by simp [tk]; omega
theorem tk_cases (n : Int) : (n < 0 ∧ tk n = false) ∨ (1099511627776 < n ∧ tk n = false) ∨ (0 ≤ n ∧ n ≤ 1099511627776 ∧ tk n = true) := by
  by_cases h : 0 ≤ n
  · by_cases k : n ≤ 1099511627776
    · exact Or.inr (Or.inr ⟨h, k, tk_yes h k⟩)
    · exact Or.inr (Or.inl ⟨by omega, tk_hi (by omega)⟩)
  · exact Or.inl ⟨by omega, tk_lo (by omega)⟩
theorem tk_iff (n : Int) : tk n = true ↔ 0 ≤ n ∧ n ≤ 1099511627776 := by simp [tk]

/-- a number and an error's number -/
def addN (a b : Int) : Int := if tk a && tk b && decide (a + b ≤ 1099511627776) then a + b else 0
def addE (a b : Int) : Int := if tk a && tk b then if a + b ≤ 1099511627776 then 0 else 10 else 2
def subN (a b : Int) : Int := if tk a && tk b && decide (b ≤ a) then a - b else 0
def subE (a b : Int) : Int := if tk a && tk b && decide (b ≤ a) then 0 else 2
def mulN (a b : Int) : Int := if tk a && tk b && decide (a * b ≤ 1099511627776) then a * b else 0
def mulE (a b : Int) : Int := if tk a && tk b then if a * b ≤ 1099511627776 then 0 else 10 else 2
def divN (a b : Int) : Int := if tk a && tk b && decide (0 < b) then a / b else 0
def divE (a b : Int) : Int := if tk a && tk b && decide (0 < b) then 0 else 2
def gcdN (a b : Int) : Int := if tk a && tk b then (Nat.gcd a.toNat b.toNat : Nat) else 0
def gcdE (a b : Int) : Int := if tk a && tk b then 0 else 2

theorem addN_no1 {a b : Int} (h : tk a = false) : addN a b = 0 := by simp [addN, h]
theorem addE_no1 {a b : Int} (h : tk a = false) : addE a b = 2 := by simp [addE, h]
theorem addN_no2 {a b : Int} (h : tk b = false) : addN a b = 0 := by simp [addN, h]
theorem addE_no2 {a b : Int} (h : tk b = false) : addE a b = 2 := by simp [addE, h]
theorem addN_over {a b : Int} (h : 1099511627776 < a + b) : addN a b = 0 := by unfold addN; rw [if_neg]; simp; omega
theorem addE_over {a b : Int} (ha : tk a = true) (hb : tk b = true) (h : 1099511627776 < a + b) : addE a b = 10 := by
  simp only [addE, ha, hb, Bool.and_self, if_true]; rw [if_neg (by omega)]
theorem addN_ok {a b : Int} (ha : tk a = true) (hb : tk b = true) (h : a + b ≤ 1099511627776) : addN a b = a + b := by simp [addN, ha, hb, h]
theorem addE_ok {a b : Int} (ha : tk a = true) (hb : tk b = true) (h : a + b ≤ 1099511627776) : addE a b = 0 := by simp [addE, ha, hb, h]

theorem subN_no1 {a b : Int} (h : tk a = false) : subN a b = 0 := by simp [subN, h]
theorem subE_no1 {a b : Int} (h : tk a = false) : subE a b = 2 := by simp [subE, h]
theorem subN_no2 {a b : Int} (h : tk b = false) : subN a b = 0 := by simp [subN, h]
theorem subE_no2 {a b : Int} (h : tk b = false) : subE a b = 2 := by simp [subE, h]
theorem subN_no3 {a b : Int} (h : a < b) : subN a b = 0 := by unfold subN; rw [if_neg]; simp; omega
theorem subE_no3 {a b : Int} (h : a < b) : subE a b = 2 := by unfold subE; rw [if_neg]; simp; omega
theorem subN_ok {a b : Int} (ha : tk a = true) (hb : tk b = true) (h : b ≤ a) : subN a b = a - b := by simp [subN, ha, hb, h]
theorem subE_ok {a b : Int} (ha : tk a = true) (hb : tk b = true) (h : b ≤ a) : subE a b = 0 := by simp [subE, ha, hb, h]

theorem mulN_no1 {a b : Int} (h : tk a = false) : mulN a b = 0 := by simp [mulN, h]
theorem mulE_no1 {a b : Int} (h : tk a = false) : mulE a b = 2 := by simp [mulE, h]
theorem mulN_no2 {a b : Int} (h : tk b = false) : mulN a b = 0 := by simp [mulN, h]
theorem mulE_no2 {a b : Int} (h : tk b = false) : mulE a b = 2 := by simp [mulE, h]
theorem mulN_over {a b : Int} (h : 1099511627776 < a * b) : mulN a b = 0 := by
  unfold mulN; rw [if_neg]; simp only [Bool.and_eq_true, decide_eq_true_eq, not_and, Int.not_le]; exact fun _ => h
theorem mulE_over {a b : Int} (ha : tk a = true) (hb : tk b = true) (h : 1099511627776 < a * b) : mulE a b = 10 := by
  simp only [mulE, ha, hb, Bool.and_self, if_true]; rw [if_neg (Int.not_le.2 h)]
theorem mulN_ok {a b : Int} (ha : tk a = true) (hb : tk b = true) (h : a * b ≤ 1099511627776) : mulN a b = a * b := by simp [mulN, ha, hb, h]
theorem mulE_ok {a b : Int} (ha : tk a = true) (hb : tk b = true) (h : a * b ≤ 1099511627776) : mulE a b = 0 := by simp [mulE, ha, hb, h]

theorem divN_no1 {a b : Int} (h : tk a = false) : divN a b = 0 := by simp [divN, h]
theorem divE_no1 {a b : Int} (h : tk a = false) : divE a b = 2 := by simp [divE, h]
theorem divN_no2 {a b : Int} (h : tk b = false) : divN a b = 0 := by simp [divN, h]
theorem divE_no2 {a b : Int} (h : tk b = false) : divE a b = 2 := by simp [divE, h]
theorem divN_no3 {a : Int} : divN a 0 = 0 := by simp [divN]
theorem divE_no3 {a : Int} : divE a 0 = 2 := by simp [divE]
theorem divN_ok {a b : Int} (ha : tk a = true) (hb : tk b = true) (h : 0 < b) : divN a b = a / b := by simp [divN, ha, hb, h]
theorem divE_ok {a b : Int} (ha : tk a = true) (hb : tk b = true) (h : 0 < b) : divE a b = 0 := by simp [divE, ha, hb, h]

theorem gcdN_no1 {a b : Int} (h : tk a = false) : gcdN a b = 0 := by simp [gcdN, h]
theorem gcdE_no1 {a b : Int} (h : tk a = false) : gcdE a b = 2 := by simp [gcdE, h]
theorem gcdN_no2 {a b : Int} (h : tk b = false) : gcdN a b = 0 := by simp [gcdN, h]
theorem gcdE_no2 {a b : Int} (h : tk b = false) : gcdE a b = 2 := by simp [gcdE, h]
theorem gcdN_ok {a b : Int} (ha : tk a = true) (hb : tk b = true) : gcdN a b = (Nat.gcd a.toNat b.toNat : Nat) := by simp [gcdN, ha, hb]
theorem gcdE_ok {a b : Int} (ha : tk a = true) (hb : tk b = true) : gcdE a b = 0 := by simp [gcdE, ha, hb]

theorem gcd_step (a b : Int) (ha : 0 ≤ a) (hb : 0 < b) : Nat.gcd a.toNat b.toNat = Nat.gcd b.toNat (a % b).toNat := by
  have e : (a % b).toNat = a.toNat % b.toNat := by
    rw [Int.toNat_emod ha (by omega)]
  rw [e, Nat.gcd_comm, Nat.gcd_rec, Nat.gcd_comm]
theorem gcd_end (a : Int) (ha : 0 ≤ a) : (Nat.gcd a.toNat (0 : Int).toNat : Int) = a := by
  simp; omega

/-- a product against the horizon, asked by a quotient -/
theorem mul_over_iff {a b : Int} (hb : 0 < b) : 1099511627776 / b < a ↔ 1099511627776 < a * b := by
  rw [Int.ediv_lt_iff_lt_mul hb]
theorem mul_bd {a b : Int} (h : a ≤ 1099511627776 / b) (hb : 0 < b) : a * b ≤ 1099511627776 := by
  rw [Int.le_ediv_iff_mul_le hb] at h; exact h

/-- all of a list added to n, one behind the other: the number, and an error's number (the number counts for nothing then) -/
def sumAll : Int → List Int → Int × Int
  | n, [] => (n, 0)
  | n, x :: r => if n + x ≤ 1099511627776 then sumAll (n + x) r else (0, 10)
/-- the next one of n and x: their least common multiple -/
def lcm2 (n x : Int) : Int := n * (x / (Nat.gcd n.toNat x.toNat : Nat))
def lcmAll : Int → List Int → Int × Int
  | n, [] => (n, 0)
  | n, x :: r => if lcm2 n x ≤ 1099511627776 then lcmAll (lcm2 n x) r else (0, 10)
def ok1 (x : Int) : Bool := tk x && decide (x ≠ 0)
def sumR (l : List Int) : Int × Int := if l.all tk then sumAll 0 l else (0, 2)
def cutTo (limit : Int) (r : Int × Int) : Int × Int := if r.2 = 0 then if r.1 ≤ limit then r else (0, 10) else r
def lcmR (limit : Int) (l : List Int) : Int × Int := if tk limit && l.all ok1 then cutTo limit (lcmAll 1 l) else (0, 2)

theorem drop_step (zs : List Int) (k : Nat) (h : k < zs.length) : zs.drop k = zs.getD k 0 :: zs.drop (k + 1) := by
  rw [List.drop_eq_getElem_cons h]; simp [List.getD, List.getElem?_eq_getElem h]
theorem sum_go {zs : List Int} {k : Nat} {n : Int} (h : k < zs.length) (hs : n + zs.getD k 0 ≤ 1099511627776) : sumAll n (zs.drop k) = sumAll (n + zs.getD k 0) (zs.drop (k + 1)) := by
  rw [drop_step zs k h, sumAll, if_pos hs]
theorem sum_halt {zs : List Int} {k : Nat} {n : Int} (h : k < zs.length) (hs : 1099511627776 < n + zs.getD k 0) : sumAll n (zs.drop k) = (0, 10) := by
  rw [drop_step zs k h, sumAll, if_neg (by omega)]
theorem sum_end {zs : List Int} {k : Nat} {n : Int} (h : k = zs.length) : sumAll n (zs.drop k) = (n, 0) := by
  rw [h, List.drop_length, sumAll]
theorem lcm_go {zs : List Int} {k : Nat} {n : Int} (h : k < zs.length) (hs : lcm2 n (zs.getD k 0) ≤ 1099511627776) : lcmAll n (zs.drop k) = lcmAll (lcm2 n (zs.getD k 0)) (zs.drop (k + 1)) := by
  rw [drop_step zs k h, lcmAll, if_pos hs]
theorem lcm_halt {zs : List Int} {k : Nat} {n : Int} (h : k < zs.length) (hs : 1099511627776 < lcm2 n (zs.getD k 0)) : lcmAll n (zs.drop k) = (0, 10) := by
  rw [drop_step zs k h, lcmAll, if_neg (by omega)]
theorem lcm_end {zs : List Int} {k : Nat} {n : Int} (h : k = zs.length) : lcmAll n (zs.drop k) = (n, 0) := by
  rw [h, List.drop_length, lcmAll]
theorem all_at {p : Int → Bool} {zs : List Int} {k : Nat} (h : zs.all p = true) (hk : k < zs.length) : p (zs.getD k 0) = true := by
  rw [List.all_eq_true] at h
  simp only [List.getD, List.getElem?_eq_getElem hk, Option.getD_some]
  exact h _ (List.getElem_mem hk)
theorem ok1_iff (x : Int) : ok1 x = true ↔ 1 ≤ x ∧ x ≤ 1099511627776 := by
  simp [ok1, tk]; omega
/-- the divisor, the quotient and the product of a step -/
theorem gcd_bd {n x : Int} (hn : 1 ≤ n) (hn' : n ≤ 1099511627776) (hx : 1 ≤ x) (hx' : x ≤ 1099511627776) :
    1 ≤ ((Nat.gcd n.toNat x.toNat : Nat) : Int) ∧ ((Nat.gcd n.toNat x.toNat : Nat) : Int) ≤ 1099511627776 := by
  have h1 : 0 < Nat.gcd n.toNat x.toNat := Nat.gcd_pos_of_pos_left _ (by omega)
  have h2 : Nat.gcd n.toNat x.toNat ≤ n.toNat := Nat.gcd_le_left _ (by omega)
  omega
theorem quo_bd {n x : Int} (hn : 1 ≤ n) (hn' : n ≤ 1099511627776) (hx : 1 ≤ x) (hx' : x ≤ 1099511627776) :
    1 ≤ x / ((Nat.gcd n.toNat x.toNat : Nat) : Int) ∧ x / ((Nat.gcd n.toNat x.toNat : Nat) : Int) ≤ 1099511627776 := by
  have ⟨h1, h2⟩ := gcd_bd hn hn' hx hx'
  have h3 : Nat.gcd n.toNat x.toNat ≤ x.toNat := Nat.gcd_le_right _ (by omega)
  have h4 : ((Nat.gcd n.toNat x.toNat : Nat) : Int) ≤ x := by omega
  generalize ((Nat.gcd n.toNat x.toNat : Nat) : Int) = g at *
  constructor
  · rw [Int.le_ediv_iff_mul_le (by omega)]; omega
  · exact Int.le_trans (Int.ediv_le_self _ (by omega)) hx'
theorem lcm2_pos {n x : Int} (hn : 1 ≤ n) (hn' : n ≤ 1099511627776) (hx : 1 ≤ x) (hx' : x ≤ 1099511627776) : 1 ≤ lcm2 n x := by
  have ⟨h1, _⟩ := quo_bd hn hn' hx hx'
  unfold lcm2
  generalize x / ((Nat.gcd n.toNat x.toNat : Nat) : Int) = q at *
  have : 0 < n * q := Int.mul_pos (by omega) (by omega)
  omega

theorem sumAll_or (l : List Int) : ∀ n, (∃ m, sumAll n l = (m, 0)) ∨ sumAll n l = (0, 10) := by
  induction l with
  | nil => intro n; exact Or.inl ⟨n, rfl⟩
  | cons x r ih =>
    intro n; rw [sumAll]; split
    · exact ih _
    · exact Or.inr rfl
theorem lcmAll_or (l : List Int) : ∀ n, (∃ m, lcmAll n l = (m, 0)) ∨ lcmAll n l = (0, 10) := by
  induction l with
  | nil => intro n; exact Or.inl ⟨n, rfl⟩
  | cons x r ih =>
    intro n; rw [lcmAll]; split
    · exact ih _
    · exact Or.inr rfl
theorem sumR_no {l : List Int} (h : l.all tk = false) : sumR l = (0, 2) := by simp [sumR, h]
theorem sumR_yes {l : List Int} (h : l.all tk = true) : sumR l = sumAll 0 l := by simp [sumR, h]
theorem lcmR_no1 {limit : Int} {l : List Int} (h : tk limit = false) : lcmR limit l = (0, 2) := by simp [lcmR, h]
theorem lcmR_no2 {limit : Int} {l : List Int} (h : l.all ok1 = false) : lcmR limit l = (0, 2) := by simp [lcmR, h]
theorem lcmR_yes {limit : Int} {l : List Int} (h : tk limit = true) (h2 : l.all ok1 = true) : lcmR limit l = cutTo limit (lcmAll 1 l) := by simp [lcmR, h, h2]
theorem all_ok1 (l : List Int) : l.all ok1 = (l.all tk && !l.contains 0) := by
  induction l with
  | nil => rfl
  | cons x r ih =>
    rw [List.all_cons, ih, List.all_cons, List.contains_cons]
    have e : ok1 x = (tk x && !((0 : Int) == x)) := by
      unfold ok1
      by_cases h : x = 0
      · subst h; rfl
      · have h' : ((0 : Int) == x) = false := by simp; omega
        rw [h']; simp [h]
    rw [e]
    cases tk x <;> cases ((0 : Int) == x) <;> simp
theorem take_has_step {zs : List Int} {k : Nat} {v : Int} (h : k < zs.length) (ht : (zs.take k).contains v = false) (hv : (v == zs.getD k 0) = false) : (zs.take (k + 1)).contains v = false := by
  rw [List.take_add_one]
  simp only [List.getD, List.getElem?_eq_getElem h, Option.getD_some] at hv
  have e : zs[k]?.toList = [zs[k]] := by rw [List.getElem?_eq_getElem h]; rfl
  rw [e]
  rw [Bool.eq_false_iff] at ht hv ⊢
  intro hc
  simp only [List.contains_iff_mem, List.mem_append, List.mem_singleton] at hc
  rcases hc with hc | hc
  · exact ht (List.contains_iff_mem.2 hc)
  · exact hv (beq_iff_eq.2 hc)
theorem has_at {zs : List Int} {k : Nat} {v : Int} (h : k < zs.length) (hv : (v == zs.getD k 0) = true) : zs.contains v = true := by
  simp only [List.getD, List.getElem?_eq_getElem h, Option.getD_some, beq_iff_eq] at hv
  rw [List.contains_iff_mem, hv]; exact List.getElem_mem h

end Go.Proofs.Ytbdiekolkniajaa.Tk

namespace Go.Proofs.Ytbdiekolkniajaa.De
open Tk
set_option linter.unusedVariables false

/-- may a task be asked? -/
def tOK (t : Nat → Int) : Bool := decide (1 ≤ t 0) && decide (t 0 ≤ 64) && decide (1 ≤ t 1) && decide (t 1 ≤ t 0) && decide (1 ≤ t 2) && decide (t 2 ≤ t 1)
theorem tOK_iff {t : Nat → Int} : tOK t = true ↔ 1 ≤ t 0 ∧ t 0 ≤ 64 ∧ 1 ≤ t 1 ∧ t 1 ≤ t 0 ∧ 1 ≤ t 2 ∧ t 2 ≤ t 1 := by
  simp [tOK, and_assoc]
def allT (z : Nat → Nat → Int) : Nat → Bool
  | 0 => true
  | k + 1 => allT z k && tOK (z k)
theorem allT_at {z : Nat → Nat → Int} : ∀ {n : Nat}, allT z n = true → ∀ {i : Nat}, i < n → tOK (z i) = true
  | 0, _, _, h => by cases h
  | n + 1, h, i, hi => by
    unfold allT at h
    rw [Bool.and_eq_true] at h
    by_cases hc : i = n
    · subst hc; exact h.2
    · exact allT_at h.1 (by omega)
theorem allT_all {z : Nat → Nat → Int} : ∀ {n : Nat}, (∀ i, i < n → tOK (z i) = true) → allT z n = true
  | 0, _ => rfl
  | n + 1, h => by unfold allT; rw [allT_all (fun i hi => h i (by omega)), h n (by omega)]; rfl
theorem allT_no {z : Nat → Nat → Int} {n i : Nat} (hi : i < n) (h : tOK (z i) = false) : allT z n = false := by
  cases e : allT z n with
  | false => rfl
  | true => rw [allT_at e hi] at h; cases h
def tasksOK (n : Nat) (z : Nat → Nat → Int) : Bool := decide (n ≤ 4) && allT z n
def inMore (x : Int) : Bool := decide (0 ≤ x) && decide (x ≤ 4096)
def moreOK (xs : List Int) : Bool := xs.all inMore
theorem more_no {xs : List Int} {k : Nat} (hk : k < xs.length) (h : inMore (xs.getD k 0) = false) : moreOK xs = false := by
  cases e : moreOK xs with
  | false => rfl
  | true => rw [moreOK] at e; rw [all_at e hk] at h; cases h
theorem more_all {xs : List Int} (h : ∀ k, k < xs.length → inMore (xs.getD k 0) = true) : moreOK xs = true := by
  rw [moreOK, List.all_eq_true]
  intro x hx
  obtain ⟨k, hk, rfl⟩ := List.getElem_of_mem hx
  have := h k hk
  simpa [List.getD, List.getElem?_eq_getElem hk] using this
def chk (n : Nat) (z : Nat → Nat → Int) (xs : List Int) : Bool := tasksOK n z && decide (xs.length = n) && moreOK xs
def chkE (n : Nat) (z : Nat → Nat → Int) (xs : List Int) : Int := if chk n z xs then 0 else 2
/-- the numbers of a task -/
def per (z : Nat → Nat → Int) (i : Nat) : Nat := (z i 0).toNat
def dea (z : Nat → Nat → Int) (i : Nat) : Nat := (z i 1).toNat
def asks (z : Nat → Nat → Int) (xs : List Int) (i : Nat) : Nat := (z i 2 + xs.getD i 0).toNat
/-- tasks that may be asked, told by naturals -/
structure Good (n : Nat) (z : Nat → Nat → Int) : Prop where
  n4 : n ≤ 4
  at' : ∀ i, i < n → z i 0 = (per z i : Int) ∧ z i 1 = (dea z i : Int) ∧ 0 < per z i ∧ per z i ≤ 64 ∧ 0 < dea z i ∧ dea z i ≤ per z i ∧ 1 ≤ z i 2 ∧ z i 2 ≤ dea z i
theorem good_of {n : Nat} {z : Nat → Nat → Int} (h : tasksOK n z = true) : Good n z := by
  unfold tasksOK at h
  rw [Bool.and_eq_true] at h
  refine ⟨of_decide_eq_true h.1, fun i hi => ?_⟩
  have := tOK_iff.1 (allT_at h.2 hi)
  unfold per dea
  omega
theorem Good.task {n : Nat} {z : Nat → Nat → Int} (h : Good n z) {i : Nat} (hi : i < n) : tOK (z i) = true := by
  have := h.at' i hi
  rw [tOK_iff]
  omega
theorem Good.ok {n : Nat} {z : Nat → Nat → Int} (h : Good n z) : tasksOK n z = true := by
  unfold tasksOK
  rw [allT_all (fun i hi => h.task hi), decide_eq_true h.n4]
  rfl
structure Goods (n : Nat) (z : Nat → Nat → Int) (xs : List Int) : Prop where
  t : Good n z
  l : xs.length = n
  m : ∀ i, i < n → 0 ≤ xs.getD i 0 ∧ xs.getD i 0 ≤ 4096 ∧ z i 2 + xs.getD i 0 = (asks z xs i : Int) ∧ asks z xs i ≤ 4160
theorem goods_of {n : Nat} {z : Nat → Nat → Int} {xs : List Int} (h : chk n z xs = true) : Goods n z xs := by
  unfold chk at h
  rw [Bool.and_eq_true, Bool.and_eq_true] at h
  have hg := good_of h.1.1
  have hl : xs.length = n := of_decide_eq_true h.1.2
  refine ⟨hg, hl, fun i hi => ?_⟩
  have h1 := all_at h.2 (show i < xs.length by omega)
  have h2 := hg.at' i hi
  simp only [inMore, Bool.and_eq_true, decide_eq_true_eq] at h1
  unfold asks
  omega
theorem Goods.ok {n : Nat} {z : Nat → Nat → Int} {xs : List Int} (h : Goods n z xs) : chk n z xs = true := by
  unfold chk
  rw [h.t.ok, decide_eq_true h.l, more_all (fun k hk => by
    have := h.m k (by have := h.l; omega)
    simp only [inMore, Bool.and_eq_true, decide_eq_true_eq]; omega)]
  rfl

/-- the demand of t ticks -/
def dem (P D J : Nat → Nat) (t : Nat) : Nat → Nat
  | 0 => 0
  | k + 1 => dem P D J t k + jobs (P k) (D k) t * J k
theorem jobs_le {P D t : Nat} (hP : 0 < P) (hD : 0 < D) : jobs P D t ≤ t := by
  unfold jobs
  by_cases h : t < D
  · rw [if_pos h]; omega
  · rw [if_neg h]
    have := Nat.div_le_self (t - D) P
    omega
theorem prod_le {P D J t : Nat} (hP : 0 < P) (hD : 0 < D) (hJ : J ≤ 4160) (ht : t ≤ 1048576) : jobs P D t * J ≤ 4362076160 := by
  have h1 := jobs_le (t := t) hP hD
  have : jobs P D t * J ≤ 1048576 * 4160 := Nat.mul_le_mul (by omega) hJ
  omega
theorem Goods.dem_le {n : Nat} {z : Nat → Nat → Int} {xs : List Int} (h : Goods n z xs) {t : Nat} (ht : t ≤ 1048576) : ∀ {k : Nat}, k ≤ n → dem (per z) (dea z) (asks z xs) t k ≤ k * 4362076160
  | 0, _ => Nat.zero_le _
  | k + 1, hk => by
    have := h.dem_le ht (k := k) (by omega)
    have h1 := h.t.at' k (by omega)
    have := prod_le (t := t) h1.2.2.1 h1.2.2.2.2.1 (h.m k (by omega)).2.2.2 ht
    unfold dem
    omega
/-- the use in T ticks -/
def use (P J : Nat → Nat) (T : Nat) : Nat → Nat
  | 0 => 0
  | k + 1 => use P J T k + T / P k * J k
theorem Goods.use_le {n : Nat} {z : Nat → Nat → Int} {xs : List Int} (h : Goods n z xs) {T : Nat} (ht : T ≤ 1048576) : ∀ {k : Nat}, k ≤ n → use (per z) (asks z xs) T k ≤ k * 4362076160
  | 0, _ => Nat.zero_le _
  | k + 1, hk => by
    have := h.use_le ht (k := k) (by omega)
    have h1 := Nat.div_le_self T (per z k)
    have : T / per z k * asks z xs k ≤ 1048576 * 4160 := Nat.mul_le_mul (by omega) (h.m k (by omega)).2.2.2
    unfold use
    omega
/-- all of them divide T -/
def dvs (P : Nat → Nat) (T : Nat) : Nat → Bool
  | 0 => true
  | k + 1 => dvs P T k && decide (T % P k = 0)
theorem dvs_iff {P : Nat → Nat} {T : Nat} : ∀ {n : Nat}, dvs P T n = true ↔ ∀ i, i < n → T % P i = 0
  | 0 => by simp [dvs]
  | n + 1 => by
    unfold dvs
    rw [Bool.and_eq_true, dvs_iff, decide_eq_true_eq]
    exact ⟨fun h i hi => by
      by_cases e : i = n
      · subst e; exact h.2
      · exact h.1 i (by omega), fun h => ⟨fun i hi => h i (by omega), h n (by omega)⟩⟩
/-- from a to b -/
def inn (a b x : Int) : Bool := decide (a ≤ x) && decide (x ≤ b)
theorem inn_iff {a b x : Int} : inn a b x = true ↔ a ≤ x ∧ x ≤ b := by simp [inn]
theorem inn_nat {a b x : Int} (h : inn a b x = true) (ha : 0 ≤ a) : ∃ t : Nat, x = t := ⟨x.toNat, by have := inn_iff.1 h; omega⟩
def ofR (n : Nat) (z : Nat → Nat → Int) (xs : List Int) (t : Int) : Int × Int :=
  if chk n z xs && inn 0 1048576 t then ((dem (per z) (dea z) (asks z xs) t.toNat n : Nat), 0) else (0, 2)
theorem ofR_no1 {n : Nat} {z : Nat → Nat → Int} {xs : List Int} {t : Int} (h : chk n z xs = false) : ofR n z xs t = (0, 2) := by simp [ofR, h]
theorem ofR_no2 {n : Nat} {z : Nat → Nat → Int} {xs : List Int} {t : Int} (h : inn 0 1048576 t = false) : ofR n z xs t = (0, 2) := by simp [ofR, h]
theorem ofR_ok {n : Nat} {z : Nat → Nat → Int} {xs : List Int} {t : Nat} (h : chk n z xs = true) (ht : t ≤ 1048576) : ofR n z xs t = (((dem (per z) (dea z) (asks z xs) t n : Nat) : Int), 0) := by
  unfold ofR
  rw [h, inn_iff.2 (⟨by omega, by omega⟩ : (0 : Int) ≤ (t : Int) ∧ (t : Int) ≤ 1048576)]
  rfl
def useR (n : Nat) (z : Nat → Nat → Int) (xs : List Int) (t : Int) : Int × Int :=
  if chk n z xs && inn 1 1048576 t && dvs (per z) t.toNat n then ((use (per z) (asks z xs) t.toNat n : Nat), 0) else (0, 2)
theorem useR_no1 {n : Nat} {z : Nat → Nat → Int} {xs : List Int} {t : Int} (h : chk n z xs = false) : useR n z xs t = (0, 2) := by simp [useR, h]
theorem useR_no2 {n : Nat} {z : Nat → Nat → Int} {xs : List Int} {t : Int} (h : inn 1 1048576 t = false) : useR n z xs t = (0, 2) := by simp [useR, h]
theorem useR_no3 {n : Nat} {z : Nat → Nat → Int} {xs : List Int} {t : Nat} (h : dvs (per z) t n = false) : useR n z xs t = (0, 2) := by simp [useR, h]
theorem useR_ok {n : Nat} {z : Nat → Nat → Int} {xs : List Int} {t : Nat} (h : chk n z xs = true) (h0 : 0 < t) (ht : t ≤ 1048576) (hd : dvs (per z) t n = true) : useR n z xs t = (((use (per z) (asks z xs) t n : Nat) : Int), 0) := by
  unfold useR
  rw [h, inn_iff.2 (⟨by omega, by omega⟩ : (1 : Int) ≤ (t : Int) ∧ (t : Int) ≤ 1048576), show ((t : Int)).toNat = t from rfl, hd]
  rfl

/-- the least common multiple of a list -/
def lcmN : Nat → List Nat → Nat
  | m, [] => m
  | m, x :: r => lcmN (Nat.lcm m x) r
theorem lcmN_dvd : ∀ {l : List Nat} {m T : Nat}, lcmN m l ∣ T ↔ m ∣ T ∧ ∀ x ∈ l, x ∣ T
  | [], m, T => by simp [lcmN]
  | x :: r, m, T => by
    rw [lcmN, lcmN_dvd, Nat.lcm_dvd_iff]
    simp [and_assoc]
theorem lcm2_nat {n x : Nat} (hn : 0 < n) (hx : 0 < x) : lcm2 (n : Int) (x : Int) = (Nat.lcm n x : Nat) := by
  unfold lcm2
  rw [Int.toNat_natCast, Int.toNat_natCast, Nat.lcm]
  have hg : 0 < Nat.gcd n x := Nat.gcd_pos_of_pos_left _ hn
  rw [Nat.mul_div_assoc _ (Nat.gcd_dvd_right n x)]
  push_cast
  rfl
theorem lcm_le_mul {n x : Nat} : Nat.lcm n x ≤ n * x := Nat.div_le_self _ _
theorem lcmAll_nat : ∀ {l : List Nat} {m : Nat}, 0 < m → (∀ x ∈ l, 0 < x ∧ x ≤ 64) → m * 64 ^ l.length ≤ 1099511627776 → lcmAll (m : Int) (l.map (fun x : Nat => (x : Int))) = (((lcmN m l : Nat) : Int), 0)
  | [], m, _, _, _ => rfl
  | x :: r, m, hm, hx, hb => by
    have h1 := hx x (by simp)
    have hpos : 0 < Nat.lcm m x := Nat.lcm_pos hm h1.1
    have hle : Nat.lcm m x ≤ m * 64 := Nat.le_trans lcm_le_mul (Nat.mul_le_mul_left _ h1.2)
    have hb2 : Nat.lcm m x * 64 ^ r.length ≤ 1099511627776 := by
      refine Nat.le_trans (Nat.mul_le_mul_right _ hle) ?_
      rw [List.length_cons, Nat.pow_succ] at hb
      rw [Nat.mul_assoc, Nat.mul_comm 64]
      exact hb
    have hc : Nat.lcm m x ≤ 1099511627776 := Nat.le_trans (Nat.le_mul_of_pos_right _ (Nat.pow_pos (by decide))) hb2
    rw [List.map_cons, lcmAll, lcm2_nat hm h1.1, if_pos (by omega), lcmAll_nat hpos (fun y hy => hx y (by simp [hy])) hb2]
    rfl
/-- the periods of tasks, and one more -/
def pers (z : Nat → Nat → Int) (n : Nat) : List Nat := (List.range n).map (per z)
def hypL (n : Nat) (z : Nat → Nat → Int) (p : Nat) : Nat := lcmN 1 (pers z n ++ [p])
theorem hypL_dvd {n : Nat} {z : Nat → Nat → Int} {p T : Nat} : hypL n z p ∣ T ↔ p ∣ T ∧ ∀ i, i < n → per z i ∣ T := by
  unfold hypL
  rw [lcmN_dvd]
  constructor
  · intro ⟨_, h⟩
    exact ⟨h p (by simp), fun i hi => h _ (by simp [pers]; exact Or.inl ⟨i, hi, rfl⟩)⟩
  · intro ⟨h1, h2⟩
    refine ⟨Nat.one_dvd _, fun x hx => ?_⟩
    rw [List.mem_append, List.mem_singleton] at hx
    rcases hx with hx | rfl
    · obtain ⟨i, hi, rfl⟩ := List.mem_map.1 hx
      exact h2 i (by simpa using hi)
    · exact h1
theorem lcmN_pos : ∀ {l : List Nat} {m : Nat}, 0 < m → (∀ x ∈ l, 0 < x) → 0 < lcmN m l
  | [], _, h, _ => h
  | x :: r, m, h, hx => lcmN_pos (l := r) (Nat.lcm_pos h (hx x (by simp))) (fun y hy => hx y (by simp [hy]))
theorem Good.pers_bd {n : Nat} {z : Nat → Nat → Int} (h : Good n z) {p : Nat} (hp : 0 < p) (hp2 : p ≤ 64) : ∀ x ∈ pers z n ++ [p], 0 < x ∧ x ≤ 64 := by
  intro x hx
  rw [List.mem_append, List.mem_singleton] at hx
  rcases hx with hx | rfl
  · obtain ⟨i, hi, rfl⟩ := List.mem_map.1 hx
    have := h.at' i (by simpa using hi)
    exact ⟨this.2.2.1, this.2.2.2.1⟩
  · exact ⟨hp, hp2⟩
theorem Good.hyp_pos {n : Nat} {z : Nat → Nat → Int} (h : Good n z) {p : Nat} (hp : 0 < p) (hp2 : p ≤ 64) : 0 < hypL n z p :=
  lcmN_pos (by decide) (fun x hx => (h.pers_bd hp hp2 x hx).1)
def hyR (n : Nat) (z : Nat → Nat → Int) (p : Int) : Int × Int :=
  if tasksOK n z && inn 1 64 p then if hypL n z p.toNat ≤ 4096 then ((hypL n z p.toNat : Nat), 0) else (0, 5) else (0, 2)
theorem hyR_no1 {n : Nat} {z : Nat → Nat → Int} {p : Int} (h : tasksOK n z = false) : hyR n z p = (0, 2) := by simp [hyR, h]
theorem hyR_no2 {n : Nat} {z : Nat → Nat → Int} {p : Int} (h : inn 1 64 p = false) : hyR n z p = (0, 2) := by simp [hyR, h]
theorem hyR_yes {n : Nat} {z : Nat → Nat → Int} {p : Nat} (h : tasksOK n z = true) (hp : inn 1 64 (p : Int) = true) : hyR n z p = if hypL n z p ≤ 4096 then (((hypL n z p : Nat) : Int), 0) else (0, 5) := by
  unfold hyR
  rw [h, hp]
  rfl
/-- what Lcm answers of the periods -/
theorem Good.lcm_of {n : Nat} {z : Nat → Nat → Int} (h : Good n z) {p : Nat} (hp : 0 < p) (hp2 : p ≤ 64) :
    lcmR 4096 ((pers z n ++ [p]).map (fun x : Nat => (x : Int))) = if hypL n z p ≤ 4096 then (((hypL n z p : Nat) : Int), 0) else (0, 10) := by
  have hbd := h.pers_bd hp hp2
  have hall : ((pers z n ++ [p]).map (fun x : Nat => (x : Int))).all ok1 = true := by
    rw [List.all_eq_true]
    intro x hx
    obtain ⟨y, hy, rfl⟩ := List.mem_map.1 hx
    have := hbd y hy
    rw [ok1_iff]
    omega
  have hlen : (pers z n ++ [p]).length ≤ 5 := by
    have := h.n4
    simp [pers]
    omega
  have hpow : 1 * 64 ^ (pers z n ++ [p]).length ≤ 1099511627776 := by
    rw [Nat.one_mul]
    exact Nat.le_trans (Nat.pow_le_pow_right (by decide) hlen) (by decide)
  have key := lcmAll_nat (l := pers z n ++ [p]) (m := 1) (by decide) hbd hpow
  rw [lcmR_yes (tk_yes (by omega) (by omega)) hall]
  have k2 : lcmAll 1 ((pers z n ++ [p]).map (fun x : Nat => (x : Int))) = (((hypL n z p : Nat) : Int), 0) := key
  rw [k2]
  unfold cutTo
  by_cases hc : hypL n z p ≤ 4096
  · rw [if_pos rfl, if_pos (by show ((hypL n z p : Nat) : Int) ≤ 4096; omega), if_pos hc]
  · rw [if_pos rfl, if_neg (by show ¬ ((hypL n z p : Nat) : Int) ≤ 4096; omega), if_neg hc]
end Go.Proofs.Ytbdiekolkniajaa.De

namespace Go.Proofs.Ytbdiekolkniajaa.Dl
open De
set_option linter.unusedVariables false

/-- a partition: its period, its budget, how many tasks, their numbers -/
structure Pn where
  per : Int
  bud : Int
  n : Nat
  z : Nat → Nat → Int
def p0 : Pn := ⟨0, 0, 0, fun _ _ => 0⟩
/-- may a task of a partition with this budget be asked, beside what chapter 8 says -/
def okT (bud : Int) (t : Nat → Int) : Bool :=
  decide (0 ≤ t 4) && decide (t 4 ≤ t 2) && decide (0 ≤ t 5) && decide (t 5 ≤ 4) &&
    (if t 5 = 0 then decide (t 6 = 0) && decide (t 7 = 0) else decide (1 ≤ t 6) && decide (t 6 ≤ bud) && decide (1 ≤ t 7) && decide (t 7 ≤ t 2) && decide (t 6 * t 7 ≤ t 2))
def okTs (bud : Int) (z : Nat → Nat → Int) : Nat → Bool
  | 0 => true
  | k + 1 => okTs bud z k && okT bud (z k)
theorem okTs_at {bud : Int} {z : Nat → Nat → Int} : ∀ {n : Nat}, okTs bud z n = true → ∀ {i : Nat}, i < n → okT bud (z i) = true
  | 0, _, _, h => by cases h
  | n + 1, h, i, hi => by
    unfold okTs at h
    rw [Bool.and_eq_true] at h
    by_cases hc : i = n
    · subst hc; exact h.2
    · exact okTs_at h.1 (by omega)
theorem okTs_all {bud : Int} {z : Nat → Nat → Int} : ∀ {n : Nat}, (∀ i, i < n → okT bud (z i) = true) → okTs bud z n = true
  | 0, _ => rfl
  | n + 1, h => by unfold okTs; rw [okTs_all (fun i hi => h i (by omega)), h n (by omega)]; rfl
theorem okTs_no {bud : Int} {z : Nat → Nat → Int} {n i : Nat} (hi : i < n) (h : okT bud (z i) = false) : okTs bud z n = false := by
  cases e : okTs bud z n with
  | false => rfl
  | true => rw [okTs_at e hi] at h; cases h
def okP (p : Pn) : Bool := decide (1 ≤ p.per) && decide (p.per ≤ 64) && decide (1 ≤ p.bud) && decide (p.bud ≤ p.per) && tasksOK p.n p.z && okTs p.bud p.z p.n
def chkP (l : List Pn) : Bool := decide (l.length ≤ 4) && l.all okP
def chkPE (l : List Pn) : Int := if chkP l then 0 else 2
theorem okP_no {l : List Pn} {i : Nat} (hi : i < l.length) (h : okP (l.getD i p0) = false) : chkP l = false := by
  cases e : chkP l with
  | false => rfl
  | true =>
    rw [chkP, Bool.and_eq_true, List.all_eq_true] at e
    have e2 : l.getD i p0 = l[i] := by simp [List.getD, List.getElem?_eq_getElem hi]
    rw [e2, e.2 _ (List.getElem_mem hi)] at h
    cases h
theorem okP_len {l : List Pn} (h : 4 < l.length) : chkP l = false := by
  rw [chkP, decide_eq_false (by omega)]; rfl
theorem okP_all {l : List Pn} (h : ∀ i, i < l.length → okP (l.getD i p0) = true) (hl : l.length ≤ 4) : chkP l = true := by
  rw [chkP, decide_eq_true hl, Bool.true_and, List.all_eq_true]
  intro x hx
  obtain ⟨i, hi, rfl⟩ := List.getElem_of_mem hx
  have := h i hi
  rwa [show l.getD i p0 = l[i] by simp [List.getD, List.getElem?_eq_getElem hi]] at this
/-- what is known of a task of partitions that may be asked -/
structure TB (bud : Int) (t : Nat → Int) : Prop where
  ok : tOK t = true
  l0 : 0 ≤ t 4
  l1 : t 4 ≤ t 2
  g0 : 0 ≤ t 5
  g4 : t 5 ≤ 4
  n0 : 0 < t 5 → 1 ≤ t 6 ∧ t 6 ≤ bud ∧ 1 ≤ t 7 ∧ t 7 ≤ t 2 ∧ t 6 * t 7 ≤ t 2
  n1 : t 5 = 0 → t 6 = 0 ∧ t 7 = 0
structure PB (p : Pn) : Prop where
  p1 : 1 ≤ p.per
  p2 : p.per ≤ 64
  b1 : 1 ≤ p.bud
  b2 : p.bud ≤ p.per
  n4 : p.n ≤ 4
  t : ∀ i, i < p.n → TB p.bud (p.z i)
theorem okT_iff {bud : Int} {t : Nat → Int} : okT bud t = true ↔ 0 ≤ t 4 ∧ t 4 ≤ t 2 ∧ 0 ≤ t 5 ∧ t 5 ≤ 4 ∧ (if t 5 = 0 then t 6 = 0 ∧ t 7 = 0 else 1 ≤ t 6 ∧ t 6 ≤ bud ∧ 1 ≤ t 7 ∧ t 7 ≤ t 2 ∧ t 6 * t 7 ≤ t 2) := by
  unfold okT
  split <;> simp [and_assoc]
theorem okP_iff {p : Pn} : okP p = true ↔ PB p := by
  unfold okP
  simp only [Bool.and_eq_true, decide_eq_true_eq]
  constructor
  · rintro ⟨⟨⟨⟨⟨h1, h2⟩, h3⟩, h4⟩, h5⟩, h6⟩
    have hg := good_of h5
    refine ⟨h1, h2, h3, h4, ?_, fun i hi => ?_⟩
    · unfold tasksOK at h5
      rw [Bool.and_eq_true] at h5
      exact of_decide_eq_true h5.1
    · have ht := hg.task hi
      obtain ⟨a1, a2, a3, a4, a5⟩ := okT_iff.1 (okTs_at h6 hi)
      refine ⟨ht, a1, a2, a3, a4, fun hp => ?_, fun hz => ?_⟩
      · rw [if_neg (by omega)] at a5; exact a5
      · rw [if_pos hz] at a5; exact a5
  · intro h
    refine ⟨⟨⟨⟨⟨h.p1, h.p2⟩, h.b1⟩, h.b2⟩, ?_⟩, okTs_all fun i hi => okT_iff.2 ?_⟩
    · unfold tasksOK
      rw [decide_eq_true h.n4, Bool.true_and]
      exact allT_all fun i hi => (h.t i hi).ok
    · have ht := h.t i hi
      refine ⟨ht.l0, ht.l1, ht.g0, ht.g4, ?_⟩
      by_cases hz : p.z i 5 = 0
      · rw [if_pos hz]; exact ht.n1 hz
      · rw [if_neg hz]; exact ht.n0 (by have := ht.g0; omega)
theorem chkP_at {l : List Pn} (h : chkP l = true) {i : Nat} (hi : i < l.length) : PB (l.getD i p0) := by
  rw [chkP, Bool.and_eq_true, List.all_eq_true] at h
  rw [show l.getD i p0 = l[i] by simp [List.getD, List.getElem?_eq_getElem hi]]
  exact okP_iff.1 (h.2 _ (List.getElem_mem hi))
theorem chkP_len {l : List Pn} (h : chkP l = true) : l.length ≤ 4 := by
  rw [chkP, Bool.and_eq_true] at h
  exact of_decide_eq_true h.1
/-- has a partition a task with a global resource? -/
def usesN (z : Nat → Nat → Int) (g : Int) : Nat → Bool
  | 0 => false
  | k + 1 => usesN z g k || decide (z k 5 = g)
def uses (p : Pn) (g : Int) : Bool := usesN p.z g p.n
theorem usesN_iff {z : Nat → Nat → Int} {g : Int} : ∀ {n : Nat}, usesN z g n = true ↔ ∃ i, i < n ∧ z i 5 = g
  | 0 => by simp [usesN]
  | n + 1 => by
    rw [usesN, Bool.or_eq_true, usesN_iff, decide_eq_true_eq]
    constructor
    · rintro (⟨i, hi, h⟩ | h)
      · exact ⟨i, by omega, h⟩
      · exact ⟨n, by omega, h⟩
    · rintro ⟨i, hi, h⟩
      by_cases hc : i = n
      · subst hc; exact Or.inr h
      · exact Or.inl ⟨i, by omega, h⟩
/-- what one partition adds to a wait, what the first ones do -/
def add1 (l : List Pn) (q : Nat) (g : Int) (i : Nat) : Int := if 0 < g ∧ i ≠ q ∧ uses (l.getD i p0) g = true then 2 * (l.getD i p0).per else 0
def wt (l : List Pn) (q : Nat) (g : Int) : Nat → Int
  | 0 => 0
  | i + 1 => wt l q g i + add1 l q g i
def wait (l : List Pn) (q : Nat) (t : Nat → Int) : Int := wt l q (t 5) l.length
/-- what is more of a task; the delay by one -/
def mor (l : List Pn) (q : Nat) (t : Nat → Int) : Int := if 0 < t 5 then t 7 * (wait l q t + t 6 - 1) else 0
def mors (l : List Pn) (q : Nat) : List Int := (List.range (l.getD q p0).n).map fun i => mor l q ((l.getD q p0).z i)
def del1 (l : List Pn) (q : Nat) (t : Nat → Int) : Int := if 0 < t 5 then max (t 4) (wait l q t + 2 * t 6 - 1) else t 4
def del (l : List Pn) (q : Nat) (T : Int) : Nat → Int
  | 0 => 0
  | i + 1 => if (l.getD q p0).z i 1 ≤ T then del l q T i else max (del l q T i) (del1 l q ((l.getD q p0).z i))
/-- what the calls answer -/
def waR (l : List Pn) (q k : Int) : Int × Int :=
  if chkP l then (if 0 ≤ q ∧ q < l.length ∧ 0 ≤ k ∧ k < (l.getD q.toNat p0).n then (wait l q.toNat ((l.getD q.toNat p0).z k.toNat), 0) else (0, 9)) else (0, 2)
def moR (l : List Pn) (q : Int) : List Int × Int :=
  if chkP l then (if 0 ≤ q ∧ q < l.length then (mors l q.toNat, 0) else ([], 9)) else ([], 2)
def deR (l : List Pn) (q T : Int) : Int × Int :=
  if chkP l then (if 0 ≤ q ∧ q < l.length then (if T < 0 then (0, 2) else (del l q.toNat T (l.getD q.toNat p0).n, 0)) else (0, 9)) else (0, 2)
/-- bounds -/
theorem add1_bd {l : List Pn} (h : chkP l = true) (q : Nat) (g : Int) {i : Nat} (hi : i < l.length) : 0 ≤ add1 l q g i ∧ add1 l q g i ≤ 128 := by
  have hp := chkP_at h hi
  have h1 := hp.p1; have h2 := hp.p2
  unfold add1
  split <;> omega
theorem wt_bd {l : List Pn} (h : chkP l = true) (q : Nat) (g : Int) : ∀ {i : Nat}, i ≤ l.length → 0 ≤ wt l q g i ∧ wt l q g i ≤ 128 * i
  | 0, _ => ⟨Int.le_refl _, by show (0 : Int) ≤ _; omega⟩
  | i + 1, hi => by
    have h1 := wt_bd h q g (i := i) (by omega)
    have h2 := add1_bd h q g (i := i) (by omega)
    rw [wt]
    omega
theorem wait_bd {l : List Pn} (h : chkP l = true) (q : Nat) (t : Nat → Int) : 0 ≤ wait l q t ∧ wait l q t ≤ 512 := by
  have := wt_bd h q (t 5) (Nat.le_refl l.length)
  have := chkP_len h
  unfold wait
  omega
/-- one partition more -/
theorem getD_app {l : List Pn} {x : Pn} {i : Nat} (hi : i < l.length) : (l ++ [x]).getD i p0 = l.getD i p0 := by
  simp [List.getD, List.getElem?_append_left hi]
theorem getD_end {l : List Pn} {x : Pn} : (l ++ [x]).getD l.length p0 = x := by
  simp [List.getD]
theorem wt_app {l : List Pn} {x : Pn} (q : Nat) (g : Int) : ∀ {i : Nat}, i ≤ l.length → wt (l ++ [x]) q g i = wt l q g i
  | 0, _ => rfl
  | i + 1, hi => by
    rw [wt, wt, wt_app q g (by omega)]
    unfold add1
    rw [getD_app (by omega)]
theorem wait_app {l : List Pn} {x : Pn} {q : Nat} (hq : q < l.length) (t : Nat → Int) : wait (l ++ [x]) q t = wait l q t + (if 0 < t 5 ∧ uses x (t 5) = true then 2 * x.per else 0) := by
  unfold wait
  rw [List.length_append, List.length_singleton, wt, wt_app q _ (Nat.le_refl _)]
  unfold add1
  rw [getD_end]
  have : l.length ≠ q := by omega
  simp [this]
theorem wait_mono {l : List Pn} {x : Pn} (hx : PB x) {q : Nat} (hq : q < l.length) (t : Nat → Int) : wait l q t ≤ wait (l ++ [x]) q t ∧ wait (l ++ [x]) q t ≤ wait l q t + 2 * x.per := by
  have := hx.p1
  rw [wait_app hq]
  split <;> omega
theorem mor_mono {l : List Pn} {x : Pn} (hx : PB x) {q : Nat} (hq : q < l.length) {bud : Int} {t : Nat → Int} (ht : TB bud t) : mor l q t ≤ mor (l ++ [x]) q t := by
  unfold mor
  split
  · rename_i h
    have h1 := ht.n0 h
    exact Int.mul_le_mul_of_nonneg_left (by have := (wait_mono hx hq t).1; omega) (by omega)
  · exact Int.le_refl _
theorem del_mono {l : List Pn} {x : Pn} (hx : PB x) {q : Nat} (hq : q < l.length) (T : Int) : ∀ n, del l q T n ≤ del (l ++ [x]) q T n
  | 0 => Int.le_refl _
  | n + 1 => by
    have ih := del_mono hx hq T n
    have hw := (wait_mono hx hq ((l.getD q p0).z n)).1
    rw [del, del, getD_app hq]
    split
    · exact ih
    · unfold del1
      split <;> omega
/-- one that shares nothing -/
theorem wait_same {l : List Pn} {x : Pn} {q : Nat} (hq : q < l.length) {t : Nat → Int} (h : 0 < t 5 → uses x (t 5) = false) : wait (l ++ [x]) q t = wait l q t := by
  rw [wait_app hq, if_neg (fun hc => by rw [h hc.1] at hc; cases hc.2), Int.add_zero]
theorem mor_same {l : List Pn} {x : Pn} {q : Nat} (hq : q < l.length) {t : Nat → Int} (h : 0 < t 5 → uses x (t 5) = false) : mor (l ++ [x]) q t = mor l q t := by
  unfold mor
  rw [wait_same hq h]
theorem del_same {l : List Pn} {x : Pn} {q : Nat} (hq : q < l.length) (T : Int) : ∀ {n : Nat}, (∀ i, i < n → 0 < (l.getD q p0).z i 5 → uses x ((l.getD q p0).z i 5) = false) → del (l ++ [x]) q T n = del l q T n
  | 0, _ => rfl
  | n + 1, h => by
    rw [del, del, getD_app hq, del_same hq T (fun i hi => h i (by omega))]
    unfold del1
    rw [wait_same hq (h n (by omega))]
theorem mors_same {l : List Pn} {x : Pn} {q : Nat} (hq : q < l.length) (h : ∀ i, i < (l.getD q p0).n → 0 < (l.getD q p0).z i 5 → uses x ((l.getD q p0).z i 5) = false) : mors (l ++ [x]) q = mors l q := by
  unfold mors
  rw [getD_app hq]
  refine List.map_congr_left fun i hi => mor_same hq (h i (by simpa using hi))
/-- more ticks -/
theorem del_nn {l : List Pn} {q : Nat} (T : Int) : ∀ n, 0 ≤ del l q T n
  | 0 => Int.le_refl _
  | n + 1 => by
    have := del_nn (l := l) (q := q) T n
    rw [del]
    split <;> omega
theorem del_fall {l : List Pn} {q : Nat} {T U : Int} (h : T ≤ U) : ∀ n, del l q U n ≤ del l q T n
  | 0 => Int.le_refl _
  | n + 1 => by
    have ih := del_fall (l := l) (q := q) h n
    rw [del, del]
    split <;> split <;> omega
theorem del_zero {l : List Pn} {q : Nat} {T : Int} : ∀ {n : Nat}, (∀ i, i < n → (l.getD q p0).z i 1 ≤ T) → del l q T n = 0
  | 0, _ => rfl
  | n + 1, h => by rw [del, if_pos (h n (by omega)), del_zero (fun i hi => h i (by omega))]
theorem del_ge {l : List Pn} {q : Nat} {T : Int} : ∀ {n i : Nat}, i < n → T < (l.getD q p0).z i 1 → del1 l q ((l.getD q p0).z i) ≤ del l q T n
  | 0, _, h, _ => by cases h
  | n + 1, i, hi, hT => by
    rw [del]
    by_cases hc : i = n
    · subst hc
      rw [if_neg (by omega)]
      omega
    · have := del_ge (l := l) (q := q) (T := T) (n := n) (i := i) (by omega) hT
      split <;> omega
end Go.Proofs.Ytbdiekolkniajaa.Dl

namespace Go.Proofs.Ytbdiekolkniajaa.Su
set_option linter.unusedVariables false

/-- the supply of t ticks, of a period P and an idle rest I (P less the budget) -/
def sp (P I t : Nat) : Nat := (t - I) / P * (P - I) + ((t - I) % P - I)
/-- one tick more -/
theorem div_succ {P u : Nat} (h : 0 < P) : ((u + 1) / P = u / P ∧ (u + 1) % P = u % P + 1 ∧ u % P + 1 < P) ∨ ((u + 1) / P = u / P + 1 ∧ (u + 1) % P = 0 ∧ u % P + 1 = P) := by
  have hm := Nat.mod_lt u h
  have e := Nat.div_add_mod u P
  by_cases hc : u % P + 1 < P
  · left
    have e1 : u + 1 = P * (u / P) + (u % P + 1) := by omega
    refine ⟨?_, ?_, hc⟩
    · rw [e1, Nat.mul_add_div h, Nat.div_eq_of_lt hc]; rfl
    · rw [e1, Nat.mul_add_mod, Nat.mod_eq_of_lt hc]
  · right
    have hcc : u % P + 1 = P := by omega
    have e1 : u + 1 = P * (u / P + 1) := by rw [Nat.mul_add]; omega
    refine ⟨?_, ?_, hcc⟩
    · rw [e1, Nat.mul_div_cancel_left _ h]
    · rw [e1, Nat.mul_mod_right]
theorem sp_low {P I t : Nat} (hP : 0 < P) (h : t ≤ I) : sp P I t = 0 := by
  unfold sp
  rw [Nat.sub_eq_zero_of_le h, Nat.zero_div, Nat.zero_mod]
  omega
theorem sp_step {P I t : Nat} (hP : 0 < P) (hI : I < P) : sp P I (t + 1) = sp P I t + (if I ≤ t ∧ I ≤ (t - I) % P then 1 else 0) := by
  by_cases ht : I ≤ t
  · unfold sp
    rw [show t + 1 - I = (t - I) + 1 by omega]
    generalize t - I = u
    have hm := Nat.mod_lt u hP
    rcases div_succ (u := u) hP with ⟨h1, h2, h3⟩ | ⟨h1, h2, h3⟩
    · rw [h1, h2]
      by_cases hc : I ≤ u % P
      · rw [if_pos ⟨ht, hc⟩]; omega
      · rw [if_neg (fun h => hc h.2)]; omega
    · rw [h1, h2, if_pos ⟨ht, by omega⟩, Nat.add_mul]
      omega
  · rw [sp_low hP (by omega), sp_low hP (by omega), if_neg (fun h => ht h.1)]
theorem sp_mono {P I : Nat} (hP : 0 < P) (hI : I < P) : ∀ {t u : Nat}, t ≤ u → sp P I t ≤ sp P I u
  | t, 0, h => by obtain rfl : t = 0 := by omega
                  exact Nat.le_refl _
  | t, u + 1, h => by
    by_cases e : t = u + 1
    · subst e; exact Nat.le_refl _
    · have := sp_mono hP hI (t := t) (u := u) (by omega)
      rw [sp_step hP hI]; omega
theorem sp_period {P I t : Nat} (hP : 0 < P) (hI : I ≤ t) : sp P I (t + P) = sp P I t + (P - I) := by
  unfold sp
  rw [show t + P - I = (t - I) + P by omega, Nat.add_div_right _ hP, Nat.add_mod_right, Nat.succ_mul]
  omega
/-- how often of n numbers from a on -/
def cnt (r : Nat → Bool) (a : Nat) : Nat → Nat
  | 0 => 0
  | n + 1 => cnt r a n + (if r (a + n) then 1 else 0)
theorem cnt_succ (r : Nat → Bool) (a n : Nat) : cnt r a (n + 1) = cnt r a n + (if r (a + n) then 1 else 0) := rfl
theorem cnt_add (r : Nat → Bool) (a m : Nat) : ∀ n, cnt r a (m + n) = cnt r a m + cnt r (a + m) n
  | 0 => by simp [cnt]
  | n + 1 => by
    rw [show m + (n + 1) = (m + n) + 1 from rfl, cnt_succ, cnt_succ, cnt_add r a m n, Nat.add_assoc a m n]
    omega
theorem cnt_le (r : Nat → Bool) (a : Nat) : ∀ n, cnt r a n ≤ n
  | 0 => Nat.le_refl _
  | n + 1 => by unfold cnt; have := cnt_le r a n; split <;> omega
/-- a server runs in just its budget of each period, of the first K ones -/
def Runs (P B : Nat) (r : Nat → Bool) (K : Nat) : Prop := ∀ k, k < K → cnt r (k * P) P = B
/-- of a part of one period -/
theorem part_ge {P B k o n : Nat} {r : Nat → Bool} {K : Nat} (h : Runs P B r K) (hk : k < K) (hn : o + n ≤ P) (hB : B ≤ P) : n - (P - B) ≤ cnt r (k * P + o) n := by
  have h1 := h k hk
  obtain ⟨b, hb⟩ : ∃ b, b = k * P := ⟨_, rfl⟩
  rw [← hb] at h1 ⊢
  obtain ⟨q, hq⟩ : ∃ q, P = o + (n + q) := ⟨P - o - n, by omega⟩
  have h2 : cnt r b P = cnt r b o + (cnt r (b + o) n + cnt r (b + o + n) q) := by rw [hq, cnt_add, cnt_add]
  have h3 := cnt_le r b o
  have h4 := cnt_le r (b + o + n) q
  omega
/-- of whole periods -/
theorem whole_eq {P B : Nat} {r : Nat → Bool} {K : Nat} (h : Runs P B r K) : ∀ (m k : Nat), k + m ≤ K → cnt r (k * P) (m * P) = m * B
  | 0, k, _ => by simp [cnt]
  | m + 1, k, hk => by
    rw [Nat.succ_mul, cnt_add, whole_eq h m k (by omega), ← Nat.add_mul, h (k + m) (by omega), Nat.succ_mul]
/-- any t ticks in a row -/
theorem sound {P B : Nat} {r : Nat → Bool} {K a t : Nat} (hB0 : 0 < B) (hB : B ≤ P) (h : Runs P B r K) (ht : a + t ≤ K * P) : sp P (P - B) t ≤ cnt r a t := by
  have hP : 0 < P := by omega
  have hI : P - B < P := by omega
  have hPI : P - (P - B) = B := by omega
  have hm := Nat.mod_lt a hP
  have ea := Nat.div_add_mod a P
  obtain ⟨k, hk⟩ : ∃ k, k = a / P := ⟨_, rfl⟩
  obtain ⟨o, ho⟩ : ∃ o, o = a % P := ⟨_, rfl⟩
  rw [← hk, ← ho] at ea
  rw [← ho] at hm
  have ha : a = k * P + o := by rw [Nat.mul_comm]; exact ea.symm
  subst ha
  by_cases hc : t ≤ P - o
  · have hkK : k < K ∨ t = 0 := by
      rcases Nat.eq_zero_or_pos t with h0 | h0
      · exact Or.inr h0
      · left
        apply Decidable.byContradiction
        intro hn
        have : K * P ≤ k * P := Nat.mul_le_mul_right _ (by omega)
        omega
    rcases hkK with hkK | rfl
    · have h1 := part_ge h hkK (o := o) (n := t) (by omega) hB
      have h2 : sp P (P - B) t ≤ t - (P - B) := by
        unfold sp
        rcases Nat.lt_or_ge (t - (P - B)) P with h3 | h3
        · rw [Nat.div_eq_of_lt h3, Nat.mod_eq_of_lt h3]; omega
        · rw [show t - (P - B) = P by omega, Nat.div_self hP, Nat.mod_self]; omega
      omega
    · rw [sp_low hP (Nat.zero_le _)]; exact Nat.zero_le _
  · obtain ⟨x, hx⟩ : ∃ x, x = P - o := ⟨_, rfl⟩
    obtain ⟨m, hm2⟩ : ∃ m, m = (t - x) / P := ⟨_, rfl⟩
    obtain ⟨y, hy⟩ : ∃ y, y = (t - x) % P := ⟨_, rfl⟩
    have hyP : y < P := by rw [hy]; exact Nat.mod_lt _ hP
    have et : t = x + (m * P + y) := by
      have := Nat.div_add_mod (t - x) P
      rw [← hm2, ← hy, Nat.mul_comm] at this
      omega
    have hkm : k + 1 + m ≤ K ∧ (0 < y → k + 1 + m < K) := by
      have e1 : (k + 1 + m) * P = k * P + P + m * P := by rw [Nat.add_mul, Nat.add_mul, Nat.one_mul]
      constructor
      · apply Decidable.byContradiction
        intro hn
        have : (K + 1) * P ≤ (k + 1 + m) * P := Nat.mul_le_mul_right _ (by omega)
        rw [Nat.add_mul, Nat.one_mul] at this
        omega
      · intro hy0
        apply Decidable.byContradiction
        intro hn
        have : K * P ≤ (k + 1 + m) * P := Nat.mul_le_mul_right _ (by omega)
        omega
    have w1 := part_ge h (k := k) (o := o) (n := x) (by omega) (by omega) hB
    have w2 := whole_eq h m (k + 1) (by omega)
    have w3 : y - (P - B) ≤ cnt r ((k + 1 + m) * P) y := by
      rcases Nat.eq_zero_or_pos y with h0 | h0
      · rw [h0]; omega
      · have := part_ge h (k := k + 1 + m) (o := 0) (n := y) (hkm.2 h0) (by omega) hB
        simpa using this
    have ew : cnt r (k * P + o) t = cnt r (k * P + o) x + (cnt r ((k + 1) * P) (m * P) + cnt r ((k + 1 + m) * P) y) := by
      rw [et, cnt_add, cnt_add]
      have e1 : k * P + o + x = (k + 1) * P := by rw [Nat.add_mul, Nat.one_mul]; omega
      rw [e1, ← Nat.add_mul]
    rw [ew, w2]
    -- the supply of as many ticks
    have hle : sp P (P - B) t ≤ (x - (P - B)) + (m * B + (y - (P - B))) := by
      rcases Nat.lt_or_ge x (P - B) with hxI | hxI
      · refine Nat.le_trans (sp_mono hP hI (u := (P - B) + (m * P + y)) (by omega)) ?_
        unfold sp
        rw [hPI, Nat.add_sub_cancel_left, Nat.mul_comm m P, Nat.mul_add_div hP, Nat.mul_add_mod, Nat.div_eq_of_lt hyP, Nat.mod_eq_of_lt hyP, Nat.add_zero]
        omega
      · unfold sp
        rw [hPI, show t - (P - B) = P * m + ((x - (P - B)) + y) by rw [Nat.mul_comm]; omega, Nat.mul_add_div hP, Nat.mul_add_mod]
        have hx' : x - (P - B) ≤ B := by omega
        generalize x - (P - B) = x' at *
        rcases Nat.lt_or_ge (x' + y) P with h1 | h1
        · rw [Nat.div_eq_of_lt h1, Nat.mod_eq_of_lt h1, Nat.add_zero]
          omega
        · have h2 : (x' + y) / P = 1 := by
            rw [show x' + y = P * 1 + (x' + y - P) by omega, Nat.mul_add_div hP, Nat.div_eq_of_lt (by omega)]
          have h3 : (x' + y) % P = x' + y - P := by
            rw [show x' + y = P * 1 + (x' + y - P) by omega, Nat.mul_add_mod, Nat.mod_eq_of_lt (by omega)]
            omega
          rw [h2, h3, Nat.add_mul, Nat.one_mul]
          omega
    omega
/-- the worst way to run gives just as many -/
theorem worst {P B : Nat} (hB0 : 0 < B) (hB : B ≤ P) (t : Nat) : cnt (fun i => decide (P ≤ i) && decide (P - B ≤ i % P)) B t = sp P (P - B) t := by
  have hP : 0 < P := by omega
  induction t with
  | zero => rw [sp_low hP (Nat.zero_le _)]; rfl
  | succ t ih =>
    rw [cnt_succ, ih, sp_step hP (by omega)]
    have e : (decide (P ≤ B + t) && decide (P - B ≤ (B + t) % P)) = decide (P - B ≤ t ∧ P - B ≤ (t - (P - B)) % P) := by
      rw [Bool.eq_iff_iff, Bool.and_eq_true, decide_eq_true_eq, decide_eq_true_eq, decide_eq_true_eq]
      constructor
      · rintro ⟨h1, h2⟩
        have e : (B + t) % P = (t - (P - B)) % P := by rw [show B + t = (t - (P - B)) + P by omega, Nat.add_mod_right]
        exact ⟨by omega, by rw [← e]; exact h2⟩
      · rintro ⟨h1, h2⟩
        have e : (B + t) % P = (t - (P - B)) % P := by rw [show B + t = (t - (P - B)) + P by omega, Nat.add_mod_right]
        exact ⟨by omega, by rw [e]; exact h2⟩
    rw [e]
    simp
/-- enough ticks give as many as is asked for -/
theorem sp_reach {P B : Nat} (hB0 : 0 < B) (hB : B ≤ P) (n : Nat) : n ≤ sp P (P - B) (P - B + n * P) := by
  have hP : 0 < P := by omega
  unfold sp
  rw [show P - (P - B) = B by omega, Nat.add_sub_cancel_left, Nat.mul_div_cancel _ hP]
  have : n * 1 ≤ n * B := Nat.mul_le_mul_left _ hB0
  omega
end Go.Proofs.Ytbdiekolkniajaa.Su

namespace Go.Proofs.Ytbdiekolkniajaa.Ed
open Go.Proofs.Ytbdiekolkniajaa.De Go.Proofs.Ytbdiekolkniajaa.Su
set_option linter.unusedVariables false

/-- the sum of the first n -/
def sm (f : Nat → Nat) : Nat → Nat
  | 0 => 0
  | n + 1 => sm f n + f n
theorem sm_congr {f g : Nat → Nat} : ∀ {n : Nat}, (∀ i, i < n → f i = g i) → sm f n = sm g n
  | 0, _ => rfl
  | n + 1, h => by unfold sm; rw [sm_congr (fun i hi => h i (by omega)), h n (by omega)]
theorem sm_le {f g : Nat → Nat} : ∀ {n : Nat}, (∀ i, i < n → f i ≤ g i) → sm f n ≤ sm g n
  | 0, _ => Nat.le_refl _
  | n + 1, h => by unfold sm; have := sm_le (n := n) (fun i hi => h i (by omega)); have := h n (by omega); omega
theorem sm_one {f g : Nat → Nat} {k : Nat} (hk : ∀ i, i ≠ k → f i = g i) : ∀ {n : Nat}, k < n → sm f n + g k = sm g n + f k
  | n + 1, h => by
    unfold sm
    by_cases e : k = n
    · subst e
      rw [sm_congr (f := f) (g := g) (fun i hi => hk i (by omega))]
      omega
    · have := sm_one (f := f) (g := g) hk (n := n) (by omega)
      rw [hk n (fun q => e q.symm)]
      omega
theorem sm_zero {f : Nat → Nat} {n : Nat} (h : ∀ i, i < n → f i = 0) : sm f n = 0 := by
  induction n with
  | zero => rfl
  | succ n ih => unfold sm; rw [ih (fun i hi => h i (by omega)), h n (by omega)]
theorem sm_at {f : Nat → Nat} {k : Nat} : ∀ {n : Nat}, k < n → f k ≤ sm f n
  | n + 1, h => by
    unfold sm
    by_cases e : k = n
    · subst e; omega
    · have := sm_at (f := f) (n := n) (k := k) (by omega); omega
/-- what is left to do by d -/
def wk (n : Nat) (left ends : Nat → Nat) (d : Nat) : Nat := sm (fun i => if ends i ≤ d then left i else 0) n
/-- what was asked for from t0 on, to be done by d -/
def rq (n : Nat) (C D : Nat → Nat) (rels : Nat → List Nat) (t0 d : Nat) : Nat := sm (fun i => C i * cj (D i) t0 (d - t0) (rels i)) n
/-- for each end there is a tick from which on all that was given went to what has to be done by then, and was released since -/
def Inv (n : Nat) (C D : Nat → Nat) (run : Nat → Bool) (now : Nat) (left ends : Nat → Nat) (rels : Nat → List Nat) : Prop :=
  ∀ d, ∃ t0, t0 ≤ now ∧ wk n left ends d + cnt run t0 (now - t0) ≤ rq n C D rels t0 d
theorem inv_start (n : Nat) (C D : Nat → Nat) (run : Nat → Bool) {left ends : Nat → Nat} (h : ∀ i, i < n → left i = 0) (rels : Nat → List Nat) : Inv n C D run 0 left ends rels := fun d =>
  ⟨0, Nat.le_refl _, by
    unfold wk
    rw [sm_zero (fun i hi => by rw [h i hi]; split <;> rfl)]
    exact Nat.zero_le _⟩
theorem cj_snoc (D b t a : Nat) : ∀ r, cj D b t (r ++ [a]) = cj D b t r + (if hit D b t a then 1 else 0)
  | [] => by simp [cj]
  | x :: r => by
    rw [List.cons_append]
    unfold cj
    rw [cj_snoc D b t a r]
    omega
/-- a job is released -/
theorem inv_release {n : Nat} {C D : Nat → Nat} {run : Nat → Bool} {now : Nat} {left ends left' ends' : Nat → Nat} {rels rels' : Nat → List Nat} {k : Nat} (h : Inv n C D run now left ends rels) (hk : k < n) (hD : 1 ≤ D k)
    (hl : left' k = C k) (he : ends' k = now + D k) (hr : rels' k = rels k ++ [now]) (ho : ∀ i, i ≠ k → left' i = left i ∧ ends' i = ends i ∧ rels' i = rels i) : Inv n C D run now left' ends' rels' := by
  intro d
  obtain ⟨t0, h0, h1⟩ := h d
  refine ⟨t0, h0, ?_⟩
  have e1 : wk n left' ends' d + (if ends k ≤ d then left k else 0) = wk n left ends d + (if now + D k ≤ d then C k else 0) := by
    have := sm_one (f := fun i => if ends' i ≤ d then left' i else 0) (g := fun i => if ends i ≤ d then left i else 0) (k := k) (fun i hi => by simp only [(ho i hi).1, (ho i hi).2.1]) hk
    simp only [hl, he] at this
    exact this
  have e2 : rq n C D rels' t0 d = rq n C D rels t0 d + C k * (if hit (D k) t0 (d - t0) now then 1 else 0) := by
    have := sm_one (f := fun i => C i * cj (D i) t0 (d - t0) (rels' i)) (g := fun i => C i * cj (D i) t0 (d - t0) (rels i)) (k := k) (fun i hi => by simp only [(ho i hi).2.2]) hk
    simp only [hr, cj_snoc, Nat.mul_add] at this
    unfold rq
    omega
  have e3 : (if now + D k ≤ d then C k else 0) = C k * (if hit (D k) t0 (d - t0) now then 1 else 0) := by
    have e : hit (D k) t0 (d - t0) now = decide (now + D k ≤ d) := by
      unfold hit
      rw [Bool.eq_iff_iff, Bool.and_eq_true, decide_eq_true_eq, decide_eq_true_eq, decide_eq_true_eq]
      omega
    rw [e]
    by_cases hc : now + D k ≤ d
    · rw [if_pos hc, if_pos (by simpa using hc), Nat.mul_one]
    · rw [if_neg hc, if_neg (by simpa using hc), Nat.mul_zero]
  rw [e2, ← e3]
  omega
theorem cnt_next (run : Nat → Bool) {t0 now : Nat} (h : t0 ≤ now) : cnt run t0 (now + 1 - t0) = cnt run t0 (now - t0) + (if run now then 1 else 0) := by
  rw [show now + 1 - t0 = (now - t0) + 1 by omega, cnt_succ, show t0 + (now - t0) = now by omega]
/-- a tick in which it does not run -/
theorem inv_idle {n : Nat} {C D : Nat → Nat} {run : Nat → Bool} {now : Nat} {left ends : Nat → Nat} {rels : Nat → List Nat} (h : Inv n C D run now left ends rels) (hr : run now = false) : Inv n C D run (now + 1) left ends rels := by
  intro d
  obtain ⟨t0, h0, h1⟩ := h d
  refine ⟨t0, by omega, ?_⟩
  rw [cnt_next run h0, hr]
  exact h1
/-- a tick with nothing to do -/
theorem inv_none {n : Nat} {C D : Nat → Nat} {run : Nat → Bool} {now : Nat} {left ends : Nat → Nat} {rels : Nat → List Nat} (h : ∀ i, i < n → left i = 0) : Inv n C D run (now + 1) left ends rels := fun d =>
  ⟨now + 1, Nat.le_refl _, by
    unfold wk
    rw [sm_zero (fun i hi => by rw [h i hi]; split <;> rfl), Nat.sub_self]
    exact Nat.zero_le _⟩
/-- a tick in which the one whose end is nearest goes on -/
theorem inv_run {n : Nat} {C D : Nat → Nat} {run : Nat → Bool} {now : Nat} {left ends left' : Nat → Nat} {rels : Nat → List Nat} {k : Nat} (h : Inv n C D run now left ends rels) (hk : k < n) (hp : 0 < left k) (hm : ∀ i, i < n → 0 < left i → ends k ≤ ends i)
    (hl : left' k = left k - 1) (ho : ∀ i, i ≠ k → left' i = left i) : Inv n C D run (now + 1) left' ends rels := by
  intro d
  by_cases hd : ends k ≤ d
  · obtain ⟨t0, h0, h1⟩ := h d
    refine ⟨t0, by omega, ?_⟩
    have e1 : wk n left' ends d + left k = wk n left ends d + (left k - 1) := by
      have := sm_one (f := fun i => if ends i ≤ d then left' i else 0) (g := fun i => if ends i ≤ d then left i else 0) (k := k) (fun i hi => by simp only [ho i hi]) hk
      simp only [hd, if_true, hl] at this
      exact this
    rw [cnt_next run h0]
    split <;> omega
  · refine ⟨now + 1, Nat.le_refl _, ?_⟩
    unfold wk
    rw [sm_zero (fun i hi => ?_), Nat.sub_self]
    · exact Nat.zero_le _
    · by_cases hc : ends i ≤ d
      · rw [if_pos hc]
        by_cases e : i = k
        · subst e; omega
        · rw [ho i e]
          apply Decidable.byContradiction
          intro hn
          have := hm i hi (by omega)
          omega
      · rw [if_neg hc]
/-- nobody is late -/
theorem in_time {n : Nat} {C D P : Nat → Nat} {run : Nat → Bool} {now k : Nat} {left ends : Nat → Nat} {rels : Nat → List Nat} {sup : Nat → Nat} (h : Inv n C D run now left ends rels) (hk : k < n) (hp : 0 < left k) (he : ends k ≤ now)
    (hP : ∀ i, i < n → 0 < P i) (hs : ∀ i, i < n → Spaced (P i) (rels i)) (hsup : ∀ t0, t0 ≤ now → sup (now - t0) ≤ cnt run t0 (now - t0))
    (hdem : ∀ t, t ≤ now → 0 < sm (fun i => C i * jobs (P i) (D i) t) n → sm (fun i => C i * jobs (P i) (D i) t) n ≤ sup t) : False := by
  obtain ⟨t0, h0, h1⟩ := h now
  have h2 : 1 ≤ wk n left ends now := by
    have := sm_at (f := fun i => if ends i ≤ now then left i else 0) (k := k) hk
    simp only [he, if_true] at this
    unfold wk
    omega
  have h3 : rq n C D rels t0 now ≤ sm (fun i => C i * jobs (P i) (D i) (now - t0)) n :=
    sm_le fun i hi => Nat.mul_le_mul_left _ (cj_le (hP i hi) (hs i hi))
  have h4 := hsup t0 h0
  have h5 := hdem (now - t0) (by omega) (by omega)
  omega
/-- what holds up to some number of ticks holds for all, if both grow evenly -/
theorem for_all {f s : Nat → Nat} {h e u v m : Nat} (hh : 0 < h) (hb : ∀ t, t ≤ e → 0 < f t → f t ≤ s t) (he : m + h ≤ e + 1) (hf : ∀ t, m ≤ t → f (t + h) = f t + u) (hs : ∀ t, m ≤ t → s (t + h) = s t + v) (huv : u ≤ v) (hpos : ∀ t, m ≤ t → 0 < f t) :
    ∀ t, 0 < f t → f t ≤ s t := by
  intro t
  induction t using Nat.strongRecOn with
  | ind t ih =>
    intro ht
    rcases Nat.lt_or_ge e t with h1 | h1
    · have e1 : t = (t - h) + h := by omega
      have h2 := ih (t - h) (by omega) (hpos _ (by omega))
      rw [e1, hf _ (by omega), hs _ (by omega)]
      omega
    · exact hb t h1 ht
theorem sp_periods {P I t : Nat} (hP : 0 < P) (hI : I ≤ t) : ∀ q, sp P I (t + q * P) = sp P I t + q * (P - I)
  | 0 => by simp
  | q + 1 => by rw [Nat.succ_mul, ← Nat.add_assoc, sp_period hP (by omega), sp_periods hP hI q, Nat.succ_mul]; omega
/-- the demand of several tasks, a common multiple of their periods later -/
theorem dem_period {n : Nat} {C D P : Nat → Nat} {h t : Nat} (hP : ∀ i, i < n → 0 < P i) (hd : ∀ i, i < n → P i ∣ h) (ht : ∀ i, i < n → D i ≤ t) :
    sm (fun i => C i * jobs (P i) (D i) (t + h)) n = sm (fun i => C i * jobs (P i) (D i) t) n + sm (fun i => h / P i * C i) n := by
  induction n with
  | zero => rfl
  | succ n ih =>
    unfold sm
    rw [ih (fun i hi => hP i (by omega)) (fun i hi => hd i (by omega)) (fun i hi => ht i (by omega))]
    have h1 := jobs_period (D := D n) (hP n (by omega)) (ht n (by omega)) (h / P n)
    rw [Nat.div_mul_cancel (hd n (by omega))] at h1
    simp only [h1, Nat.mul_add, Nat.mul_comm (C n) (h / P n)]
    omega
theorem jobs_self {P : Nat} (hP : 0 < P) (t : Nat) : jobs P P t = t / P := by
  unfold jobs
  by_cases h : t < P
  · rw [if_pos h, Nat.div_eq_of_lt h]
  · rw [if_neg h]
    have : t / P = (t - P) / P + 1 := by
      rw [← Nat.add_div_right _ hP, show t - P + P = t by omega]
    omega
theorem sm_mul (f : Nat → Nat) (c : Nat) : ∀ n, sm (fun i => f i * c) n = sm f n * c
  | 0 => by simp [sm]
  | n + 1 => by unfold sm; rw [sm_mul f c n, Nat.add_mul]
/-- servers that share at most 1 ask for no more than there is -/
theorem share_dem {n M : Nat} {B P : Nat → Nat} (hM : 0 < M) (hP : ∀ i, i < n → 0 < P i) (hd : ∀ i, i < n → P i ∣ M) (h : sm (fun i => B i * (M / P i)) n ≤ M) (t : Nat) : sm (fun i => B i * jobs (P i) (P i) t) n ≤ t := by
  have h1 : sm (fun i => B i * jobs (P i) (P i) t * M) n ≤ sm (fun i => B i * (M / P i) * t) n := by
    refine sm_le fun i hi => ?_
    rw [jobs_self (hP i hi)]
    have e1 : M = P i * (M / P i) := (Nat.mul_div_cancel' (hd i hi)).symm
    have e2 : t / P i * P i ≤ t := Nat.div_mul_le_self t (P i)
    calc B i * (t / P i) * M = B i * (M / P i) * (t / P i * P i) := by
          conv => lhs; rw [e1]
          simp only [Nat.mul_comm, Nat.mul_left_comm]
      _ ≤ B i * (M / P i) * t := Nat.mul_le_mul_left _ e2
  rw [sm_mul, sm_mul] at h1
  have h2 : sm (fun i => B i * jobs (P i) (P i) t) n * M ≤ t * M := Nat.le_trans h1 (by rw [Nat.mul_comm t M]; exact Nat.mul_le_mul_right _ h)
  exact Nat.le_of_mul_le_mul_right h2 hM
end Go.Proofs.Ytbdiekolkniajaa.Ed

namespace Go.Proofs.Ytbdiekolkniajaa.Lo
open Go.Proofs.Ytbdiekolkniajaa.De Go.Proofs.Ytbdiekolkniajaa.Su Go.Proofs.Ytbdiekolkniajaa.Dl Go.Proofs.Ytbdiekolkniajaa.Ed
set_option linter.unusedVariables false

theorem dem_sm (P D J : Nat → Nat) (t : Nat) : ∀ n, dem P D J t n = sm (fun i => J i * jobs (P i) (D i) t) n
  | 0 => rfl
  | n + 1 => by unfold dem sm; rw [dem_sm P D J t n, Nat.mul_comm]
theorem use_sm (P J : Nat → Nat) (T : Nat) : ∀ n, use P J T n = sm (fun i => T / P i * J i) n
  | 0 => rfl
  | n + 1 => by unfold use sm; rw [use_sm P J T n]
/-- what a partition's server gives in t ticks at least -/
def supN (p : Pn) (t : Nat) : Nat := sp p.per.toNat (p.per.toNat - p.bud.toNat) t
/-- what a job of a task asks for, with what is more -/
def askN (l : List Pn) (q : Nat) : Nat → Nat := asks (l.getD q p0).z (mors l q)
def demN (l : List Pn) (q t : Nat) : Nat := dem (per (l.getD q p0).z) (dea (l.getD q p0).z) (askN l q) t (l.getD q p0).n
def slk (l : List Pn) (q t : Nat) : Int := (supN (l.getD q p0) t : Int) - demN l q t - del l q t (l.getD q p0).n
def hyp (l : List Pn) (q : Nat) : Nat := hypL (l.getD q p0).n (l.getD q p0).z (l.getD q p0).per.toNat
def useN (l : List Pn) (q : Nat) : Nat := use (per (l.getD q p0).z) (askN l q) (hyp l q) (l.getD q p0).n
/-- the greatest Deadline -/
def maxD (z : Nat → Nat → Int) : Nat → Nat
  | 0 => 0
  | n + 1 => max (maxD z n) (dea z n)
theorem maxD_at {z : Nat → Nat → Int} : ∀ {n i : Nat}, i < n → dea z i ≤ maxD z n
  | 0, _, h => by cases h
  | n + 1, i, h => by
    unfold maxD
    by_cases e : i = n
    · subst e; omega
    · have := maxD_at (z := z) (show i < n by omega); omega
def endN (l : List Pn) (q : Nat) : Nat := hyp l q + maxD (l.getD q p0).z (l.getD q p0).n + 2 * (l.getD q p0).per.toNat
theorem mor_nn {l : List Pn} (h : chkP l = true) {q : Nat} {bud : Int} {t : Nat → Int} (ht : TB bud t) : 0 ≤ mor l q t := by
  unfold mor
  split
  · rename_i hp
    have h1 := wait_bd h q t
    have h2 := ht.n0 hp
    exact Int.mul_nonneg (by omega) (by omega)
  · omega
theorem PB.good {p : Pn} (h : PB p) : De.Good p.n p.z := good_of (by
  unfold tasksOK
  rw [decide_eq_true h.n4, Bool.true_and]
  exact allT_all fun i hi => (h.t i hi).ok)
theorem mors_at (l : List Pn) (q : Nat) {i : Nat} (hi : i < (l.getD q p0).n) : (mors l q).getD i 0 = mor l q ((l.getD q p0).z i) := by
  unfold mors
  have h1 : (List.range (l.getD q p0).n)[i]? = some i := by rw [List.getElem?_range hi]
  rw [List.getD, List.getElem?_map, h1]
  rfl
theorem ask_pos {l : List Pn} (h : chkP l = true) {q : Nat} (hq : q < l.length) {i : Nat} (hi : i < (l.getD q p0).n) : 1 ≤ askN l q i := by
  have hp := chkP_at h hq
  have h1 := (PB.good hp).at' i hi
  have h2 := mor_nn h (q := q) (hp.t i hi)
  unfold askN asks
  rw [mors_at l q hi]
  omega
theorem demN_zero {l : List Pn} (h : chkP l = true) {q : Nat} (hq : q < l.length) : demN l q 0 = 0 := by
  have hg := PB.good (chkP_at h hq)
  unfold demN
  rw [dem_sm]
  refine sm_zero fun i hi => ?_
  have := hg.at' i hi
  unfold jobs
  rw [if_pos (by omega), Nat.mul_zero]
theorem slk_all {l : List Pn} (h : chkP l = true) {q : Nat} (hq : q < l.length) (hn : 0 < (l.getD q p0).n) (hu : useN l q ≤ hyp l q / (l.getD q p0).per.toNat * (l.getD q p0).bud.toNat)
    (hb : ∀ t, 1 ≤ t → t ≤ endN l q → 0 < demN l q t → 0 ≤ slk l q t) : ∀ t, 0 < demN l q t → 0 ≤ slk l q t := by
  have hp := chkP_at h hq
  have hg := PB.good hp
  have h0 := demN_zero h hq
  have hask := fun i hi => ask_pos h hq (i := i) hi
  have hdn : ∀ t : Nat, 0 ≤ del l q t (l.getD q p0).n := fun t => del_nn _ _
  have hdz : ∀ t : Nat, maxD (l.getD q p0).z (l.getD q p0).n ≤ t → del l q t (l.getD q p0).n = 0 := fun t ht => del_zero fun i hi => by
    have := maxD_at (z := (l.getD q p0).z) hi
    have := (hg.at' i hi).2.1
    omega
  have hP : 0 < (l.getD q p0).per.toNat := by have := hp.p1; omega
  have hh : 0 < hyp l q := hg.hyp_pos hP (by have := hp.p2; omega)
  have hdv := (hypL_dvd (n := (l.getD q p0).n) (z := (l.getD q p0).z) (p := (l.getD q p0).per.toNat) (T := hyp l q)).1 (Nat.dvd_refl _)
  have hdem : ∀ t, maxD (l.getD q p0).z (l.getD q p0).n ≤ t → demN l q (t + hyp l q) = demN l q t + useN l q := fun t ht => by
    unfold demN useN
    rw [dem_sm, dem_sm, use_sm]
    exact dem_period (fun i hi => (hg.at' i hi).2.2.1) hdv.2 (fun i hi => Nat.le_trans (maxD_at hi) ht)
  have hsup : ∀ t, (l.getD q p0).per.toNat ≤ t → supN (l.getD q p0) (t + hyp l q) = supN (l.getD q p0) t + hyp l q / (l.getD q p0).per.toNat * (l.getD q p0).bud.toNat := fun t ht => by
    obtain ⟨c, hc⟩ := hdv.1
    unfold supN
    rw [hc, Nat.mul_comm _ c, Nat.mul_div_cancel _ hP, sp_periods hP (by omega)]
    have h1 := hp.b2
    have h2 := hp.b1
    rw [show (l.getD q p0).per.toNat - ((l.getD q p0).per.toNat - (l.getD q p0).bud.toNat) = (l.getD q p0).bud.toNat by omega]
  have hpos : ∀ t, maxD (l.getD q p0).z (l.getD q p0).n ≤ t → 0 < demN l q t := fun t ht => by
    unfold demN
    rw [dem_sm]
    have h1 := sm_at (f := fun i => askN l q i * jobs (per (l.getD q p0).z i) (dea (l.getD q p0).z i) t) hn
    have h2 := maxD_at (z := (l.getD q p0).z) hn
    have h3 : 0 < jobs (per (l.getD q p0).z 0) (dea (l.getD q p0).z 0) t := by unfold jobs; rw [if_neg (by omega)]; exact Nat.lt_of_lt_of_le Nat.zero_lt_one (Nat.le_add_right _ _)
    have h4 := Nat.mul_pos (hask 0 hn) h3
    omega
  have key := for_all (f := fun t => if demN l q t = 0 then 0 else demN l q t + (del l q t (l.getD q p0).n).toNat) (s := supN (l.getD q p0)) (h := hyp l q) (e := endN l q)
    (u := useN l q) (v := hyp l q / (l.getD q p0).per.toNat * (l.getD q p0).bud.toNat) (m := maxD (l.getD q p0).z (l.getD q p0).n + (l.getD q p0).per.toNat) hh
    (fun t ht hf => by
      by_cases e : demN l q t = 0
      · rw [if_pos e]; omega
      · rw [if_neg e]
        have h1 := hb t (Nat.pos_of_ne_zero fun hc => e (by rw [hc]; exact h0)) ht (by omega)
        have h2 := hdn t
        unfold slk at h1
        omega)
    (by unfold endN; omega)
    (fun t ht => by
      have h1 := hpos t (by omega)
      have h2 := hpos (t + hyp l q) (by omega)
      have h3 := hdz t (by omega)
      have h4 := hdz (t + hyp l q) (by omega)
      rw [if_neg (by omega), if_neg (by omega), h3, h4, hdem t (by omega)]
      rfl)
    (fun t ht => hsup t (by omega)) hu
    (fun t ht => by
      have h1 := hpos t (by omega)
      show 0 < (if demN l q t = 0 then 0 else demN l q t + (del l q t (l.getD q p0).n).toNat)
      rw [if_neg (by omega)]; omega)
  intro t ht
  have h1 := key t (by show 0 < (if demN l q t = 0 then 0 else demN l q t + (del l q t (l.getD q p0).n).toNat); rw [if_neg (by omega)]; omega)
  have h2 : (if demN l q t = 0 then 0 else demN l q t + (del l q t (l.getD q p0).n).toNat) ≤ supN (l.getD q p0) t := h1
  rw [if_neg (by omega)] at h2
  have h3 := hdn t
  unfold slk
  omega
end Go.Proofs.Ytbdiekolkniajaa.Lo

namespace Go.Proofs.Ytbdiekolkniajaa.Lo
open Go.Proofs.Ytbdiekolkniajaa.De Go.Proofs.Ytbdiekolkniajaa.Su Go.Proofs.Ytbdiekolkniajaa.Dl Go.Proofs.Ytbdiekolkniajaa.Ed
set_option linter.unusedVariables false

/-- fewer idle ticks give no less -/
theorem sp_less {P I I' : Nat} (hP : 0 < P) (hI : I < P) (h : I' ≤ I) (t : Nat) : sp P I t ≤ sp P I' t := by
  by_cases ht : t ≤ I
  · rw [sp_low hP ht]; exact Nat.zero_le _
  · have h1 := sp_mono hP (show I' < P by omega) (show t - I + I' ≤ t by omega)
    refine Nat.le_trans ?_ h1
    unfold sp
    rw [Nat.add_sub_cancel]
    have h2 : (t - I) / P * (P - I) ≤ (t - I) / P * (P - I') := Nat.mul_le_mul_left _ (by omega)
    omega
/-- the test lets a partition that has tasks pass -/
structure Pass (l : List Pn) (q : Nat) : Prop where
  h : hyp l q ≤ 4096
  u : useN l q ≤ hyp l q / (l.getD q p0).per.toNat * (l.getD q p0).bud.toNat
  s : ∀ t, 1 ≤ t → t ≤ endN l q → 0 < demN l q t → 0 ≤ slk l q t
/-- a partition has it no harder than another -/
structure Easy (l : List Pn) (q : Nat) (l' : List Pn) (q' : Nat) : Prop where
  p : (l'.getD q' p0).per = (l.getD q p0).per
  n : (l'.getD q' p0).n = (l.getD q p0).n
  z0 : ∀ i, i < (l.getD q p0).n → (l'.getD q' p0).z i 0 = (l.getD q p0).z i 0
  z1 : ∀ i, i < (l.getD q p0).n → (l'.getD q' p0).z i 1 = (l.getD q p0).z i 1
  b : (l.getD q p0).bud ≤ (l'.getD q' p0).bud
  a : ∀ i, i < (l.getD q p0).n → askN l' q' i ≤ askN l q i
  d : ∀ t : Nat, del l' q' t (l.getD q p0).n ≤ del l q t (l.getD q p0).n
theorem Easy.hyp {l l' : List Pn} {q q' : Nat} (e : Easy l q l' q') : hyp l' q' = hyp l q := by
  unfold Lo.hyp hypL pers
  rw [e.p, e.n]
  congr 2
  refine List.map_congr_left fun i hi => ?_
  unfold per
  rw [e.z0 i (by simpa using hi)]
theorem maxD_eq {z z' : Nat → Nat → Int} : ∀ {n : Nat}, (∀ i, i < n → z' i 1 = z i 1) → maxD z' n = maxD z n
  | 0, _ => rfl
  | n + 1, h => by unfold maxD; rw [maxD_eq (fun i hi => h i (by omega))]; unfold dea; rw [h n (by omega)]
theorem Easy.ends {l l' : List Pn} {q q' : Nat} (e : Easy l q l' q') : endN l' q' = endN l q := by
  unfold endN
  rw [e.hyp, e.p, e.n, maxD_eq e.z1]
theorem Easy.dem {l l' : List Pn} {q q' : Nat} (e : Easy l q l' q') (t : Nat) : demN l' q' t ≤ demN l q t := by
  unfold demN
  rw [dem_sm, dem_sm, e.n]
  refine sm_le fun i hi => ?_
  show askN l' q' i * jobs (per (l'.getD q' p0).z i) (dea (l'.getD q' p0).z i) t ≤ askN l q i * jobs (per (l.getD q p0).z i) (dea (l.getD q p0).z i) t
  unfold per dea
  rw [e.z0 i hi, e.z1 i hi]
  exact Nat.mul_le_mul_right _ (e.a i hi)
theorem Easy.use {l l' : List Pn} {q q' : Nat} (e : Easy l q l' q') : useN l' q' ≤ useN l q := by
  unfold useN
  rw [use_sm, use_sm, e.n, e.hyp]
  refine sm_le fun i hi => ?_
  show Lo.hyp l q / per (l'.getD q' p0).z i * askN l' q' i ≤ Lo.hyp l q / per (l.getD q p0).z i * askN l q i
  unfold per
  rw [e.z0 i hi]
  exact Nat.mul_le_mul_left _ (e.a i hi)
theorem Easy.sup {l l' : List Pn} {q q' : Nat} (e : Easy l q l' q') (h : PB (l.getD q p0)) (t : Nat) : supN (l.getD q p0) t ≤ supN (l'.getD q' p0) t := by
  have h1 := h.p1
  have h2 := h.b1
  have h3 := h.b2
  have h4 := e.b
  unfold supN
  rw [e.p]
  exact sp_less (by omega) (by omega) (by omega) t
theorem Easy.slk {l l' : List Pn} {q q' : Nat} (e : Easy l q l' q') (h : PB (l.getD q p0)) (t : Nat) : slk l q t ≤ slk l' q' t := by
  have h1 := e.sup h t
  have h2 := e.dem t
  have h3 := e.d t
  unfold Lo.slk
  rw [e.n]
  omega
theorem Easy.pass {l l' : List Pn} {q q' : Nat} (e : Easy l q l' q') (h : PB (l.getD q p0)) (hp : Pass l q) : Pass l' q' := by
  refine ⟨by rw [e.hyp]; exact hp.h, ?_, fun t h1 h2 h3 => ?_⟩
  · have h1 := e.use
    have h2 := hp.u
    have h3 : Lo.hyp l q / (l.getD q p0).per.toNat * (l.getD q p0).bud.toNat ≤ Lo.hyp l q / (l.getD q p0).per.toNat * (l'.getD q' p0).bud.toNat :=
      Nat.mul_le_mul_left _ (by have := e.b; omega)
    rw [e.hyp, e.p]
    omega
  · have := hp.s t h1 (by rw [← e.ends]; exact h2) (Nat.lt_of_lt_of_le h3 (e.dem t))
    have := e.slk h t
    omega
theorem asks_le {l l' : List Pn} {q q' i : Nat} (h : (l'.getD q' p0).z i 2 ≤ (l.getD q p0).z i 2) (hi : i < (l.getD q p0).n) (hi' : i < (l'.getD q' p0).n) (hm : mor l' q' ((l'.getD q' p0).z i) ≤ mor l q ((l.getD q p0).z i)) : askN l' q' i ≤ askN l q i := by
  unfold askN asks
  rw [mors_at l q hi, mors_at l' q' hi']
  omega
/-- without the last one -/
theorem easy_app {l : List Pn} {x : Pn} {q : Nat} (h : chkP l = true) (hx : PB x) (hq : q < l.length) : Easy (l ++ [x]) q l q := by
  have hg : (l ++ [x]).getD q p0 = l.getD q p0 := getD_app hq
  refine ⟨by rw [hg], by rw [hg], fun i _ => by rw [hg], fun i _ => by rw [hg], by rw [hg]; exact Int.le_refl _, fun i hi => ?_, fun t => ?_⟩
  · rw [hg] at hi
    exact asks_le (by rw [hg]; exact Int.le_refl _) (by rw [hg]; exact hi) hi (by rw [hg]; exact mor_mono hx hq ((chkP_at h hq).t i hi))
  · rw [hg]; exact del_mono hx hq t _
end Go.Proofs.Ytbdiekolkniajaa.Lo

namespace Go.Proofs.Ytbdiekolkniajaa.Lo
open Go.Proofs.Ytbdiekolkniajaa.De Go.Proofs.Ytbdiekolkniajaa.Su Go.Proofs.Ytbdiekolkniajaa.Dl Go.Proofs.Ytbdiekolkniajaa.Ed
set_option linter.unusedVariables false

theorem wait_alone (p : Pn) (t : Nat → Int) : wait [p] 0 t = 0 := by
  show wt [p] 0 (t 5) 0 + add1 [p] 0 (t 5) 0 = 0
  unfold add1
  rw [if_neg (fun h => h.2.1 rfl)]
  rfl
theorem del_le {l l' : List Pn} {q q' : Nat} {T : Int} : ∀ {n : Nat}, (∀ i, i < n → (l'.getD q' p0).z i 1 = (l.getD q p0).z i 1) → (∀ i, i < n → del1 l' q' ((l'.getD q' p0).z i) ≤ del1 l q ((l.getD q p0).z i)) → del l' q' T n ≤ del l q T n
  | 0, _, _ => Int.le_refl _
  | n + 1, h1, h2 => by
    have ih := del_le (T := T) (n := n) (fun i hi => h1 i (by omega)) (fun i hi => h2 i (by omega))
    have := h2 n (by omega)
    rw [del, del, h1 n (by omega)]
    split <;> omega
/-- alone, with a greater budget -/
theorem easy_alone {l : List Pn} {q : Nat} (h : chkP l = true) (hq : q < l.length) {b : Int} (hb : (l.getD q p0).bud ≤ b) :
    Easy l q [⟨(l.getD q p0).per, b, (l.getD q p0).n, (l.getD q p0).z⟩] 0 := by
  have hp := chkP_at h hq
  refine ⟨rfl, rfl, fun _ _ => rfl, fun _ _ => rfl, hb, fun i hi => ?_, fun t => ?_⟩
  · refine asks_le (Int.le_refl _) hi hi ?_
    show mor _ 0 ((l.getD q p0).z i) ≤ mor l q ((l.getD q p0).z i)
    unfold mor
    rw [wait_alone]
    have h1 := (wait_bd h q ((l.getD q p0).z i)).1
    split
    · rename_i hc
      have h2 := (hp.t i hi).n0 hc
      exact Int.mul_le_mul_of_nonneg_left (by omega) (by omega)
    · exact Int.le_refl _
  · refine del_le (fun _ _ => rfl) fun i hi => ?_
    show del1 _ 0 ((l.getD q p0).z i) ≤ del1 l q ((l.getD q p0).z i)
    unfold del1
    rw [wait_alone]
    have h1 := (wait_bd h q ((l.getD q p0).z i)).1
    split <;> omega
/-- a task's numbers without what is shared, of a Bound of one less -/
def bare (t : Nat → Int) : Nat → Int
  | 0 => t 0
  | 1 => t 1
  | 2 => max (t 2 - 1) 1
  | _ => 0
theorem bare_mor (l : List Pn) (q : Nat) (t : Nat → Int) : mor l q (bare t) = 0 := by
  unfold mor; rw [if_neg (by show ¬ ((0 : Int) < 0); omega)]
theorem bare_del (l : List Pn) (q : Nat) (t : Nat → Int) : del1 l q (bare t) = 0 := by
  unfold del1; rw [if_neg (by show ¬ ((0 : Int) < 0); omega)]; rfl
theorem del1_nn {l : List Pn} (h : chkP l = true) {q : Nat} {bud : Int} {t : Nat → Int} (ht : TB bud t) : 0 ≤ del1 l q t := by
  have := ht.l0
  unfold del1
  split <;> omega
theorem easy_bare {l : List Pn} {q : Nat} (h : chkP l = true) (hq : q < l.length) {b : Int} (hb : (l.getD q p0).bud ≤ b) :
    Easy l q [⟨(l.getD q p0).per, b, (l.getD q p0).n, fun i => bare ((l.getD q p0).z i)⟩] 0 := by
  have hp := chkP_at h hq
  refine ⟨rfl, rfl, fun _ _ => rfl, fun _ _ => rfl, hb, fun i hi => ?_, fun t => ?_⟩
  · refine asks_le ?_ hi hi ?_
    · show max ((l.getD q p0).z i 2 - 1) 1 ≤ (l.getD q p0).z i 2
      have := ((PB.good hp).at' i hi).2.2.2.2.2.2.1
      omega
    · show mor _ 0 (bare ((l.getD q p0).z i)) ≤ _
      rw [bare_mor]
      exact mor_nn h (hp.t i hi)
  · refine del_le (fun _ _ => rfl) fun i hi => ?_
    show del1 _ 0 (bare ((l.getD q p0).z i)) ≤ _
    rw [bare_del]
    exact del1_nn h (hp.t i hi)
end Go.Proofs.Ytbdiekolkniajaa.Lo

namespace Go.Proofs.Ytbdiekolkniajaa.Lo
open Go.Proofs.Ytbdiekolkniajaa.De Go.Proofs.Ytbdiekolkniajaa.Su Go.Proofs.Ytbdiekolkniajaa.Dl Go.Proofs.Ytbdiekolkniajaa.Ed
set_option linter.unusedVariables false

theorem tb_more {bud b : Int} {t : Nat → Int} (h : TB bud t) (hb : bud ≤ b) : TB b t :=
  ⟨h.ok, h.l0, h.l1, h.g0, h.g4, fun hc => by have := h.n0 hc; exact ⟨this.1, Int.le_trans this.2.1 hb, this.2.2⟩, h.n1⟩
theorem pb_more {p : Pn} (h : PB p) {b : Int} (hb : p.bud ≤ b) (hb2 : b ≤ p.per) : PB ⟨p.per, b, p.n, p.z⟩ :=
  ⟨h.p1, h.p2, Int.le_trans h.b1 hb, hb2, h.n4, fun i hi => tb_more (h.t i hi) hb⟩
theorem tb_bare {bud b : Int} {t : Nat → Int} (h : TB bud t) : TB b (bare t) := by
  have h1 := tOK_iff.1 h.ok
  refine ⟨tOK_iff.2 ⟨h1.1, h1.2.1, h1.2.2.1, h1.2.2.2.1, ?_, ?_⟩, Int.le_refl _, ?_, Int.le_refl _, by show (0 : Int) ≤ 4; omega, fun hc => ?_, fun _ => ⟨rfl, rfl⟩⟩
  · show 1 ≤ max (t 2 - 1) 1; omega
  · show max (t 2 - 1) 1 ≤ t 1; omega
  · show (0 : Int) ≤ max (t 2 - 1) 1; omega
  · exact absurd (show (0 : Int) < 0 from hc) (by omega)
theorem pb_bare {p : Pn} (h : PB p) {b : Int} (hb : p.bud ≤ b) (hb2 : b ≤ p.per) : PB ⟨p.per, b, p.n, fun i => bare (p.z i)⟩ :=
  ⟨h.p1, h.p2, Int.le_trans h.b1 hb, hb2, h.n4, fun i hi => tb_bare (h.t i hi)⟩
theorem chk_one {p : Pn} (h : PB p) : chkP [p] = true := by
  unfold chkP
  rw [List.all_cons, List.all_nil, okP_iff.2 h]
  rfl
/-- what jobs that do not wait ask for, of t ticks -/
def plainN (p : Pn) (t : Nat) : Nat := sm (fun i => (p.z i 2).toNat * jobs (per p.z i) (dea p.z i) t) p.n
theorem plain_le {l : List Pn} (h : chkP l = true) {q : Nat} (hq : q < l.length) (t : Nat) : plainN (l.getD q p0) t ≤ demN l q t := by
  have hp := chkP_at h hq
  unfold plainN demN
  rw [dem_sm]
  refine sm_le fun i hi => Nat.mul_le_mul_right _ ?_
  have h1 := (PB.good hp).at' i hi
  have h2 := mor_nn h (q := q) (hp.t i hi)
  unfold askN asks
  rw [mors_at l q hi]
  omega
/-- asked for by plain jobs: no more than the supply, if the partition passes -/
theorem plain_sup {l : List Pn} (h : chkP l = true) {q : Nat} (hq : q < l.length) (hn : 0 < (l.getD q p0).n) (hp : Pass l q) (t : Nat) (ht : 0 < plainN (l.getD q p0) t) : plainN (l.getD q p0) t ≤ supN (l.getD q p0) t := by
  have h1 := plain_le h hq t
  have h2 := slk_all h hq hn hp.u hp.s t (by omega)
  have h3 := del_nn (l := l) (q := q) (t : Int) (l.getD q p0).n
  unfold slk at h2
  omega
/-- positive, and only then -/
theorem plain_pos {l : List Pn} (h : chkP l = true) {q : Nat} (hq : q < l.length) {t : Nat} (ht : 0 < demN l q t) : 0 < plainN (l.getD q p0) t := by
  rcases Nat.eq_zero_or_pos (plainN (l.getD q p0) t) with h0 | h0
  · exfalso
    have hg := PB.good (chkP_at h hq)
    have : demN l q t = 0 := by
      unfold demN
      rw [dem_sm]
      refine sm_zero fun i hi => ?_
      have h1 := sm_at (f := fun i => ((l.getD q p0).z i 2).toNat * jobs (per (l.getD q p0).z i) (dea (l.getD q p0).z i) t) hi
      unfold plainN at h0
      rw [h0] at h1
      have h2 := (hg.at' i hi).2.2.2.2.2.2.1
      have h3 : jobs (per (l.getD q p0).z i) (dea (l.getD q p0).z i) t = 0 := by
        rcases Nat.eq_zero_or_pos (jobs (per (l.getD q p0).z i) (dea (l.getD q p0).z i) t) with h4 | h4
        · exact h4
        · have := Nat.mul_pos (show 0 < ((l.getD q p0).z i 2).toNat by omega) h4
          have h5 : ((l.getD q p0).z i 2).toNat * jobs (per (l.getD q p0).z i) (dea (l.getD q p0).z i) t ≤ 0 := h1
          omega
      rw [h3, Nat.mul_zero]
    omega
  · exact h0
end Go.Proofs.Ytbdiekolkniajaa.Lo

namespace Go.Proofs.Ytbdiekolkniajaa.Lo
open Go.Proofs.Ytbdiekolkniajaa.De Go.Proofs.Ytbdiekolkniajaa.Su Go.Proofs.Ytbdiekolkniajaa.Dl Go.Proofs.Ytbdiekolkniajaa.Ed
set_option linter.unusedVariables false

theorem spaced_snoc {P b : Nat} : ∀ {r : List Nat}, Spaced P r → (∀ a ∈ r, a + P ≤ b) → Spaced P (r ++ [b])
  | [], _, _ => trivial
  | [a], _, h => ⟨h a (by simp), trivial⟩
  | a :: c :: r, hs, h => ⟨hs.1, spaced_snoc (r := c :: r) hs.2 (fun x hx => h x (List.mem_cons_of_mem _ hx))⟩
def bnd (p : Pn) (i : Nat) : Nat := (p.z i 2).toNat
structure KI (p : Pn) (run : Nat → Bool) (now : Nat) (left ends next : Nat → Nat) (rels : Nat → List Nat) : Prop where
  inv : Inv p.n (bnd p) (dea p.z) run now left ends rels
  sp : ∀ i, i < p.n → Spaced (per p.z i) (rels i)
  nx : ∀ i, i < p.n → ∀ a ∈ rels i, a + per p.z i ≤ next i
/-- at a tick's start -/
def KS (p : Pn) (run : Nat → Bool) (now : Nat) (left ends next : Nat → Nat) : Prop := ∃ rels, KI p run now left ends next rels
theorem ks_start (p : Pn) (run : Nat → Bool) {left ends next : Nat → Nat} (h : ∀ i, i < p.n → left i = 0) : KS p run 0 left ends next :=
  ⟨fun _ => [], inv_start _ _ _ _ h _, fun _ _ => trivial, fun _ _ a ha => by cases ha⟩
/-- nobody is late -/
theorem ks_in_time {p : Pn} (hp : PB p) (hn : 0 < p.n) (hq : Pass [p] 0) {run : Nat → Bool} {K now : Nat} (hr : Runs p.per.toNat p.bud.toNat run K) (hK : now ≤ K * p.per.toNat) {left ends next : Nat → Nat} (h : KS p run now left ends next)
    {k : Nat} (hk : k < p.n) (hl : 0 < left k) (he : ends k ≤ now) : False := by
  obtain ⟨rels, hi, hs, _⟩ := h
  have hg := PB.good hp
  have h1 := hp.p1
  have h2 := hp.b1
  have h3 := hp.b2
  refine in_time (sup := supN p) hi hk hl he (fun i hi => (hg.at' i hi).2.2.1) hs (fun t0 ht => ?_) (fun t _ hpos => ?_)
  · exact sound (by omega) (by omega) hr (by omega)
  · exact plain_sup (l := [p]) (q := 0) (chk_one hp) (Nat.zero_lt_one) hn hq t hpos
/-- a job is released -/
theorem ks_release {p : Pn} (hp : PB p) {run : Nat → Bool} {now : Nat} {left ends next left' ends' next' : Nat → Nat} (h : KS p run now left ends next) {k : Nat} (hk : k < p.n) (hw : next k ≤ now)
    (hl : left' k = bnd p k) (he : ends' k = now + dea p.z k) (hx : now + per p.z k ≤ next' k) (ho : ∀ i, i ≠ k → left' i = left i ∧ ends' i = ends i ∧ next' i = next i) : KS p run now left' ends' next' := by
  obtain ⟨rels, hi, hs, hn⟩ := h
  have hg := (PB.good hp).at' k hk
  refine ⟨fun i => if i = k then rels i ++ [now] else rels i, inv_release hi hk hg.2.2.2.2.1 hl he (by simp) (fun i hne => ⟨(ho i hne).1, (ho i hne).2.1, by simp [hne]⟩), fun i hin => ?_, fun i hin a ha => ?_⟩
  · show Spaced _ (if i = k then rels i ++ [now] else rels i)
    split
    · rename_i e
      subst e
      exact spaced_snoc (hs i hin) (fun a ha => Nat.le_trans (hn i hin a ha) hw)
    · exact hs i hin
  · have ha : a ∈ (if i = k then rels i ++ [now] else rels i) := ha
    by_cases e : i = k
    · subst e
      rw [if_pos rfl, List.mem_append, List.mem_singleton] at ha
      rcases ha with ha | rfl
      · have := hn i hin a ha; omega
      · exact hx
    · rw [if_neg e] at ha
      rw [(ho i e).2.2]
      exact hn i hin a ha
theorem ks_idle {p : Pn} {run : Nat → Bool} {now : Nat} {left ends next : Nat → Nat} (h : KS p run now left ends next) (hr : run now = false) : KS p run (now + 1) left ends next := by
  obtain ⟨rels, hi, hs, hn⟩ := h
  exact ⟨rels, inv_idle hi hr, hs, hn⟩
theorem ks_none {p : Pn} {run : Nat → Bool} {now : Nat} {left ends next : Nat → Nat} (h : KS p run now left ends next) (hz : ∀ i, i < p.n → left i = 0) : KS p run (now + 1) left ends next := by
  obtain ⟨rels, hi, hs, hn⟩ := h
  exact ⟨rels, inv_none hz, hs, hn⟩
theorem ks_run {p : Pn} {run : Nat → Bool} {now : Nat} {left ends next left' : Nat → Nat} (h : KS p run now left ends next) {k : Nat} (hk : k < p.n) (hp : 0 < left k) (hm : ∀ i, i < p.n → 0 < left i → ends k ≤ ends i)
    (hl : left' k = left k - 1) (ho : ∀ i, i ≠ k → left' i = left i) : KS p run (now + 1) left' ends next := by
  obtain ⟨rels, hi, hs, hn⟩ := h
  exact ⟨rels, inv_run hi hk hp hm hl ho, hs, hn⟩
end Go.Proofs.Ytbdiekolkniajaa.Lo

namespace Go.Proofs.Ytbdiekolkniajaa.Lo
open Go.Proofs.Ytbdiekolkniajaa.De Go.Proofs.Ytbdiekolkniajaa.Su Go.Proofs.Ytbdiekolkniajaa.Dl Go.Proofs.Ytbdiekolkniajaa.Ed
set_option linter.unusedVariables false

/-- the first of n numbers from t on, 0 if there is none -/
def seek (f : Nat → Bool) (t : Nat) : Nat → Nat
  | 0 => 0
  | n + 1 => if f t then t else seek f (t + 1) n
theorem seek_none {f : Nat → Bool} : ∀ {n t : Nat}, (∀ u, t ≤ u → u < t + n → f u = false) → seek f t n = 0
  | 0, _, _ => rfl
  | n + 1, t, h => by
    unfold seek
    rw [h t (Nat.le_refl _) (by omega)]
    exact seek_none fun u h1 h2 => h u (by omega) (by omega)
theorem seek_zero {f : Nat → Bool} : ∀ {n t : Nat}, 0 < t → seek f t n = 0 → ∀ u, t ≤ u → u < t + n → f u = false
  | 0, _, _, _, u, h1, h2 => by omega
  | n + 1, t, ht, h, u, h1, h2 => by
    unfold seek at h
    cases hc : f t with
    | true => rw [hc, if_pos rfl] at h; omega
    | false =>
      rw [hc] at h
      by_cases e : u = t
      · rw [e]; exact hc
      · exact seek_zero (by omega) h u (by omega) (by omega)
theorem seek_at {f : Nat → Bool} : ∀ {n t m : Nat}, m ≤ n → (∀ u, t ≤ u → u < t + m → f u = false) → seek f t n = seek f (t + m) (n - m)
  | n, t, 0, _, _ => rfl
  | 0, t, m + 1, h, _ => by omega
  | n + 1, t, m + 1, h, hf => by
    rw [show seek f t (n + 1) = if f t then t else seek f (t + 1) n from rfl, hf t (Nat.le_refl _) (by omega)]
    rw [if_neg (by simp), seek_at (by omega) (m := m) (fun u h1 h2 => hf u (by omega) (by omega)), show t + 1 + m = t + (m + 1) by omega, show n + 1 - (m + 1) = n - m by omega]
/-- a number of ticks that the test finds -/
def bad (l : List Pn) (q t : Nat) : Bool := decide (0 < demN l q t) && decide (slk l q t < 0)
def firstBad (l : List Pn) (q : Nat) : Nat := seek (bad l q) 1 (endN l q)
def slR (l : List Pn) (q t : Int) : Int × Int :=
  if chkP l then (if 0 ≤ q ∧ q < l.length then (if 0 ≤ t ∧ t ≤ 1048576 then (slk l q.toNat t.toNat, 0) else (0, 2)) else (0, 9)) else (0, 2)
/-- of one that is there, and has tasks -/
def teN (l : List Pn) (q : Nat) : Int × Int :=
  if hyp l q ≤ 4096 then (if useN l q ≤ hyp l q / (l.getD q p0).per.toNat * (l.getD q p0).bud.toNat then (if firstBad l q = 0 then (0, 0) else ((firstBad l q : Nat), 120)) else (0, 120)) else (0, 5)
def teR (l : List Pn) (q : Int) : Int × Int :=
  if chkP l then (if 0 ≤ q ∧ q < l.length then (if (l.getD q.toNat p0).n = 0 then (0, 0) else teN l q.toNat) else (0, 9)) else (0, 2)
theorem firstBad_zero {l : List Pn} {q : Nat} : firstBad l q = 0 ↔ ∀ t, 1 ≤ t → t ≤ endN l q → 0 < demN l q t → 0 ≤ slk l q t := by
  constructor
  · intro h t h1 h2 h3
    have := seek_zero (by decide) h t h1 (by omega)
    unfold bad at this
    rw [decide_eq_true h3, Bool.true_and, decide_eq_false_iff_not] at this
    omega
  · intro h
    refine seek_none fun t h1 h2 => ?_
    unfold bad
    by_cases h3 : 0 < demN l q t
    · have h4 : ¬ slk l q t < 0 := by have := h t h1 (by omega) h3; omega
      rw [decide_eq_false h4, Bool.and_false]
    · rw [decide_eq_false h3, Bool.false_and]
theorem teN_ok {l : List Pn} {q : Nat} : (teN l q).2 = 0 ↔ Pass l q := by
  unfold teN
  constructor
  · intro h
    split at h
    · rename_i h1
      split at h
      · rename_i h2
        split at h
        · rename_i h3
          exact ⟨h1, h2, firstBad_zero.1 h3⟩
        · cases h
      · cases h
    · cases h
  · intro h
    rw [if_pos h.h, if_pos h.u, if_pos (firstBad_zero.2 h.s)]
theorem teN_no {l : List Pn} {q : Nat} (h : (teN l q).2 ≠ 0) : (teN l q).2 = 120 ∨ (teN l q).2 = 5 := by
  unfold teN at h ⊢
  split
  · rename_i h1
    rw [if_pos h1] at h
    split
    · rename_i h2
      rw [if_pos h2] at h
      split
      · rename_i h3
        rw [if_pos h3] at h
        exact absurd rfl h
      · exact Or.inl rfl
    · exact Or.inl rfl
  · exact Or.inr rfl
/-- the chapter's examples -/
def eP (l : List (List Int)) : Pn := ⟨5, 2, l.length, fun i j => (l.getD i []).getD j 0⟩
example : slR [eP [[20, 12, 2, 0, 0, 0, 0, 0]]] 0 11 = (2, 0) := by decide +kernel
example : slR [eP [[20, 12, 2, 0, 0, 0, 0, 0]]] 0 12 = (1, 0) := by decide +kernel
example : teR [eP [[20, 12, 2, 0, 0, 0, 0, 0]]] 0 = (0, 0) := by decide +kernel
example : teR [eP [[20, 12, 4, 0, 0, 0, 0, 0]]] 0 = (12, 120) := by decide +kernel
example : teR [eP [[20, 12, 2, 0, 0, 0, 0, 0], [5, 5, 2, 0, 0, 0, 0, 0]]] 0 = (0, 120) := by decide +kernel
end Go.Proofs.Ytbdiekolkniajaa.Lo

namespace Go.Proofs.Ytbdiekolkniajaa.Sh
open Go.Proofs.Ytbdiekolkniajaa.De Go.Proofs.Ytbdiekolkniajaa.Su Go.Proofs.Ytbdiekolkniajaa.Dl Go.Proofs.Ytbdiekolkniajaa.Ed Go.Proofs.Ytbdiekolkniajaa.Lo
set_option linter.unusedVariables false

/-- a fraction in lowest terms -/
def low (t b : Nat) : Nat × Nat := (t / Nat.gcd t b, b / Nat.gcd t b)
/-- the sum of the first n -/
def sumF (B P : Nat → Nat) : Nat → Nat × Nat
  | 0 => (0, 1)
  | n + 1 => low ((sumF B P n).1 * P n + B n * (sumF B P n).2) ((sumF B P n).2 * P n)
theorem low_pos {t b : Nat} (h : 0 < b) : 0 < (low t b).2 := Nat.div_pos (Nat.le_of_dvd h (Nat.gcd_dvd_right t b)) (Nat.gcd_pos_of_pos_right t h)
theorem low_co {t b : Nat} (h : 0 < b) : Nat.Coprime (low t b).1 (low t b).2 := Nat.coprime_div_gcd_div_gcd (Nat.gcd_pos_of_pos_right t h)
/-- what a fraction is of M, if that is a whole number -/
theorem low_of {t b M s : Nat} (hb : 0 < b) (h : t * M = b * s) : (low t b).2 ∣ M ∧ (low t b).1 * (M / (low t b).2) = s := by
  have hg := Nat.gcd_pos_of_pos_right t hb
  have h1 : (low t b).1 * Nat.gcd t b = t := Nat.div_mul_cancel (Nat.gcd_dvd_left t b)
  have h2 : (low t b).2 * Nat.gcd t b = b := Nat.div_mul_cancel (Nat.gcd_dvd_right t b)
  have h3 : (low t b).1 * M = (low t b).2 * s := by
    refine Nat.eq_of_mul_eq_mul_left hg ?_
    rw [← Nat.mul_assoc, ← Nat.mul_assoc, Nat.mul_comm _ (low t b).1, Nat.mul_comm _ (low t b).2, h1, h2, h]
  have h4 : (low t b).2 ∣ M := (low_co hb).symm.dvd_of_dvd_mul_left ⟨s, h3⟩
  refine ⟨h4, ?_⟩
  obtain ⟨c, hc⟩ := h4
  rw [hc, Nat.mul_div_cancel_left _ (low_pos hb)]
  refine Nat.eq_of_mul_eq_mul_left (low_pos (t := t) hb) ?_
  rw [← h3]
  conv => rhs; rw [hc]
  rw [Nat.mul_left_comm]
theorem sumF_pos {B P : Nat → Nat} : ∀ {n : Nat}, (∀ i, i < n → 0 < P i) → 0 < (sumF B P n).2
  | 0, _ => Nat.zero_lt_one
  | n + 1, h => low_pos (Nat.mul_pos (sumF_pos fun i hi => h i (by omega)) (h n (by omega)))
theorem sumF_of {B P : Nat → Nat} {M : Nat} : ∀ {n : Nat}, (∀ i, i < n → 0 < P i) → (∀ i, i < n → P i ∣ M) → (sumF B P n).2 ∣ M ∧ (sumF B P n).1 * (M / (sumF B P n).2) = sm (fun i => B i * (M / P i)) n
  | 0, _, _ => ⟨Nat.one_dvd _, by simp [sumF, sm]⟩
  | n + 1, hP, hd => by
    obtain ⟨h1, h2⟩ := sumF_of (B := B) (n := n) (fun i hi => hP i (by omega)) (fun i hi => hd i (by omega))
    have h3 := sumF_pos (B := B) (P := P) (n := n) (fun i hi => hP i (by omega))
    have h4 := hP n (by omega)
    obtain ⟨c, hc⟩ := h1
    obtain ⟨e, he⟩ := hd n (by omega)
    refine low_of (Nat.mul_pos h3 h4) ?_
    show _ = _ * (sm (fun i => B i * (M / P i)) n + B n * (M / P n))
    rw [← h2]
    have e1 : M / (sumF B P n).2 = c := by rw [hc, Nat.mul_div_cancel_left _ h3]
    have e2 : M / P n = e := by rw [he, Nat.mul_div_cancel_left _ h4]
    rw [e1, e2, Nat.add_mul, Nat.mul_add]
    congr 1
    · clear e1 h2; rw [hc]; ac_rfl
    · clear e2; rw [he]; ac_rfl
/-- at most 1 -/
theorem sumF_le {B P : Nat → Nat} {M n : Nat} (hM : 0 < M) (hP : ∀ i, i < n → 0 < P i) (hd : ∀ i, i < n → P i ∣ M) : (sumF B P n).1 ≤ (sumF B P n).2 ↔ sm (fun i => B i * (M / P i)) n ≤ M := by
  obtain ⟨⟨c, hc⟩, h2⟩ := sumF_of (B := B) hP hd
  have h3 := sumF_pos (B := B) hP
  have e1 : M / (sumF B P n).2 = c := by conv => lhs; rw [hc]; rw [Nat.mul_div_cancel_left _ h3]
  rw [e1] at h2
  have hc0 : 0 < c := Nat.pos_of_ne_zero fun h => by rw [h, Nat.mul_zero] at hc; omega
  rw [← h2]
  conv => rhs; rhs; rw [hc]
  exact ⟨fun h => Nat.mul_le_mul_right _ h, fun h => Nat.le_of_mul_le_mul_right h hc0⟩
/-- servers, as tasks whose Deadline is their Period -/
def srv (n : Nat) (P B : Nat → Nat) : Pn := ⟨1, 1, n, fun i j => match j with | 0 => P i | 1 => P i | 2 => B i | _ => 0⟩
theorem srv_pb {n : Nat} {P B : Nat → Nat} (hn : n ≤ 4) (h : ∀ i, i < n → 1 ≤ P i ∧ P i ≤ 64 ∧ 1 ≤ B i ∧ B i ≤ P i) : PB (srv n P B) := by
  refine ⟨Int.le_refl _, by show (1 : Int) ≤ 64; omega, Int.le_refl _, Int.le_refl _, hn, fun i hi => ?_⟩
  obtain ⟨h1, h2, h3, h4⟩ := h i hi
  refine ⟨tOK_iff.2 ⟨?_, ?_, ?_, Int.le_refl _, ?_, ?_⟩, Int.le_refl _, ?_, Int.le_refl _, by show (0 : Int) ≤ 4; omega, fun hc => absurd (show (0 : Int) < 0 from hc) (by omega), fun _ => ⟨rfl, rfl⟩⟩
  · show (1 : Int) ≤ P i; omega
  · show (P i : Int) ≤ 64; omega
  · show (1 : Int) ≤ P i; omega
  · show (1 : Int) ≤ B i; omega
  · show (B i : Int) ≤ P i; omega
  · show (0 : Int) ≤ B i; omega
def alw : Nat → Bool := fun _ => true
theorem cnt_alw (a : Nat) : ∀ n, cnt alw a n = n
  | 0 => rfl
  | n + 1 => by unfold cnt; rw [cnt_alw a n]; rfl
/-- no server is late, if they share 1 at most -/
theorem sv_in_time {n : Nat} {P B : Nat → Nat} {M : Nat} (hM : 0 < M) (hP : ∀ i, i < n → 0 < P i) (hd : ∀ i, i < n → P i ∣ M) (hs : sm (fun i => B i * (M / P i)) n ≤ M) {now : Nat} {left ends next : Nat → Nat} (h : KS (srv n P B) alw now left ends next)
    {k : Nat} (hk : k < n) (hl : 0 < left k) (he : ends k ≤ now) : False := by
  obtain ⟨rels, hi, hsp, _⟩ := h
  refine in_time (P := per (srv n P B).z) (sup := fun t => t) hi hk hl he (fun i hi => hP i hi) hsp (fun t0 ht => ?_) (fun t _ _ => ?_)
  · rw [cnt_alw]; exact Nat.le_refl _
  · exact share_dem hM hP hd hs t
end Go.Proofs.Ytbdiekolkniajaa.Sh

namespace Go.Proofs.Ytbdiekolkniajaa.Sh
open Go.Proofs.Ytbdiekolkniajaa.De Go.Proofs.Ytbdiekolkniajaa.Su Go.Proofs.Ytbdiekolkniajaa.Dl Go.Proofs.Ytbdiekolkniajaa.Ed Go.Proofs.Ytbdiekolkniajaa.Lo
set_option linter.unusedVariables false

/-- what was asked for is left, or was run -/
def EI (n : Nat) (B : Nat → Nat) (now : Nat) (left rel : Nat → Nat) : Prop := sm (fun i => B i * rel i) n ≤ sm left n + now
theorem ei_start (n : Nat) (B left : Nat → Nat) : EI n B 0 left (fun _ => 0) := by
  unfold EI
  rw [sm_zero (fun i _ => Nat.mul_zero _)]
  exact Nat.zero_le _
theorem ei_release {n : Nat} {B : Nat → Nat} {now : Nat} {left rel left' rel' : Nat → Nat} (h : EI n B now left rel) {k : Nat} (hk : k < n) (h0 : left k = 0) (hl : left' k = B k) (hr : rel' k = rel k + 1)
    (ho : ∀ i, i ≠ k → left' i = left i ∧ rel' i = rel i) : EI n B now left' rel' := by
  unfold EI at h ⊢
  have e1 := sm_one (f := left') (g := left) (k := k) (fun i hi => (ho i hi).1) hk
  have e2 := sm_one (f := fun i => B i * rel' i) (g := fun i => B i * rel i) (k := k) (fun i hi => by simp only [(ho i hi).2]) hk
  simp only [hr, Nat.mul_add, Nat.mul_one] at e2
  omega
theorem ei_run {n : Nat} {B : Nat → Nat} {now : Nat} {left rel left' : Nat → Nat} (h : EI n B now left rel) {k : Nat} (hk : k < n) (hp : 0 < left k) (hl : left' k = left k - 1) (ho : ∀ i, i ≠ k → left' i = left i) : EI n B (now + 1) left' rel := by
  unfold EI at h ⊢
  have e1 := sm_one (f := left') (g := left) (k := k) ho hk
  omega
theorem ei_none {n : Nat} {B : Nat → Nat} {now : Nat} {left rel : Nat → Nat} (h : EI n B now left rel) : EI n B (now + 1) left rel := by
  unfold EI at h ⊢
  omega
/-- at a common multiple of the periods something is left -/
theorem ei_late {n : Nat} {B P : Nat → Nat} {M : Nat} {left rel : Nat → Nat} (h : EI n B M left rel) (hr : ∀ i, i < n → rel i = M / P i) (hs : M < sm (fun i => B i * (M / P i)) n) : ∃ i, i < n ∧ 0 < left i := by
  apply Decidable.byContradiction
  intro hn
  have h0 : sm left n = 0 := sm_zero fun i hi => Nat.eq_zero_of_not_pos fun hc => hn ⟨i, hi, hc⟩
  have h1 : sm (fun i => B i * rel i) n = sm (fun i => B i * (M / P i)) n := sm_congr fun i hi => by rw [hr i hi]
  unfold EI at h
  omega
end Go.Proofs.Ytbdiekolkniajaa.Sh

namespace Go.Proofs.Ytbdiekolkniajaa.Sh
open Go.Proofs.Ytbdiekolkniajaa.De Go.Proofs.Ytbdiekolkniajaa.Su Go.Proofs.Ytbdiekolkniajaa.Dl Go.Proofs.Ytbdiekolkniajaa.Ed Go.Proofs.Ytbdiekolkniajaa.Lo
set_option linter.unusedVariables false

def upd (f : Nat → Nat) (k x : Nat) : Nat → Nat := fun i => if i = k then x else f i
theorem upd_at (f : Nat → Nat) (k x : Nat) : upd f k x k = x := if_pos rfl
theorem upd_ne (f : Nat → Nat) {k i : Nat} (x : Nat) (h : i ≠ k) : upd f k x i = f i := if_neg h
/-- so many beginnings of periods ahead of a tick -/
def cl (P t : Nat) : Nat := (t + P - 1) / P
theorem cl_rel {P t : Nat} (hP : 0 < P) (h : t % P = 0) : cl P t = t / P ∧ cl P (t + 1) = t / P + 1 := by
  obtain ⟨q, hq⟩ := Nat.dvd_of_mod_eq_zero h
  subst hq
  unfold cl
  rw [Nat.mul_div_cancel_left _ hP]
  constructor
  · rw [Nat.add_sub_assoc (by omega), Nat.mul_add_div hP, Nat.div_eq_of_lt (by omega), Nat.add_zero]
  · rw [show P * q + 1 + P - 1 = P * q + P * 1 by omega, ← Nat.mul_add, Nat.mul_div_cancel_left _ hP]
theorem cl_not {P t : Nat} (hP : 0 < P) (h : t % P ≠ 0) : cl P (t + 1) = cl P t := by
  have h1 := Nat.div_add_mod t P
  have h2 := Nat.mod_lt t hP
  generalize t / P = q at *
  generalize t % P = r at *
  subst h1
  unfold cl
  rw [show P * q + r + 1 + P - 1 = P * q + (P + r) by omega, show P * q + r + P - 1 = P * q + (P + (r - 1)) by omega, Nat.mul_add_div hP, Nat.mul_add_div hP, Nat.add_div_left _ hP, Nat.add_div_left _ hP, Nat.div_eq_of_lt h2, Nat.div_eq_of_lt (by omega)]
/-- the next beginning of a period, not ahead of a tick -/
def nxt (b P t : Nat) : Nat := if t ≤ b then b else b + cl P (t - b) * P
theorem nxt_rel {b P t : Nat} (hP : 0 < P) (hb : b ≤ t) (h : (t - b) % P = 0) : nxt b P t = t ∧ nxt b P (t + 1) = t + P := by
  obtain ⟨h1, h2⟩ := cl_rel hP h
  have h3 : (t - b) / P * P = t - b := Nat.div_mul_cancel (Nat.dvd_of_mod_eq_zero h)
  constructor
  · unfold nxt
    split
    · omega
    · rw [h1, h3]; omega
  · unfold nxt
    rw [if_neg (by omega), show t + 1 - b = (t - b) + 1 by omega, h2, Nat.add_mul, h3]
    omega
theorem nxt_not {b P t : Nat} (hP : 0 < P) (hb : b ≤ t) (h : (t - b) % P ≠ 0) : nxt b P (t + 1) = nxt b P t := by
  have hne : t ≠ b := fun e => by subst e; rw [Nat.sub_self, Nat.zero_mod] at h; exact h rfl
  unfold nxt
  rw [if_neg (by omega), if_neg (by omega), show t + 1 - b = (t - b) + 1 by omega, cl_not hP h]
theorem nxt_ahead {b P t : Nat} (hb : t < b) : nxt b P (t + 1) = nxt b P t := by
  unfold nxt
  rw [if_pos (by omega), if_pos (by omega)]
theorem ks_next {p : Pn} {run : Nat → Bool} {now : Nat} {left ends next next' : Nat → Nat} (h : KS p run now left ends next) (hn : ∀ i, i < p.n → next i = next' i) : KS p run now left ends next' := by
  obtain ⟨rels, hi, hs, hx⟩ := h
  exact ⟨rels, hi, hs, fun i hi' a ha => by rw [← hn i hi']; exact hx i hi' a ha⟩
/-- in a tick, the first j are looked at -/
def tj (j t i : Nat) : Nat := if i < j then t + 1 else t
theorem tj_ne {j t i : Nat} (h : i ≠ j) : tj (j + 1) t i = tj j t i := by
  unfold tj
  by_cases h1 : i < j
  · rw [if_pos h1, if_pos (by omega)]
  · rw [if_neg h1, if_neg (by omega)]
theorem tj_at (j t : Nat) : tj j t j = t ∧ tj (j + 1) t j = t + 1 := ⟨if_neg (by omega), if_pos (by omega)⟩
structure KM (n : Nat) (P B b : Nat → Nat) (t j : Nat) (l e : Nat → Nat) : Prop where
  ks : KS (srv n P B) alw t l e (fun i => nxt (b i) (P i) (tj j t i))
  en : ∀ i, i < n → 0 < l i → e i = nxt (b i) (P i) (tj j t i)
  nb : ∀ i, i < n → t < b i → l i = 0
  bd : ∀ i, i < n → l i ≤ 64 ∧ e i ≤ t + 64
theorem km_start (n : Nat) (P B b : Nat → Nat) : KM n P B b 0 0 (fun _ => 0) (fun _ => 0) :=
  ⟨ks_start _ _ fun _ _ => rfl, fun i _ h => absurd h (by decide), fun _ _ _ => rfl, fun _ _ => ⟨Nat.zero_le _, Nat.zero_le _⟩⟩
section
variable {n : Nat} {P B b : Nat → Nat} {t j : Nat} {l e : Nat → Nat}
theorem km_same (h : KM n P B b t j l e) (hs : nxt (b j) (P j) (t + 1) = nxt (b j) (P j) t) : KM n P B b t (j + 1) l e := by
  have key : ∀ i, nxt (b i) (P i) (tj j t i) = nxt (b i) (P i) (tj (j + 1) t i) := fun i => by
    by_cases hi : i = j
    · rw [hi, (tj_at j t).1, (tj_at j t).2, hs]
    · rw [tj_ne hi]
  exact ⟨ks_next h.ks fun i _ => key i, fun i hi hl => by rw [h.en i hi hl, key], h.nb, h.bd⟩
theorem km_rel (hP : ∀ i, i < n → 1 ≤ P i ∧ P i ≤ 64 ∧ 1 ≤ B i ∧ B i ≤ P i) (hn : n ≤ 4) (h : KM n P B b t j l e) (hj : j < n) (hb : b j ≤ t) (hm : (t - b j) % P j = 0) : KM n P B b t (j + 1) (upd l j (B j)) (upd e j (t + P j)) := by
  obtain ⟨p1, p2, p3, p4⟩ := hP j hj
  obtain ⟨x1, x2⟩ := nxt_rel (P := P j) p1 hb hm
  refine ⟨ks_release (k := j) (srv_pb hn hP) h.ks hj ?_ (upd_at _ _ _) ?_ ?_ (fun i hi => ⟨upd_ne _ _ hi, upd_ne _ _ hi, ?_⟩), fun i hi hl => ?_, fun i hi hlt => ?_, fun i hi => ?_⟩
  · show nxt (b j) (P j) (tj j t j) ≤ t
    rw [(tj_at j t).1, x1]; exact Nat.le_refl _
  · rw [upd_at]; rfl
  · show t + P j ≤ nxt (b j) (P j) (tj (j + 1) t j)
    rw [(tj_at j t).2, x2]; exact Nat.le_refl _
  · show nxt (b i) (P i) (tj (j + 1) t i) = nxt (b i) (P i) (tj j t i)
    rw [tj_ne hi]
  · by_cases e' : i = j
    · rw [e', upd_at, (tj_at j t).2, x2]
    · rw [upd_ne _ _ e'] at hl ⊢
      rw [h.en i hi hl, tj_ne e']
  · by_cases e' : i = j
    · rw [e'] at hlt; omega
    · rw [upd_ne _ _ e']; exact h.nb i hi hlt
  · have := h.bd i hi
    unfold upd
    split
    · omega
    · exact this
theorem km_late (hP : ∀ i, i < n → 1 ≤ P i ∧ P i ≤ 64 ∧ 1 ≤ B i ∧ B i ≤ P i) {M : Nat} (hM : 0 < M) (hd : ∀ i, i < n → P i ∣ M) (hs : sm (fun i => B i * (M / P i)) n ≤ M) (h : KM n P B b t j l e) (hj : j < n) (hb : b j ≤ t) (hm : (t - b j) % P j = 0) (hl : 0 < l j) : False := by
  have hx := (nxt_rel (P := P j) (hP j hj).1 hb hm).1
  refine sv_in_time hM (fun i hi => (hP i hi).1) hd hs h.ks hj hl ?_
  rw [h.en j hj hl, (tj_at j t).1, hx]
  exact Nat.le_refl _
theorem tj_end {i : Nat} (hi : i < n) : tj n t i = tj 0 (t + 1) i := by unfold tj; rw [if_pos hi, if_neg (by omega)]
theorem km_run (h : KM n P B b t n l e) {k : Nat} (hk : k < n) (hl : 0 < l k) (hm : ∀ i, i < n → 0 < l i → e k ≤ e i) : KM n P B b (t + 1) 0 (upd l k (l k - 1)) e := by
  refine ⟨ks_next (ks_run (k := k) h.ks hk hl hm (upd_at _ _ _) (fun i hi => upd_ne _ _ hi)) (fun i (hi : i < n) => by rw [tj_end hi]), fun i hi hl' => ?_, fun i hi hlt => ?_, fun i hi => ?_⟩
  · have h1 : 0 < l i := by
      unfold upd at hl'
      split at hl'
      · rename_i e'; rw [e']; omega
      · exact hl'
    rw [h.en i hi h1, tj_end hi]
  · have h1 := h.nb i hi (by omega)
    unfold upd
    split
    · rename_i e'; rw [e'] at h1; omega
    · exact h1
  · have := h.bd i hi
    have h2 := h.bd k hk
    unfold upd
    split <;> omega
theorem km_none (h : KM n P B b t n l e) (hz : ∀ i, i < n → l i = 0) : KM n P B b (t + 1) 0 l e :=
  ⟨ks_next (ks_none h.ks hz) (fun i (hi : i < n) => by rw [tj_end hi]), fun i hi hl => by rw [hz i hi] at hl; omega, fun i hi _ => hz i hi, fun i hi => by have := h.bd i hi; omega⟩
/-- those that begin at once: what was asked for is left, or was run -/
structure EM (n : Nat) (P B : Nat → Nat) (t j : Nat) (l l0 : Nat → Nat) : Prop where
  ei : EI n B t l (fun i => cl (P i) (tj j t i))
  s0 : EI n B t l0 (fun i => cl (P i) t)
  un : ∀ i, i < n → j ≤ i → l i = l0 i
  dn : ∀ i, i < n → i < j → t % P i = 0 → l0 i = 0
theorem em_of (h : EI n B t l (fun i => cl (P i) t)) : EM n P B t 0 l l :=
  ⟨by have e : (fun i => cl (P i) (tj 0 t i)) = (fun i => cl (P i) t) := by funext i; unfold tj; rw [if_neg (by omega)]
      rw [e]; exact h, h, fun _ _ _ => rfl, fun _ _ h => by omega⟩
theorem em_start (n : Nat) (P B : Nat → Nat) (hP : ∀ i, i < n → 1 ≤ P i) : EI n B 0 (fun _ => 0) (fun i => cl (P i) 0) := by
  unfold EI
  rw [sm_zero (n := n) (fun i hi => by
    have := hP i hi
    show B i * ((0 + P i - 1) / P i) = 0
    rw [Nat.div_eq_of_lt (by omega), Nat.mul_zero])]
  exact Nat.zero_le _
theorem ei_congr {rel rel' : Nat → Nat} (h : EI n B t l rel) (he : ∀ i, i < n → rel i = rel' i) : EI n B t l rel' := by
  unfold EI at h ⊢
  rw [← sm_congr (f := fun i => B i * rel i) fun i hi => by rw [he i hi]]
  exact h
theorem em_not {l0 : Nat → Nat} (hP : ∀ i, i < n → 1 ≤ P i) (h : EM n P B t j l l0) (hj : j < n) (hm : t % P j ≠ 0) : EM n P B t (j + 1) l l0 := by
  refine ⟨ei_congr h.ei fun i hi => ?_, h.s0, fun i hi hji => h.un i hi (by omega), fun i hi hij hmi => ?_⟩
  · by_cases e' : i = j
    · rw [e', (tj_at j t).1, (tj_at j t).2, cl_not (hP j hj) hm]
    · rw [tj_ne e']
  · by_cases e' : i = j
    · rw [e'] at hmi; exact absurd hmi hm
    · exact h.dn i hi (by omega) hmi
theorem em_rel {l0 : Nat → Nat} (hP : ∀ i, i < n → 1 ≤ P i) (h : EM n P B t j l l0) (hj : j < n) (hm : t % P j = 0) (hl : l j = 0) : EM n P B t (j + 1) (upd l j (B j)) l0 := by
  obtain ⟨c1, c2⟩ := cl_rel (hP j hj) hm
  refine ⟨ei_release (k := j) h.ei hj hl (upd_at _ _ _) ?_ (fun i hi => ⟨upd_ne _ _ hi, ?_⟩), h.s0, fun i hi hji => ?_, fun i hi hij hmi => ?_⟩
  · show cl (P j) (tj (j + 1) t j) = cl (P j) (tj j t j) + 1
    rw [(tj_at j t).1, (tj_at j t).2, c1, c2]
  · show cl (P i) (tj (j + 1) t i) = cl (P i) (tj j t i)
    rw [tj_ne hi]
  · rw [upd_ne _ _ (by omega)]; exact h.un i hi (by omega)
  · by_cases e' : i = j
    · rw [e', ← h.un j hj (Nat.le_refl _)]; exact hl
    · exact h.dn i hi (by omega) hmi
theorem em_end {l0 : Nat → Nat} (h : EM n P B t n l l0) : EI n B t l (fun i => cl (P i) (t + 1)) := ei_congr h.ei fun i hi => by unfold tj; rw [if_pos hi]
/-- at a common multiple the tick does not come to its end, if they share more than 1 -/
theorem em_late {l0 : Nat → Nat} {M : Nat} (hP : ∀ i, i < n → 1 ≤ P i) (hd : ∀ i, i < n → P i ∣ M) (hs : M < sm (fun i => B i * (M / P i)) n) (h : EM n P B M n l l0) : False := by
  have hmod : ∀ i, i < n → M % P i = 0 := fun i hi => Nat.mod_eq_zero_of_dvd (hd i hi)
  obtain ⟨i, hi, hl⟩ := ei_late (P := P) h.s0 (fun i hi => (cl_rel (hP i hi) (hmod i hi)).1) hs
  have := h.dn i hi hi (hmod i hi)
  omega
end
/-- the one whose end is nearest, of the first i: none with ticks left (-1), or one -/
def Near (l e : Nat → Nat) (i : Nat) (k : Int) : Prop := (k = -1 ∧ ∀ j, j < i → l j = 0) ∨ ∃ m : Nat, k = m ∧ m < i ∧ 0 < l m ∧ ∀ j, j < i → 0 < l j → e m ≤ e j
theorem near_start (l e : Nat → Nat) : Near l e 0 (-1) := Or.inl ⟨rfl, fun j hj => by omega⟩
theorem near_upd {l e : Nat → Nat} {i : Nat} {k : Int} (h : Near l e i k) (a c : Nat) : Near (upd l i a) (upd e i c) i k := by
  rcases h with ⟨rfl, h⟩ | ⟨m, rfl, h1, h2, h3⟩
  · exact Or.inl ⟨rfl, fun j hj => by rw [upd_ne _ _ (by omega)]; exact h j hj⟩
  · refine Or.inr ⟨m, rfl, h1, by rw [upd_ne _ _ (by omega)]; exact h2, fun j hj hl => ?_⟩
    rw [upd_ne _ _ (by omega)] at hl
    rw [upd_ne _ _ (by omega), upd_ne _ _ (by omega)]
    exact h3 j hj hl
theorem near_zero {l e : Nat → Nat} {i : Nat} {k : Int} (h : Near l e i k) (h0 : l i = 0) : Near l e (i + 1) k := by
  rcases h with ⟨rfl, h⟩ | ⟨m, rfl, h1, h2, h3⟩
  · refine Or.inl ⟨rfl, fun j hj => ?_⟩
    by_cases e' : j = i
    · rw [e']; exact h0
    · exact h j (by omega)
  · refine Or.inr ⟨m, rfl, by omega, h2, fun j hj hl => ?_⟩
    by_cases e' : j = i
    · rw [e', h0] at hl; omega
    · exact h3 j (by omega) hl
theorem near_keep {l e : Nat → Nat} {i m : Nat} (h : Near l e i (m : Int)) (h0 : e m ≤ e i) : Near l e (i + 1) (m : Int) := by
  rcases h with ⟨h, _⟩ | ⟨m', h, h1, h2, h3⟩
  · omega
  · obtain rfl : m = m' := by omega
    refine Or.inr ⟨m, rfl, by omega, h2, fun j hj hl => ?_⟩
    by_cases e' : j = i
    · rw [e']; exact h0
    · exact h3 j (by omega) hl
theorem near_take {l e : Nat → Nat} {i : Nat} {k : Int} (h : Near l e i k) (h0 : 0 < l i) (hk : k = -1 ∨ ∃ m : Nat, k = m ∧ e i < e m) : Near l e (i + 1) (i : Int) := by
  refine Or.inr ⟨i, rfl, by omega, h0, fun j hj hl => ?_⟩
  by_cases e' : j = i
  · rw [e']; exact Nat.le_refl _
  · rcases h with ⟨rfl, h⟩ | ⟨m, rfl, h1, h2, h3⟩
    · have := h j (by omega); omega
    · have h4 := h3 j (by omega) hl
      rcases hk with hk | ⟨m', hm, h5⟩
      · omega
      · obtain rfl : m = m' := by omega
        omega
end Go.Proofs.Ytbdiekolkniajaa.Sh

namespace Go.Proofs.Ytbdiekolkniajaa.Su
set_option linter.unusedVariables false

/-- the wait for n, of a period P and an idle rest I -/
def wt (P I n : Nat) : Nat := if n = 0 then 0 else n + ((n - 1) / (P - I) + 2) * I
theorem wt_form {P B n : Nat} (hB0 : 0 < B) (hB : B ≤ P) (hn : 0 < n) : ∃ q r, r < B ∧ n = q * B + r + 1 ∧ wt P (P - B) n = (P - B) + (q * P + (r + 1 + (P - B))) := by
  refine ⟨(n - 1) / B, (n - 1) % B, Nat.mod_lt _ hB0, ?_, ?_⟩
  · have := Nat.div_add_mod (n - 1) B
    rw [Nat.mul_comm] at this
    omega
  · unfold wt
    rw [if_neg (by omega), show P - (P - B) = B by omega]
    have h1 := Nat.div_add_mod (n - 1) B
    have h2 : (n - 1) / B * P = (n - 1) / B * B + (n - 1) / B * (P - B) := by rw [← Nat.mul_add]; congr 1; omega
    have h3 : B * ((n - 1) / B) = (n - 1) / B * B := Nat.mul_comm _ _
    rw [Nat.add_mul]
    omega
theorem sp_wt {P B : Nat} (hB0 : 0 < B) (hB : B ≤ P) (n : Nat) : sp P (P - B) (wt P (P - B) n) = n := by
  have hP : 0 < P := by omega
  rcases Nat.eq_zero_or_pos n with rfl | hn
  · rw [show wt P (P - B) 0 = 0 from rfl, sp_low hP (Nat.zero_le _)]
  · obtain ⟨q, r, hr, e, w⟩ := wt_form hB0 hB hn
    rw [w]
    unfold sp
    rw [Nat.add_sub_cancel_left, show P - (P - B) = B by omega, Nat.mul_comm q P, Nat.mul_add_div hP, Nat.mul_add_mod]
    by_cases hc : r + 1 < B
    · rw [Nat.div_eq_of_lt (by omega), Nat.mod_eq_of_lt (by omega), Nat.add_zero]
      omega
    · rw [show r + 1 + (P - B) = P by omega, Nat.div_self hP, Nat.mod_self, Nat.add_mul, Nat.one_mul]
      omega
theorem sp_less {P B : Nat} (hB0 : 0 < B) (hB : B ≤ P) {n t : Nat} (h : t < wt P (P - B) n) : sp P (P - B) t < n := by
  have hP : 0 < P := by omega
  have hn : 0 < n := by
    rcases Nat.eq_zero_or_pos n with rfl | hn
    · rw [show wt P (P - B) 0 = 0 from rfl] at h; omega
    · exact hn
  obtain ⟨q, r, hr, e, w⟩ := wt_form hB0 hB hn
  have h1 := sp_mono hP (show P - B < P by omega) (show t ≤ wt P (P - B) n - 1 by omega)
  have h2 := sp_step (t := wt P (P - B) n - 1) hP (show P - B < P by omega)
  have h3 := sp_wt hB0 hB n
  rw [show wt P (P - B) n - 1 + 1 = wt P (P - B) n by omega, h3] at h2
  have h4 : P - B ≤ wt P (P - B) n - 1 ∧ P - B ≤ (wt P (P - B) n - 1 - (P - B)) % P := by
    rw [w, show P - B + (q * P + (r + 1 + (P - B))) - 1 - (P - B) = P * q + (r + (P - B)) by rw [Nat.mul_comm]; omega, Nat.mul_add_mod, Nat.mod_eq_of_lt (by omega)]
    omega
  rw [if_pos h4] at h2
  omega
/-- from where the document begins to look -/
theorem wt_start {P B n : Nat} (hB0 : 0 < B) (hB : B ≤ P) (h : B < n) : P - B + (n - B) / B * P ≤ wt P (P - B) n := by
  unfold wt
  rw [if_neg (by omega), show P - (P - B) = B by omega]
  have h1 : (n - B) / B ≤ (n - 1) / B := Nat.div_le_div_right (by omega)
  have h2 : (n - B) / B * B ≤ n - B := Nat.div_mul_le_self _ _
  have h3 : (n - B) / B * P = (n - B) / B * B + (n - B) / B * (P - B) := by rw [← Nat.mul_add]; congr 1; omega
  have h4 : (n - B) / B * (P - B) ≤ (n - 1) / B * (P - B) := Nat.mul_le_mul_right _ h1
  rw [Nat.add_mul]
  omega
theorem wt_le {P B n : Nat} (hB0 : 0 < B) (hB : B ≤ P) (hP : P ≤ 64) (h : n ≤ 4096) : wt P (P - B) n ≤ 270000 := by
  unfold wt
  split
  · omega
  · rw [show P - (P - B) = B by omega]
    have h1 : (n - 1) / B ≤ n - 1 := Nat.div_le_self _ _
    have h2 : ((n - 1) / B + 2) * (P - B) ≤ 4097 * 63 := Nat.mul_le_mul (by omega) (by omega)
    omega
theorem sp_le {P B t : Nat} (hB0 : 0 < B) (hB : B ≤ P) : sp P (P - B) t ≤ t := by
  have hP : 0 < P := by omega
  induction t with
  | zero => rw [sp_low hP (Nat.zero_le _)]; exact Nat.le_refl _
  | succ t ih =>
    rw [sp_step hP (by omega)]
    split <;> omega
/-- may there be such a server? -/
def okS (p b : Int) : Bool := decide (1 ≤ b) && decide (b ≤ p) && decide (p ≤ 64)
theorem okS_nat {p b : Int} (h : okS p b = true) : ∃ P B : Nat, p = P ∧ b = B ∧ 0 < B ∧ B ≤ P ∧ P ≤ 64 := by
  simp only [okS, Bool.and_eq_true, decide_eq_true_eq] at h
  exact ⟨p.toNat, b.toNat, by omega, by omega, by omega, by omega, by omega⟩
theorem okS_yes {P B : Nat} (h1 : 0 < B) (h2 : B ≤ P) (h3 : P ≤ 64) : okS P B = true := by simp [okS]; omega
/-- from 0 to m? -/
def upTo (m n : Int) : Bool := decide (0 ≤ n) && decide (n ≤ m)
theorem upTo_nat {m n : Int} (h : upTo m n = true) : ∃ N : Nat, n = N ∧ (N : Int) ≤ m := by
  simp only [upTo, Bool.and_eq_true, decide_eq_true_eq] at h
  exact ⟨n.toNat, by omega, by omega⟩
theorem upTo_yes {m : Int} {N : Nat} (h : (N : Int) ≤ m) : upTo m N = true := by simp [upTo, h]
def ofN (p b t : Int) : Int := if okS p b && upTo 1048576 t then (sp p.toNat (p.toNat - b.toNat) t.toNat : Nat) else 0
def ofE (p b t : Int) : Int := if okS p b && upTo 1048576 t then 0 else 2
def waN (p b n : Int) : Int := if okS p b && upTo 4096 n then (wt p.toNat (p.toNat - b.toNat) n.toNat : Nat) else 0
def waE (p b n : Int) : Int := if okS p b && upTo 4096 n then 0 else 2
theorem ofN_ok {P B t : Nat} (h1 : 0 < B) (h2 : B ≤ P) (h3 : P ≤ 64) (ht : t ≤ 1048576) : ofN P B t = (sp P (P - B) t : Nat) := by
  unfold ofN; rw [okS_yes h1 h2 h3, upTo_yes (by omega)]; rfl
theorem ofE_ok {P B t : Nat} (h1 : 0 < B) (h2 : B ≤ P) (h3 : P ≤ 64) (ht : t ≤ 1048576) : ofE P B t = 0 := by
  unfold ofE; rw [okS_yes h1 h2 h3, upTo_yes (by omega)]; rfl
theorem waN_ok {P B n : Nat} (h1 : 0 < B) (h2 : B ≤ P) (h3 : P ≤ 64) (ht : n ≤ 4096) : waN P B n = (wt P (P - B) n : Nat) := by
  unfold waN; rw [okS_yes h1 h2 h3, upTo_yes (by omega)]; rfl
theorem waE_ok {P B n : Nat} (h1 : 0 < B) (h2 : B ≤ P) (h3 : P ≤ 64) (ht : n ≤ 4096) : waE P B n = 0 := by
  unfold waE; rw [okS_yes h1 h2 h3, upTo_yes (by omega)]; rfl
theorem ofN_no1 {p b t : Int} (h : okS p b = false) : ofN p b t = 0 := by simp [ofN, h]
theorem ofE_no1 {p b t : Int} (h : okS p b = false) : ofE p b t = 2 := by simp [ofE, h]
theorem waN_no1 {p b t : Int} (h : okS p b = false) : waN p b t = 0 := by simp [waN, h]
theorem waE_no1 {p b t : Int} (h : okS p b = false) : waE p b t = 2 := by simp [waE, h]
theorem ofN_no2 {p b t : Int} (h : upTo 1048576 t = false) : ofN p b t = 0 := by simp [ofN, h]
theorem ofE_no2 {p b t : Int} (h : upTo 1048576 t = false) : ofE p b t = 2 := by simp [ofE, h]
theorem waN_no2 {p b t : Int} (h : upTo 4096 t = false) : waN p b t = 0 := by simp [waN, h]
theorem waE_no2 {p b t : Int} (h : upTo 4096 t = false) : waE p b t = 2 := by simp [waE, h]
/-- the program's way to reckon it -/
theorem sp_max {P B t : Nat} (hB0 : 0 < B) (hB : B ≤ P) (h : P - B ≤ t) :
    ((sp P (P - B) t : Nat) : Int) = max (((t - (P - B)) / P : Nat) * (B : Int)) ((t : Int) - (((t - (P - B)) / P : Nat) + 2) * (P - B : Nat)) := by
  unfold sp
  rw [show P - (P - B) = B by omega]
  have h1 := Nat.div_add_mod (t - (P - B)) P
  have h2 := Nat.mod_lt (t - (P - B)) (show 0 < P by omega)
  generalize (t - (P - B)) / P = q at *
  generalize (t - (P - B)) % P = r at *
  have h3 : P * q = q * B + q * (P - B) := by rw [← Nat.mul_add, Nat.mul_comm]; congr 1; omega
  have h4 : ((q : Int) + 2) * ((P - B : Nat) : Int) = ((q * (P - B) : Nat) : Int) + 2 * ((P - B : Nat) : Int) := by push_cast; rw [Int.add_mul]
  have h5 : (q : Int) * (B : Int) = ((q * B : Nat) : Int) := by push_cast; rfl
  rw [h4, h5]
  generalize q * B = x at *
  generalize q * (P - B) = y at *
  omega
end Go.Proofs.Ytbdiekolkniajaa.Su

namespace Go.Proofs.Ytbdiekolkniajaa.Gt
open Go.Proofs.Ytbdiekolkniajaa.De Go.Proofs.Ytbdiekolkniajaa.Su Go.Proofs.Ytbdiekolkniajaa.Dl Go.Proofs.Ytbdiekolkniajaa.Ed Go.Proofs.Ytbdiekolkniajaa.Lo Go.Proofs.Ytbdiekolkniajaa.Sh
set_option linter.unusedVariables false

theorem ks_release2 {p : Pn} {run : Nat → Bool} {now : Nat} {left ends next left' ends' next' : Nat → Nat} (h : KS p run now left ends next) {k : Nat} (hD : 1 ≤ dea p.z k) (hk : k < p.n) (hw : next k ≤ now)
    (hl : left' k = bnd p k) (he : ends' k = now + dea p.z k) (hx : now + per p.z k ≤ next' k) (ho : ∀ i, i ≠ k → left' i = left i ∧ ends' i = ends i ∧ next' i = next i) : KS p run now left' ends' next' := by
  obtain ⟨rels, hi, hs, hn⟩ := h
  refine ⟨fun i => if i = k then rels i ++ [now] else rels i, inv_release hi hk hD hl he (by simp) (fun i hne => ⟨(ho i hne).1, (ho i hne).2.1, by simp [hne]⟩), fun i hin => ?_, fun i hin a ha => ?_⟩
  · show Spaced _ (if i = k then rels i ++ [now] else rels i)
    split
    · rename_i e
      subst e
      exact spaced_snoc (hs i hin) (fun a ha => Nat.le_trans (hn i hin a ha) hw)
    · exact hs i hin
  · have ha : a ∈ (if i = k then rels i ++ [now] else rels i) := ha
    by_cases e : i = k
    · subst e
      rw [if_pos rfl, List.mem_append, List.mem_singleton] at ha
      rcases ha with ha | rfl
      · have := hn i hin a ha; omega
      · exact hx
    · rw [if_neg e] at ha
      rw [(ho i e).2.2]
      exact hn i hin a ha
section
variable {n : Nat} {P B b : Nat → Nat} {t j : Nat} {l e : Nat → Nat}
theorem km_rel2 (p1 : 1 ≤ P j) (p2 : P j ≤ 64) (p3 : B j ≤ 64) (h : KM n P B b t j l e) (hj : j < n) (hb : b j ≤ t) (hm : (t - b j) % P j = 0) : KM n P B b t (j + 1) (upd l j (B j)) (upd e j (t + P j)) := by
  obtain ⟨x1, x2⟩ := nxt_rel (P := P j) p1 hb hm
  refine ⟨ks_release2 (k := j) h.ks ?_ hj ?_ (upd_at _ _ _) ?_ ?_ (fun i hi => ⟨upd_ne _ _ hi, upd_ne _ _ hi, ?_⟩), fun i hi hl => ?_, fun i hi hlt => ?_, fun i hi => ?_⟩
  · show 1 ≤ ((P j : Nat) : Int).toNat; omega
  · show nxt (b j) (P j) (tj j t j) ≤ t
    rw [(tj_at j t).1, x1]; exact Nat.le_refl _
  · rw [upd_at]; rfl
  · show t + P j ≤ nxt (b j) (P j) (tj (j + 1) t j)
    rw [(tj_at j t).2, x2]; exact Nat.le_refl _
  · show nxt (b i) (P i) (tj (j + 1) t i) = nxt (b i) (P i) (tj j t i)
    rw [tj_ne hi]
  · by_cases e' : i = j
    · rw [e', upd_at, (tj_at j t).2, x2]
    · rw [upd_ne _ _ e'] at hl ⊢
      rw [h.en i hi hl, tj_ne e']
  · by_cases e' : i = j
    · rw [e'] at hlt; omega
    · rw [upd_ne _ _ e']; exact h.nb i hi hlt
  · have := h.bd i hi
    unfold upd
    split
    · omega
    · exact this
theorem km_late2 (hP : ∀ i, i < n → 1 ≤ P i) {M : Nat} (hM : 0 < M) (hd : ∀ i, i < n → P i ∣ M) (hs : sm (fun i => B i * (M / P i)) n ≤ M) (h : KM n P B b t 0 l e) (hj : j < n) (hb : b j ≤ t) (hm : (t - b j) % P j = 0) (hl : 0 < l j) : False := by
  have hx := (nxt_rel (P := P j) (hP j hj) hb hm).1
  refine sv_in_time hM (fun i hi => hP i hi) hd hs h.ks hj hl ?_
  rw [h.en j hj hl, show tj 0 t j = t from rfl, hx]
  exact Nat.le_refl _
end
/-- the first j as f says, the others as g -/
def mix (j : Nat) (f g : Nat → Nat) : Nat → Nat := fun i => if i < j then f i else g i
theorem mix_zero (f g : Nat → Nat) : mix 0 f g = g := funext fun i => if_neg (by omega)
theorem mix_upd {j : Nat} {f g : Nat → Nat} : upd (mix j f g) j (f j) = mix (j + 1) f g := funext fun i => by
  unfold upd mix
  by_cases e : i = j
  · rw [if_pos e, if_pos (by omega), e]
  · rw [if_neg e]
    by_cases h : i < j
    · rw [if_pos h, if_pos (by omega)]
    · rw [if_neg h, if_neg (by omega)]
theorem mix_same {j : Nat} {f g : Nat → Nat} (h : f j = g j) : mix (j + 1) f g = mix j f g := funext fun i => by
  unfold mix
  by_cases e : i = j
  · rw [if_pos (by omega), if_neg (by omega), e, h]
  · by_cases h' : i < j
    · rw [if_pos h', if_pos (by omega)]
    · rw [if_neg h', if_neg (by omega)]
theorem mix_at {j : Nat} (f g : Nat → Nat) : mix j f g j = g j := if_neg (by omega)
theorem mix_end {k : Nat} {f g : Nat → Nat} (h : ∀ i, k ≤ i → f i = g i) : mix k f g = f := funext fun i => by
  unfold mix
  by_cases e : i < k
  · rw [if_pos e]
  · rw [if_neg e, h i (by omega)]
/-- servers: how many, their periods, their budgets, which are in -/
structure Sv where
  k : Nat
  (P B : Nat → Nat)
  inn : Nat → Bool
def Sv.rel (s : Sv) (t i : Nat) : Bool := decide (i < s.k) && s.inn i && decide (t % s.P i = 0)
def Sv.relL (s : Sv) (t : Nat) (l : Nat → Nat) (i : Nat) : Nat := if s.rel t i then s.B i else l i
def Sv.relE (s : Sv) (t : Nat) (e : Nat → Nat) (i : Nat) : Nat := if s.rel t i then t + s.P i else e i
/-- the one that runs, of the first n: -1 if none does -/
def pick (l e : Nat → Nat) : Nat → Int
  | 0 => -1
  | n + 1 => if 0 < l n ∧ (pick l e n = -1 ∨ e n < e (pick l e n).toNat) then (n : Int) else pick l e n
theorem pick_near (l e : Nat → Nat) : ∀ n, Near l e n (pick l e n)
  | 0 => near_start l e
  | n + 1 => by
    have ih := pick_near l e n
    unfold pick
    by_cases h0 : 0 < l n
    · by_cases h1 : pick l e n = -1
      · rw [if_pos ⟨h0, Or.inl h1⟩]
        exact near_take ih h0 (Or.inl h1)
      · have ih' := ih
        rcases ih with ⟨h, _⟩ | ⟨m, h, hm, _⟩
        · exact absurd h h1
        · by_cases h2 : e n < e (pick l e n).toNat
          · rw [if_pos ⟨h0, Or.inr h2⟩]
            refine near_take ih' h0 (Or.inr ⟨m, h, ?_⟩)
            rw [h] at h2; exact h2
          · rw [if_neg (by rintro ⟨_, hc | hc⟩; exact h1 hc; exact h2 hc)]
            rw [h] at ih' h2 ⊢
            exact near_keep ih' (by simp at h2; omega)
    · rw [if_neg (fun h => h0 h.1)]
      exact near_zero ih (by omega)
def runL (l e : Nat → Nat) (k : Nat) (i : Nat) : Nat := if pick l e k = (i : Int) then l i - 1 else l i
/-- what is left, the ends, at the beginning of a tick -/
def Sv.st (s : Sv) : Nat → (Nat → Nat) × (Nat → Nat)
  | 0 => (fun _ => 0, fun _ => 0)
  | t + 1 => (runL (s.relL t (s.st t).1) (s.relE t (s.st t).2) s.k, s.relE t (s.st t).2)
/-- what is left, the ends, when somebody runs -/
def Sv.l1 (s : Sv) (t : Nat) : Nat → Nat := s.relL t (s.st t).1
def Sv.e1 (s : Sv) (t : Nat) : Nat → Nat := s.relE t (s.st t).2
/-- does it run -/
def Sv.runs (s : Sv) (i t : Nat) : Bool := decide (pick (s.l1 t) (s.e1 t) s.k = (i : Int))
def Sv.B0 (s : Sv) (i : Nat) : Nat := if s.inn i then s.B i else 0
def Sv.b0 (s : Sv) (i : Nat) : Nat := if s.inn i then 0 else 1000000
structure Sv.Ok (s : Sv) : Prop where
  bd : ∀ i, i < s.k → 1 ≤ s.P i ∧ s.P i ≤ 64 ∧ 1 ≤ s.B i ∧ s.B i ≤ s.P i
  fits : ∃ M, 0 < M ∧ (∀ i, i < s.k → s.P i ∣ M) ∧ sm (fun i => s.B0 i * (M / s.P i)) s.k ≤ M
theorem st_rel {s : Sv} (h : s.Ok) {t : Nat} (ht : t < 1000000) (hK : KM s.k s.P s.B0 s.b0 t 0 (s.st t).1 (s.st t).2) : ∀ j, j ≤ s.k → KM s.k s.P s.B0 s.b0 t j (mix j (s.l1 t) (s.st t).1) (mix j (s.e1 t) (s.st t).2)
  | 0, _ => by rw [mix_zero, mix_zero]; exact hK
  | j + 1, hj => by
    have ih := st_rel h ht hK j (by omega)
    obtain ⟨p1, p2, p3, p4⟩ := h.bd j (by omega)
    cases hr : s.rel t j with
    | true =>
      have hr' := hr
      unfold Sv.rel at hr'
      simp only [Bool.and_eq_true, decide_eq_true_eq] at hr'
      have e1 : s.l1 t j = s.B0 j := by unfold Sv.l1 Sv.relL Sv.B0; rw [hr, hr'.1.2]; rfl
      have e2 : s.e1 t j = t + s.P j := by unfold Sv.e1 Sv.relE; rw [hr]; rfl
      have e3 : s.b0 j = 0 := by unfold Sv.b0; rw [hr'.1.2]; rfl
      rw [← mix_upd, ← mix_upd, e1, e2]
      exact km_rel2 p1 p2 (by unfold Sv.B0; split <;> omega) ih (by omega) (by omega) (by rw [e3]; exact hr'.2)
    | false =>
      have e1 : s.l1 t j = (s.st t).1 j := by unfold Sv.l1 Sv.relL; rw [hr]; rfl
      have e2 : s.e1 t j = (s.st t).2 j := by unfold Sv.e1 Sv.relE; rw [hr]; rfl
      rw [mix_same e1, mix_same e2]
      refine km_same ih ?_
      unfold Sv.rel at hr
      rw [decide_eq_true (show j < s.k by omega), Bool.true_and] at hr
      unfold Sv.b0
      cases hi : s.inn j with
      | true =>
        rw [hi, Bool.true_and] at hr
        exact nxt_not p1 (Nat.zero_le _) (of_decide_eq_false hr)
      | false => exact nxt_ahead ht
theorem l1_out (s : Sv) (t : Nat) {i : Nat} (hi : s.k ≤ i) : s.l1 t i = (s.st t).1 i ∧ s.e1 t i = (s.st t).2 i := by
  have hr : s.rel t i = false := by unfold Sv.rel; rw [decide_eq_false (by omega)]; rfl
  unfold Sv.l1 Sv.relL Sv.e1 Sv.relE
  rw [hr]
  exact ⟨rfl, rfl⟩
theorem st_mid {s : Sv} (h : s.Ok) {t : Nat} (ht : t < 1000000) (hK : KM s.k s.P s.B0 s.b0 t 0 (s.st t).1 (s.st t).2) : KM s.k s.P s.B0 s.b0 t s.k (s.l1 t) (s.e1 t) := by
  have := st_rel h ht hK s.k (Nat.le_refl _)
  rw [mix_end fun i hi => (l1_out s t hi).1, mix_end fun i hi => (l1_out s t hi).2] at this
  exact this
theorem st_km {s : Sv} (h : s.Ok) : ∀ {t : Nat}, t ≤ 1000000 → KM s.k s.P s.B0 s.b0 t 0 (s.st t).1 (s.st t).2
  | 0, _ => km_start _ _ _ _
  | t + 1, ht => by
    have hm := st_mid h (by omega) (st_km h (t := t) (by omega))
    show KM s.k s.P s.B0 s.b0 (t + 1) 0 (runL (s.l1 t) (s.e1 t) s.k) (s.e1 t)
    rcases pick_near (s.l1 t) (s.e1 t) s.k with ⟨h1, h2⟩ | ⟨m, h1, h2, h3, h4⟩
    · have e : runL (s.l1 t) (s.e1 t) s.k = s.l1 t := funext fun i => by unfold runL; rw [if_neg (by omega)]
      rw [e]
      exact km_none hm h2
    · have e : runL (s.l1 t) (s.e1 t) s.k = upd (s.l1 t) m (s.l1 t m - 1) := funext fun i => by
        unfold runL upd
        by_cases e : i = m
        · rw [if_pos (by omega), if_pos e, e]
        · rw [if_neg (by omega), if_neg e]
      rw [e]
      exact km_run hm h2 h3 h4
/-- no server is late -/
theorem st_late {s : Sv} (h : s.Ok) {t i : Nat} (ht : t ≤ 1000000) (hr : s.rel t i = true) : (s.st t).1 i = 0 := by
  obtain ⟨M, hM, hd, hs⟩ := h.fits
  unfold Sv.rel at hr
  simp only [Bool.and_eq_true, decide_eq_true_eq] at hr
  rcases Nat.eq_zero_or_pos ((s.st t).1 i) with h0 | h0
  · exact h0
  · have e3 : s.b0 i = 0 := by unfold Sv.b0; rw [hr.1.2]; rfl
    exact (km_late2 (fun i hi => (h.bd i hi).1) hM hd hs (st_km h ht) hr.1.1 (by omega) (by rw [e3]; exact hr.2) h0).elim
/-- who is not in has nothing -/
theorem st_out {s : Sv} (h : s.Ok) {t i : Nat} (ht : t < 1000000) (hi : i < s.k) (ho : s.inn i = false) : (s.st t).1 i = 0 := (st_km h (t := t) (by omega)).nb i hi (by unfold Sv.b0; rw [ho]; exact ht)
theorem l1_small {s : Sv} (h : s.Ok) {t i : Nat} (ht : t < 1000000) (hi : i < s.k) : s.l1 t i ≤ 64 ∧ s.e1 t i ≤ t + 64 := (st_mid h ht (st_km h (t := t) (by omega))).bd i hi
theorem st_small {s : Sv} (h : s.Ok) {t i : Nat} (ht : t < 1000000) (hi : i < s.k) : (s.st t).1 i ≤ 64 ∧ (s.st t).2 i ≤ t + 64 := (st_km h (t := t) (by omega)).bd i hi
theorem l1_in {s : Sv} (h : s.Ok) {t i : Nat} (ht : t < 1000000) (hi : i < s.k) (hl : 0 < s.l1 t i) : s.inn i = true := by
  cases ho : s.inn i with
  | true => rfl
  | false =>
    have := st_out h ht hi ho
    unfold Sv.l1 Sv.relL Sv.rel at hl
    rw [ho, Bool.and_false, Bool.false_and, if_neg (by simp)] at hl
    omega
theorem cnt_part {s : Sv} (h : s.Ok) {i m : Nat} (hi : i < s.k) (hin : s.inn i = true) (hm : (m + 1) * s.P i ≤ 1000000) : ∀ x, x < s.P i → cnt (s.runs i) (m * s.P i) (x + 1) + (s.st (m * s.P i + x + 1)).1 i = s.B i := by
  obtain ⟨p1, p2, p3, p4⟩ := h.bd i hi
  have hmul : (m + 1) * s.P i = m * s.P i + s.P i := Nat.succ_mul _ _
  intro x
  induction x with
  | zero =>
    intro _
    have hr : s.rel (m * s.P i) i = true := by
      unfold Sv.rel
      rw [decide_eq_true hi, hin, Nat.mul_mod_left]
      rfl
    have e1 : s.l1 (m * s.P i) i = s.B i := by unfold Sv.l1 Sv.relL; rw [hr]; rfl
    show cnt (s.runs i) (m * s.P i) 0 + (if s.runs i (m * s.P i + 0) then 1 else 0) + runL (s.l1 (m * s.P i)) (s.e1 (m * s.P i)) s.k i = s.B i
    unfold runL Sv.runs
    rw [Nat.add_zero, e1]
    show 0 + _ + _ = _
    by_cases hp : pick (s.l1 (m * s.P i)) (s.e1 (m * s.P i)) s.k = (i : Int)
    · rw [if_pos hp, decide_eq_true hp]; simp; omega
    · rw [if_neg hp, decide_eq_false hp]; simp
  | succ x ih =>
    intro hx
    have ih := ih (by omega)
    have hr : s.rel (m * s.P i + (x + 1)) i = false := by
      unfold Sv.rel
      rw [Nat.mul_add_mod_self_right, Nat.mod_eq_of_lt hx, decide_eq_false (show ¬ x + 1 = 0 by omega), Bool.and_false]
    have e1 : s.l1 (m * s.P i + (x + 1)) i = (s.st (m * s.P i + (x + 1))).1 i := by unfold Sv.l1 Sv.relL; rw [hr]; rfl
    show cnt (s.runs i) (m * s.P i) (x + 1) + (if s.runs i (m * s.P i + (x + 1)) then 1 else 0) + runL (s.l1 (m * s.P i + (x + 1))) (s.e1 (m * s.P i + (x + 1))) s.k i = s.B i
    rw [show s.runs i (m * s.P i + (x + 1)) = decide (pick (s.l1 (m * s.P i + (x + 1))) (s.e1 (m * s.P i + (x + 1))) s.k = (i : Int)) from rfl]
    unfold runL
    by_cases hp : pick (s.l1 (m * s.P i + (x + 1))) (s.e1 (m * s.P i + (x + 1))) s.k = (i : Int)
    · have hpos : 0 < s.l1 (m * s.P i + (x + 1)) i := by
        rcases pick_near (s.l1 (m * s.P i + (x + 1))) (s.e1 (m * s.P i + (x + 1))) s.k with ⟨h1, _⟩ | ⟨m', h1, _, h3, _⟩
        · omega
        · have : m' = i := by omega
          rw [this] at h3; exact h3
      rw [if_pos hp, decide_eq_true hp]
      rw [e1] at hpos ⊢
      have : m * s.P i + x + 1 = m * s.P i + (x + 1) := by omega
      rw [this] at ih
      simp; omega
    · rw [if_neg hp, decide_eq_false hp, e1]
      have : m * s.P i + x + 1 = m * s.P i + (x + 1) := by omega
      rw [this] at ih
      simp; exact ih
/-- whoever is in runs in each period for its budget -/
theorem st_runs {s : Sv} (h : s.Ok) {i K : Nat} (hi : i < s.k) (hin : s.inn i = true) (hK : K * s.P i ≤ 1000000) : Runs (s.P i) (s.B i) (s.runs i) K := by
  intro m hm
  obtain ⟨p1, p2, p3, p4⟩ := h.bd i hi
  have hmul : (m + 1) * s.P i = m * s.P i + s.P i := Nat.succ_mul _ _
  have hle : (m + 1) * s.P i ≤ K * s.P i := Nat.mul_le_mul_right _ hm
  have hc := cnt_part h hi hin (m := m) (by omega) (s.P i - 1) (by omega)
  have e : s.P i - 1 + 1 = s.P i := by omega
  have e2 : m * s.P i + (s.P i - 1) + 1 = (m + 1) * s.P i := by omega
  rw [e, e2] at hc
  have hr : s.rel ((m + 1) * s.P i) i = true := by
    unfold Sv.rel
    rw [decide_eq_true hi, hin, Nat.mul_mod_left]
    rfl
  rw [st_late h (by omega) hr] at hc
  exact hc
end Go.Proofs.Ytbdiekolkniajaa.Gt
