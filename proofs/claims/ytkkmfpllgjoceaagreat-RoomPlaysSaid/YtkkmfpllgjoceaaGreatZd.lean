/- The demand of a task, plainly. -/
import Derived.Test.YtkkmfpllgjoceaaGreatRows
import Derived.WalkKit
import Derived.WalkSpells
import Derived.WalkLawsBesides
import Derived.Lib.Hide
import Derived.Deep.QuietTactic
import Derived.BigQuiet
import Derived.Below
import Derived.OneCell
import Derived.RegionTactic
import Derived.StillTailTactics
import Derived.WalkMore
namespace Go.Proofs.YtkkmfpllgjoceaaGreat.Dm.De
set_option linter.unusedVariables false
set_option maxRecDepth 100000

/-- how many jobs can be released, and have their deadlines, in t ticks in a row -/
def jobs (P D t : Nat) : Nat := if t < D then 0 else 1 + (t - D) / P
theorem jobs_period {P D t : Nat} (hP : 0 < P) (h : D ≤ t) (q : Nat) : jobs P D (t + q * P) = jobs P D t + q := by
  unfold jobs
  rw [if_neg (by omega), if_neg (by omega), show t + q * P - D = (t - D) + q * P by omega, Nat.add_mul_div_right _ _ hP]
  omega
theorem jobs_one {P D t : Nat} (hP : 0 < P) (h : D + P ≤ t) : jobs P D t = 1 + jobs P D (t - P) := by
  have := jobs_period (D := D) hP (t := t - P) (by omega) 1
  rw [Nat.one_mul, show t - P + P = t by omega] at this
  omega
theorem jobs_mono {P D t u : Nat} (h : t ≤ u) : jobs P D t ≤ jobs P D u := by
  unfold jobs
  by_cases h1 : t < D
  · rw [if_pos h1]; exact Nat.zero_le _
  · rw [if_neg h1, if_neg (by omega)]
    have := Nat.div_le_div_right (c := P) (show t - D ≤ u - D by omega)
    omega
/-- releases, each a period behind the last one at least -/
def Spaced (P : Nat) : List Nat → Prop
  | [] => True
  | [_] => True
  | a :: b :: r => a + P ≤ b ∧ Spaced P (b :: r)
theorem Spaced.tail {P a : Nat} {r : List Nat} (h : Spaced P (a :: r)) : Spaced P r := by
  cases r with
  | nil => trivial
  | cons b r => exact h.2
theorem Spaced.all {P : Nat} : ∀ {r : List Nat} {a : Nat}, Spaced P (a :: r) → ∀ x ∈ r, a + P ≤ x
  | [], _, _, x, hx => by cases hx
  | b :: r, a, h, x, hx => by
    rcases List.mem_cons.1 hx with rfl | hx
    · exact h.1
    · have := Spaced.all h.2 x hx
      have := h.1
      omega
/-- those that are released from b on, and have their deadlines by b + t -/
def hit (D b t : Nat) (a : Nat) : Bool := decide (b ≤ a) && decide (a + D ≤ b + t)
def cj (D b t : Nat) : List Nat → Nat
  | [] => 0
  | a :: r => (if hit D b t a then 1 else 0) + cj D b t r
theorem cj_shift {D b t P : Nat} (ht : P ≤ t) : ∀ {r : List Nat}, (∀ x ∈ r, b + P ≤ x) → cj D b t r = cj D (b + P) (t - P) r
  | [], _ => rfl
  | a :: r, h => by
    have ha := h a (by simp)
    have e : hit D b t a = hit D (b + P) (t - P) a := by
      unfold hit
      rw [Bool.eq_iff_iff, Bool.and_eq_true, Bool.and_eq_true]
      simp only [decide_eq_true_eq]
      omega
    unfold cj
    rw [e, cj_shift ht (fun x hx => h x (by simp [hx]))]
theorem cj_none {D b t : Nat} : ∀ {r : List Nat}, (∀ x ∈ r, b + t < x + D) → cj D b t r = 0
  | [], _ => rfl
  | a :: r, h => by
    have ha := h a (by simp)
    have e : hit D b t a = false := by unfold hit; simp; omega
    unfold cj
    rw [e, cj_none (fun x hx => h x (by simp [hx]))]
    rfl
/-- no more than the demand -/
theorem cj_le {P D : Nat} (hP : 0 < P) : ∀ {r : List Nat} {b t : Nat}, Spaced P r → cj D b t r ≤ jobs P D t
  | [], b, t, _ => Nat.zero_le _
  | a :: r, b, t, h => by
    have hall := h.all
    have htl := h.tail
    cases e : hit D b t a with
    | false =>
      unfold cj
      rw [e]
      have := cj_le hP (D := D) (b := b) (t := t) htl
      simpa using this
    | true =>
      have e2 : b ≤ a ∧ a + D ≤ b + t := by unfold hit at e; simpa using e
      unfold cj
      rw [e]
      by_cases hc : D + P ≤ t
      · rw [cj_shift (P := P) (by omega) (fun x hx => by have := hall x hx; omega), jobs_one hP hc]
        have := cj_le hP (D := D) (b := b + P) (t := t - P) htl
        simp only [if_true]
        omega
      · rw [cj_none (fun x hx => by have := hall x hx; omega)]
        have : 1 ≤ jobs P D t := by unfold jobs; rw [if_neg (by omega)]; exact Nat.le_add_right 1 _
        simpa using this
end Go.Proofs.YtkkmfpllgjoceaaGreat.Dm.De

namespace Go.Proofs.YtkkmfpllgjoceaaGreat.Dm.Tk
set_option linter.unusedVariables false
set_option maxRecDepth 100000

def top : Int := 1099511627776
def tk (n : Int) : Bool := decide (0 ≤ n) && decide (n ≤ 1099511627776)

theorem tk_yes {n : Int} (h : 0 ≤ n) (k : n ≤ 1099511627776) : tk n = true := by simp [tk, h, k]
theorem tk_lo {n : Int} (h : n < 0) : tk n = false := by simp [tk]; omega
theorem tk_hi {n : Int} (h : 1099511627776 < n) : tk n = false := by simp [tk]; omega
theorem tk_cases (n : Int) : (n < 0 ∧ tk n = false) ∨ (1099511627776 < n ∧ tk n = false) ∨ (0 ≤ n ∧ n ≤ 1099511627776 ∧ tk n = true) := by
  by_cases h : 0 ≤ n
  · by_cases k : n ≤ 1099511627776
    · exact Or.inr (Or.inr ⟨h, k, tk_yes h k⟩)
    · exact Or.inr (Or.inl ⟨by omega, tk_hi (by omega)⟩)
  · exact Or.inl ⟨by omega, tk_lo (by omega)⟩
theorem tk_iff (n : Int) : tk n = true ↔ 0 ≤ n ∧ n ≤ 1099511627776 := by simp [tk]

/-- a number and an error's number -/
def addN (a b : Int) : Int := if tk a && tk b && decide (a + b ≤ 1099511627776) then a + b else 0
def addE (a b : Int) : Int := if tk a && tk b then if a + b ≤ 1099511627776 then 0 else 10 else 2
def subN (a b : Int) : Int := if tk a && tk b && decide (b ≤ a) then a - b else 0
def subE (a b : Int) : Int := if tk a && tk b && decide (b ≤ a) then 0 else 2
def mulN (a b : Int) : Int := if tk a && tk b && decide (a * b ≤ 1099511627776) then a * b else 0
def mulE (a b : Int) : Int := if tk a && tk b then if a * b ≤ 1099511627776 then 0 else 10 else 2
def divN (a b : Int) : Int := if tk a && tk b && decide (0 < b) then a / b else 0
def divE (a b : Int) : Int := if tk a && tk b && decide (0 < b) then 0 else 2
def gcdN (a b : Int) : Int := if tk a && tk b then (Nat.gcd a.toNat b.toNat : Nat) else 0
def gcdE (a b : Int) : Int := if tk a && tk b then 0 else 2

theorem addN_no1 {a b : Int} (h : tk a = false) : addN a b = 0 := by simp [addN, h]
theorem addE_no1 {a b : Int} (h : tk a = false) : addE a b = 2 := by simp [addE, h]
theorem addN_no2 {a b : Int} (h : tk b = false) : addN a b = 0 := by simp [addN, h]
theorem addE_no2 {a b : Int} (h : tk b = false) : addE a b = 2 := by simp [addE, h]
theorem addN_over {a b : Int} (h : 1099511627776 < a + b) : addN a b = 0 := by unfold addN; rw [if_neg]; simp; omega
theorem addE_over {a b : Int} (ha : tk a = true) (hb : tk b = true) (h : 1099511627776 < a + b) : addE a b = 10 := by
  simp only [addE, ha, hb, Bool.and_self, if_true]; rw [if_neg (by omega)]
theorem addN_ok {a b : Int} (ha : tk a = true) (hb : tk b = true) (h : a + b ≤ 1099511627776) : addN a b = a + b := by simp [addN, ha, hb, h]
theorem addE_ok {a b : Int} (ha : tk a = true) (hb : tk b = true) (h : a + b ≤ 1099511627776) : addE a b = 0 := by simp [addE, ha, hb, h]

theorem subN_no1 {a b : Int} (h : tk a = false) : subN a b = 0 := by simp [subN, h]
theorem subE_no1 {a b : Int} (h : tk a = false) : subE a b = 2 := by simp [subE, h]
theorem subN_no2 {a b : Int} (h : tk b = false) : subN a b = 0 := by simp [subN, h]
theorem subE_no2 {a b : Int} (h : tk b = false) : subE a b = 2 := by simp [subE, h]
theorem subN_no3 {a b : Int} (h : a < b) : subN a b = 0 := by unfold subN; rw [if_neg]; simp; omega
theorem subE_no3 {a b : Int} (h : a < b) : subE a b = 2 := by unfold subE; rw [if_neg]; simp; omega
theorem subN_ok {a b : Int} (ha : tk a = true) (hb : tk b = true) (h : b ≤ a) : subN a b = a - b := by simp [subN, ha, hb, h]
theorem subE_ok {a b : Int} (ha : tk a = true) (hb : tk b = true) (h : b ≤ a) : subE a b = 0 := by simp [subE, ha, hb, h]

theorem mulN_no1 {a b : Int} (h : tk a = false) : mulN a b = 0 := by simp [mulN, h]
theorem mulE_no1 {a b : Int} (h : tk a = false) : mulE a b = 2 := by simp [mulE, h]
theorem mulN_no2 {a b : Int} (h : tk b = false) : mulN a b = 0 := by simp [mulN, h]
theorem mulE_no2 {a b : Int} (h : tk b = false) : mulE a b = 2 := by simp [mulE, h]
theorem mulN_over {a b : Int} (h : 1099511627776 < a * b) : mulN a b = 0 := by
  unfold mulN; rw [if_neg]; simp only [Bool.and_eq_true, decide_eq_true_eq, not_and, Int.not_le]; exact fun _ => h
theorem mulE_over {a b : Int} (ha : tk a = true) (hb : tk b = true) (h : 1099511627776 < a * b) : mulE a b = 10 := by
  simp only [mulE, ha, hb, Bool.and_self, if_true]; rw [if_neg (Int.not_le.2 h)]
theorem mulN_ok {a b : Int} (ha : tk a = true) (hb : tk b = true) (h : a * b ≤ 1099511627776) : mulN a b = a * b := by simp [mulN, ha, hb, h]
theorem mulE_ok {a b : Int} (ha : tk a = true) (hb : tk b = true) (h : a * b ≤ 1099511627776) : mulE a b = 0 := by simp [mulE, ha, hb, h]

theorem divN_no1 {a b : Int} (h : tk a = false) : divN a b = 0 := by simp [divN, h]
theorem divE_no1 {a b : Int} (h : tk a = false) : divE a b = 2 := by simp [divE, h]
theorem divN_no2 {a b : Int} (h : tk b = false) : divN a b = 0 := by simp [divN, h]
theorem divE_no2 {a b : Int} (h : tk b = false) : divE a b = 2 := by simp [divE, h]
theorem divN_no3 {a : Int} : divN a 0 = 0 := by simp [divN]
theorem divE_no3 {a : Int} : divE a 0 = 2 := by simp [divE]
theorem divN_ok {a b : Int} (ha : tk a = true) (hb : tk b = true) (h : 0 < b) : divN a b = a / b := by simp [divN, ha, hb, h]
theorem divE_ok {a b : Int} (ha : tk a = true) (hb : tk b = true) (h : 0 < b) : divE a b = 0 := by simp [divE, ha, hb, h]

theorem gcdN_no1 {a b : Int} (h : tk a = false) : gcdN a b = 0 := by simp [gcdN, h]
theorem gcdE_no1 {a b : Int} (h : tk a = false) : gcdE a b = 2 := by simp [gcdE, h]
theorem gcdN_no2 {a b : Int} (h : tk b = false) : gcdN a b = 0 := by simp [gcdN, h]
theorem gcdE_no2 {a b : Int} (h : tk b = false) : gcdE a b = 2 := by simp [gcdE, h]
theorem gcdN_ok {a b : Int} (ha : tk a = true) (hb : tk b = true) : gcdN a b = (Nat.gcd a.toNat b.toNat : Nat) := by simp [gcdN, ha, hb]
theorem gcdE_ok {a b : Int} (ha : tk a = true) (hb : tk b = true) : gcdE a b = 0 := by simp [gcdE, ha, hb]

theorem gcd_step (a b : Int) (ha : 0 ≤ a) (hb : 0 < b) : Nat.gcd a.toNat b.toNat = Nat.gcd b.toNat (a % b).toNat := by
  have e : (a % b).toNat = a.toNat % b.toNat := by
    rw [Int.toNat_emod ha (by omega)]
  rw [e, Nat.gcd_comm, Nat.gcd_rec, Nat.gcd_comm]
theorem gcd_end (a : Int) (ha : 0 ≤ a) : (Nat.gcd a.toNat (0 : Int).toNat : Int) = a := by
  simp; omega

/-- a product against the horizon, asked by a quotient -/
theorem mul_over_iff {a b : Int} (hb : 0 < b) : 1099511627776 / b < a ↔ 1099511627776 < a * b := by
  rw [Int.ediv_lt_iff_lt_mul hb]
theorem mul_bd {a b : Int} (h : a ≤ 1099511627776 / b) (hb : 0 < b) : a * b ≤ 1099511627776 := by
  rw [Int.le_ediv_iff_mul_le hb] at h; exact h

/-- all of a list added to n, one behind the other: the number, and an error's number (the number counts for nothing then) -/
def sumAll : Int → List Int → Int × Int
  | n, [] => (n, 0)
  | n, x :: r => if n + x ≤ 1099511627776 then sumAll (n + x) r else (0, 10)
/-- the next one of n and x: their least common multiple -/
def lcm2 (n x : Int) : Int := n * (x / (Nat.gcd n.toNat x.toNat : Nat))
def lcmAll : Int → List Int → Int × Int
  | n, [] => (n, 0)
  | n, x :: r => if lcm2 n x ≤ 1099511627776 then lcmAll (lcm2 n x) r else (0, 10)
def ok1 (x : Int) : Bool := tk x && decide (x ≠ 0)
def sumR (l : List Int) : Int × Int := if l.all tk then sumAll 0 l else (0, 2)
def cutTo (limit : Int) (r : Int × Int) : Int × Int := if r.2 = 0 then if r.1 ≤ limit then r else (0, 10) else r
def lcmR (limit : Int) (l : List Int) : Int × Int := if tk limit && l.all ok1 then cutTo limit (lcmAll 1 l) else (0, 2)

theorem drop_step (zs : List Int) (k : Nat) (h : k < zs.length) : zs.drop k = zs.getD k 0 :: zs.drop (k + 1) := by
  rw [List.drop_eq_getElem_cons h]; simp [List.getD, List.getElem?_eq_getElem h]
theorem sum_go {zs : List Int} {k : Nat} {n : Int} (h : k < zs.length) (hs : n + zs.getD k 0 ≤ 1099511627776) : sumAll n (zs.drop k) = sumAll (n + zs.getD k 0) (zs.drop (k + 1)) := by
  rw [drop_step zs k h, sumAll, if_pos hs]
theorem sum_halt {zs : List Int} {k : Nat} {n : Int} (h : k < zs.length) (hs : 1099511627776 < n + zs.getD k 0) : sumAll n (zs.drop k) = (0, 10) := by
  rw [drop_step zs k h, sumAll, if_neg (by omega)]
theorem sum_end {zs : List Int} {k : Nat} {n : Int} (h : k = zs.length) : sumAll n (zs.drop k) = (n, 0) := by
  rw [h, List.drop_length, sumAll]
theorem lcm_go {zs : List Int} {k : Nat} {n : Int} (h : k < zs.length) (hs : lcm2 n (zs.getD k 0) ≤ 1099511627776) : lcmAll n (zs.drop k) = lcmAll (lcm2 n (zs.getD k 0)) (zs.drop (k + 1)) := by
  rw [drop_step zs k h, lcmAll, if_pos hs]
theorem lcm_halt {zs : List Int} {k : Nat} {n : Int} (h : k < zs.length) (hs : 1099511627776 < lcm2 n (zs.getD k 0)) : lcmAll n (zs.drop k) = (0, 10) := by
  rw [drop_step zs k h, lcmAll, if_neg (by omega)]
theorem lcm_end {zs : List Int} {k : Nat} {n : Int} (h : k = zs.length) : lcmAll n (zs.drop k) = (n, 0) := by
  rw [h, List.drop_length, lcmAll]
theorem all_at {p : Int → Bool} {zs : List Int} {k : Nat} (h : zs.all p = true) (hk : k < zs.length) : p (zs.getD k 0) = true := by
  rw [List.all_eq_true] at h
  simp only [List.getD, List.getElem?_eq_getElem hk, Option.getD_some]
  exact h _ (List.getElem_mem hk)
theorem ok1_iff (x : Int) : ok1 x = true ↔ 1 ≤ x ∧ x ≤ 1099511627776 := by
  simp [ok1, tk]; omega
/-- the divisor, the quotient and the product of a step -/
theorem gcd_bd {n x : Int} (hn : 1 ≤ n) (hn' : n ≤ 1099511627776) (hx : 1 ≤ x) (hx' : x ≤ 1099511627776) :
    1 ≤ ((Nat.gcd n.toNat x.toNat : Nat) : Int) ∧ ((Nat.gcd n.toNat x.toNat : Nat) : Int) ≤ 1099511627776 := by
  have h1 : 0 < Nat.gcd n.toNat x.toNat := Nat.gcd_pos_of_pos_left _ (by omega)
  have h2 : Nat.gcd n.toNat x.toNat ≤ n.toNat := Nat.gcd_le_left _ (by omega)
  omega
theorem quo_bd {n x : Int} (hn : 1 ≤ n) (hn' : n ≤ 1099511627776) (hx : 1 ≤ x) (hx' : x ≤ 1099511627776) :
    1 ≤ x / ((Nat.gcd n.toNat x.toNat : Nat) : Int) ∧ x / ((Nat.gcd n.toNat x.toNat : Nat) : Int) ≤ 1099511627776 := by
  have ⟨h1, h2⟩ := gcd_bd hn hn' hx hx'
  have h3 : Nat.gcd n.toNat x.toNat ≤ x.toNat := Nat.gcd_le_right _ (by omega)
  have h4 : ((Nat.gcd n.toNat x.toNat : Nat) : Int) ≤ x := by omega
  generalize ((Nat.gcd n.toNat x.toNat : Nat) : Int) = g at *
  constructor
  · rw [Int.le_ediv_iff_mul_le (by omega)]; omega
  · exact Int.le_trans (Int.ediv_le_self _ (by omega)) hx'
theorem lcm2_pos {n x : Int} (hn : 1 ≤ n) (hn' : n ≤ 1099511627776) (hx : 1 ≤ x) (hx' : x ≤ 1099511627776) : 1 ≤ lcm2 n x := by
  have ⟨h1, _⟩ := quo_bd hn hn' hx hx'
  unfold lcm2
  generalize x / ((Nat.gcd n.toNat x.toNat : Nat) : Int) = q at *
  have : 0 < n * q := Int.mul_pos (by omega) (by omega)
  omega

theorem sumAll_or (l : List Int) : ∀ n, (∃ m, sumAll n l = (m, 0)) ∨ sumAll n l = (0, 10) := by
  induction l with
  | nil => intro n; exact Or.inl ⟨n, rfl⟩
  | cons x r ih =>
    intro n; rw [sumAll]; split
    · exact ih _
    · exact Or.inr rfl
theorem lcmAll_or (l : List Int) : ∀ n, (∃ m, lcmAll n l = (m, 0)) ∨ lcmAll n l = (0, 10) := by
  induction l with
  | nil => intro n; exact Or.inl ⟨n, rfl⟩
  | cons x r ih =>
    intro n; rw [lcmAll]; split
    · exact ih _
    · exact Or.inr rfl
theorem sumR_no {l : List Int} (h : l.all tk = false) : sumR l = (0, 2) := by simp [sumR, h]
theorem sumR_yes {l : List Int} (h : l.all tk = true) : sumR l = sumAll 0 l := by simp [sumR, h]
theorem lcmR_no1 {limit : Int} {l : List Int} (h : tk limit = false) : lcmR limit l = (0, 2) := by simp [lcmR, h]
theorem lcmR_no2 {limit : Int} {l : List Int} (h : l.all ok1 = false) : lcmR limit l = (0, 2) := by simp [lcmR, h]
theorem lcmR_yes {limit : Int} {l : List Int} (h : tk limit = true) (h2 : l.all ok1 = true) : lcmR limit l = cutTo limit (lcmAll 1 l) := by simp [lcmR, h, h2]
theorem all_ok1 (l : List Int) : l.all ok1 = (l.all tk && !l.contains 0) := by
  induction l with
  | nil => rfl
  | cons x r ih =>
    rw [List.all_cons, ih, List.all_cons, List.contains_cons]
    have e : ok1 x = (tk x && !((0 : Int) == x)) := by
      unfold ok1
      by_cases h : x = 0
      · subst h; rfl
      · have h' : ((0 : Int) == x) = false := by simp; omega
        rw [h']; simp [h]
    rw [e]
    cases tk x <;> cases ((0 : Int) == x) <;> simp
theorem take_has_step {zs : List Int} {k : Nat} {v : Int} (h : k < zs.length) (ht : (zs.take k).contains v = false) (hv : (v == zs.getD k 0) = false) : (zs.take (k + 1)).contains v = false := by
  rw [List.take_add_one]
  simp only [List.getD, List.getElem?_eq_getElem h, Option.getD_some] at hv
  have e : zs[k]?.toList = [zs[k]] := by rw [List.getElem?_eq_getElem h]; rfl
  rw [e]
  rw [Bool.eq_false_iff] at ht hv ⊢
  intro hc
  simp only [List.contains_iff_mem, List.mem_append, List.mem_singleton] at hc
  rcases hc with hc | hc
  · exact ht (List.contains_iff_mem.2 hc)
  · exact hv (beq_iff_eq.2 hc)
theorem has_at {zs : List Int} {k : Nat} {v : Int} (h : k < zs.length) (hv : (v == zs.getD k 0) = true) : zs.contains v = true := by
  simp only [List.getD, List.getElem?_eq_getElem h, Option.getD_some, beq_iff_eq] at hv
  rw [List.contains_iff_mem, hv]; exact List.getElem_mem h

end Go.Proofs.YtkkmfpllgjoceaaGreat.Dm.Tk

namespace Go.Proofs.YtkkmfpllgjoceaaGreat.Dm.De
open Tk
set_option linter.unusedVariables false
set_option maxRecDepth 100000

/-- may a task be asked? -/
def tOK (t : Nat → Int) : Bool := decide (1 ≤ t 0) && decide (t 0 ≤ 64) && decide (1 ≤ t 1) && decide (t 1 ≤ t 0) && decide (1 ≤ t 2) && decide (t 2 ≤ t 1)
theorem tOK_iff {t : Nat → Int} : tOK t = true ↔ 1 ≤ t 0 ∧ t 0 ≤ 64 ∧ 1 ≤ t 1 ∧ t 1 ≤ t 0 ∧ 1 ≤ t 2 ∧ t 2 ≤ t 1 := by
  simp [tOK, and_assoc]
def allT (z : Nat → Nat → Int) : Nat → Bool
  | 0 => true
  | k + 1 => allT z k && tOK (z k)
theorem allT_at {z : Nat → Nat → Int} : ∀ {n : Nat}, allT z n = true → ∀ {i : Nat}, i < n → tOK (z i) = true
  | 0, _, _, h => by cases h
  | n + 1, h, i, hi => by
    unfold allT at h
    rw [Bool.and_eq_true] at h
    by_cases hc : i = n
    · subst hc; exact h.2
    · exact allT_at h.1 (by omega)
theorem allT_all {z : Nat → Nat → Int} : ∀ {n : Nat}, (∀ i, i < n → tOK (z i) = true) → allT z n = true
  | 0, _ => rfl
  | n + 1, h => by unfold allT; rw [allT_all (fun i hi => h i (by omega)), h n (by omega)]; rfl
theorem allT_no {z : Nat → Nat → Int} {n i : Nat} (hi : i < n) (h : tOK (z i) = false) : allT z n = false := by
  cases e : allT z n with
  | false => rfl
  | true => rw [allT_at e hi] at h; cases h
def tasksOK (n : Nat) (z : Nat → Nat → Int) : Bool := decide (n ≤ 4) && allT z n
def inMore (x : Int) : Bool := decide (0 ≤ x) && decide (x ≤ 4096)
def moreOK (xs : List Int) : Bool := xs.all inMore
theorem more_no {xs : List Int} {k : Nat} (hk : k < xs.length) (h : inMore (xs.getD k 0) = false) : moreOK xs = false := by
  cases e : moreOK xs with
  | false => rfl
  | true => rw [moreOK] at e; rw [all_at e hk] at h; cases h
theorem more_all {xs : List Int} (h : ∀ k, k < xs.length → inMore (xs.getD k 0) = true) : moreOK xs = true := by
  rw [moreOK, List.all_eq_true]
  intro x hx
  obtain ⟨k, hk, rfl⟩ := List.getElem_of_mem hx
  have := h k hk
  simpa [List.getD, List.getElem?_eq_getElem hk] using this
def chk (n : Nat) (z : Nat → Nat → Int) (xs : List Int) : Bool := tasksOK n z && decide (xs.length = n) && moreOK xs
def chkE (n : Nat) (z : Nat → Nat → Int) (xs : List Int) : Int := if chk n z xs then 0 else 2
/-- the numbers of a task -/
def per (z : Nat → Nat → Int) (i : Nat) : Nat := (z i 0).toNat
def dea (z : Nat → Nat → Int) (i : Nat) : Nat := (z i 1).toNat
def asks (z : Nat → Nat → Int) (xs : List Int) (i : Nat) : Nat := (z i 2 + xs.getD i 0).toNat
/-- tasks that may be asked, told by naturals -/
structure Good (n : Nat) (z : Nat → Nat → Int) : Prop where
  n4 : n ≤ 4
  at' : ∀ i, i < n → z i 0 = (per z i : Int) ∧ z i 1 = (dea z i : Int) ∧ 0 < per z i ∧ per z i ≤ 64 ∧ 0 < dea z i ∧ dea z i ≤ per z i ∧ 1 ≤ z i 2 ∧ z i 2 ≤ dea z i
theorem good_of {n : Nat} {z : Nat → Nat → Int} (h : tasksOK n z = true) : Good n z := by
  unfold tasksOK at h
  rw [Bool.and_eq_true] at h
  refine ⟨of_decide_eq_true h.1, fun i hi => ?_⟩
  have := tOK_iff.1 (allT_at h.2 hi)
  unfold per dea
  omega
theorem Good.task {n : Nat} {z : Nat → Nat → Int} (h : Good n z) {i : Nat} (hi : i < n) : tOK (z i) = true := by
  have := h.at' i hi
  rw [tOK_iff]
  omega
theorem Good.ok {n : Nat} {z : Nat → Nat → Int} (h : Good n z) : tasksOK n z = true := by
  unfold tasksOK
  rw [allT_all (fun i hi => h.task hi), decide_eq_true h.n4]
  rfl
structure Goods (n : Nat) (z : Nat → Nat → Int) (xs : List Int) : Prop where
  t : Good n z
  l : xs.length = n
  m : ∀ i, i < n → 0 ≤ xs.getD i 0 ∧ xs.getD i 0 ≤ 4096 ∧ z i 2 + xs.getD i 0 = (asks z xs i : Int) ∧ asks z xs i ≤ 4160
theorem goods_of {n : Nat} {z : Nat → Nat → Int} {xs : List Int} (h : chk n z xs = true) : Goods n z xs := by
  unfold chk at h
  rw [Bool.and_eq_true, Bool.and_eq_true] at h
  have hg := good_of h.1.1
  have hl : xs.length = n := of_decide_eq_true h.1.2
  refine ⟨hg, hl, fun i hi => ?_⟩
  have h1 := all_at h.2 (show i < xs.length by omega)
  have h2 := hg.at' i hi
  simp only [inMore, Bool.and_eq_true, decide_eq_true_eq] at h1
  unfold asks
  omega
theorem Goods.ok {n : Nat} {z : Nat → Nat → Int} {xs : List Int} (h : Goods n z xs) : chk n z xs = true := by
  unfold chk
  rw [h.t.ok, decide_eq_true h.l, more_all (fun k hk => by
    have := h.m k (by have := h.l; omega)
    simp only [inMore, Bool.and_eq_true, decide_eq_true_eq]; omega)]
  rfl

/-- the demand of t ticks -/
def dem (P D J : Nat → Nat) (t : Nat) : Nat → Nat
  | 0 => 0
  | k + 1 => dem P D J t k + jobs (P k) (D k) t * J k
theorem jobs_le {P D t : Nat} (hP : 0 < P) (hD : 0 < D) : jobs P D t ≤ t := by
  unfold jobs
  by_cases h : t < D
  · rw [if_pos h]; omega
  · rw [if_neg h]
    have := Nat.div_le_self (t - D) P
    omega
theorem prod_le {P D J t : Nat} (hP : 0 < P) (hD : 0 < D) (hJ : J ≤ 4160) (ht : t ≤ 1048576) : jobs P D t * J ≤ 4362076160 := by
  have h1 := jobs_le (t := t) hP hD
  have : jobs P D t * J ≤ 1048576 * 4160 := Nat.mul_le_mul (by omega) hJ
  omega
theorem Goods.dem_le {n : Nat} {z : Nat → Nat → Int} {xs : List Int} (h : Goods n z xs) {t : Nat} (ht : t ≤ 1048576) : ∀ {k : Nat}, k ≤ n → dem (per z) (dea z) (asks z xs) t k ≤ k * 4362076160
  | 0, _ => Nat.zero_le _
  | k + 1, hk => by
    have := h.dem_le ht (k := k) (by omega)
    have h1 := h.t.at' k (by omega)
    have := prod_le (t := t) h1.2.2.1 h1.2.2.2.2.1 (h.m k (by omega)).2.2.2 ht
    unfold dem
    omega
/-- the use in T ticks -/
def use (P J : Nat → Nat) (T : Nat) : Nat → Nat
  | 0 => 0
  | k + 1 => use P J T k + T / P k * J k
theorem Goods.use_le {n : Nat} {z : Nat → Nat → Int} {xs : List Int} (h : Goods n z xs) {T : Nat} (ht : T ≤ 1048576) : ∀ {k : Nat}, k ≤ n → use (per z) (asks z xs) T k ≤ k * 4362076160
  | 0, _ => Nat.zero_le _
  | k + 1, hk => by
    have := h.use_le ht (k := k) (by omega)
    have h1 := Nat.div_le_self T (per z k)
    have : T / per z k * asks z xs k ≤ 1048576 * 4160 := Nat.mul_le_mul (by omega) (h.m k (by omega)).2.2.2
    unfold use
    omega
/-- all of them divide T -/
def dvs (P : Nat → Nat) (T : Nat) : Nat → Bool
  | 0 => true
  | k + 1 => dvs P T k && decide (T % P k = 0)
theorem dvs_iff {P : Nat → Nat} {T : Nat} : ∀ {n : Nat}, dvs P T n = true ↔ ∀ i, i < n → T % P i = 0
  | 0 => by simp [dvs]
  | n + 1 => by
    unfold dvs
    rw [Bool.and_eq_true, dvs_iff, decide_eq_true_eq]
    exact ⟨fun h i hi => by
      by_cases e : i = n
      · subst e; exact h.2
      · exact h.1 i (by omega), fun h => ⟨fun i hi => h i (by omega), h n (by omega)⟩⟩
/-- from a to b -/
def inn (a b x : Int) : Bool := decide (a ≤ x) && decide (x ≤ b)
theorem inn_iff {a b x : Int} : inn a b x = true ↔ a ≤ x ∧ x ≤ b := by simp [inn]
theorem inn_nat {a b x : Int} (h : inn a b x = true) (ha : 0 ≤ a) : ∃ t : Nat, x = t := ⟨x.toNat, by have := inn_iff.1 h; omega⟩
def ofR (n : Nat) (z : Nat → Nat → Int) (xs : List Int) (t : Int) : Int × Int :=
  if chk n z xs && inn 0 1048576 t then ((dem (per z) (dea z) (asks z xs) t.toNat n : Nat), 0) else (0, 2)
theorem ofR_no1 {n : Nat} {z : Nat → Nat → Int} {xs : List Int} {t : Int} (h : chk n z xs = false) : ofR n z xs t = (0, 2) := by simp [ofR, h]
theorem ofR_no2 {n : Nat} {z : Nat → Nat → Int} {xs : List Int} {t : Int} (h : inn 0 1048576 t = false) : ofR n z xs t = (0, 2) := by simp [ofR, h]
theorem ofR_ok {n : Nat} {z : Nat → Nat → Int} {xs : List Int} {t : Nat} (h : chk n z xs = true) (ht : t ≤ 1048576) : ofR n z xs t = (((dem (per z) (dea z) (asks z xs) t n : Nat) : Int), 0) := by
  unfold ofR
  rw [h, inn_iff.2 (⟨by omega, by omega⟩ : (0 : Int) ≤ (t : Int) ∧ (t : Int) ≤ 1048576)]
  rfl
def useR (n : Nat) (z : Nat → Nat → Int) (xs : List Int) (t : Int) : Int × Int :=
  if chk n z xs && inn 1 1048576 t && dvs (per z) t.toNat n then ((use (per z) (asks z xs) t.toNat n : Nat), 0) else (0, 2)
theorem useR_no1 {n : Nat} {z : Nat → Nat → Int} {xs : List Int} {t : Int} (h : chk n z xs = false) : useR n z xs t = (0, 2) := by simp [useR, h]
theorem useR_no2 {n : Nat} {z : Nat → Nat → Int} {xs : List Int} {t : Int} (h : inn 1 1048576 t = false) : useR n z xs t = (0, 2) := by simp [useR, h]
theorem useR_no3 {n : Nat} {z : Nat → Nat → Int} {xs : List Int} {t : Nat} (h : dvs (per z) t n = false) : useR n z xs t = (0, 2) := by simp [useR, h]
theorem useR_ok {n : Nat} {z : Nat → Nat → Int} {xs : List Int} {t : Nat} (h : chk n z xs = true) (h0 : 0 < t) (ht : t ≤ 1048576) (hd : dvs (per z) t n = true) : useR n z xs t = (((use (per z) (asks z xs) t n : Nat) : Int), 0) := by
  unfold useR
  rw [h, inn_iff.2 (⟨by omega, by omega⟩ : (1 : Int) ≤ (t : Int) ∧ (t : Int) ≤ 1048576), show ((t : Int)).toNat = t from rfl, hd]
  rfl

/-- the least common multiple of a list -/
def lcmN : Nat → List Nat → Nat
  | m, [] => m
  | m, x :: r => lcmN (Nat.lcm m x) r
theorem lcmN_dvd : ∀ {l : List Nat} {m T : Nat}, lcmN m l ∣ T ↔ m ∣ T ∧ ∀ x ∈ l, x ∣ T
  | [], m, T => by simp [lcmN]
  | x :: r, m, T => by
    rw [lcmN, lcmN_dvd, Nat.lcm_dvd_iff]
    simp [and_assoc]
theorem lcm2_nat {n x : Nat} (hn : 0 < n) (hx : 0 < x) : lcm2 (n : Int) (x : Int) = (Nat.lcm n x : Nat) := by
  unfold lcm2
  rw [Int.toNat_natCast, Int.toNat_natCast, Nat.lcm]
  have hg : 0 < Nat.gcd n x := Nat.gcd_pos_of_pos_left _ hn
  rw [Nat.mul_div_assoc _ (Nat.gcd_dvd_right n x)]
  push_cast
  rfl
theorem lcm_le_mul {n x : Nat} : Nat.lcm n x ≤ n * x := Nat.div_le_self _ _
theorem lcmAll_nat : ∀ {l : List Nat} {m : Nat}, 0 < m → (∀ x ∈ l, 0 < x ∧ x ≤ 64) → m * 64 ^ l.length ≤ 1099511627776 → lcmAll (m : Int) (l.map (fun x : Nat => (x : Int))) = (((lcmN m l : Nat) : Int), 0)
  | [], m, _, _, _ => rfl
  | x :: r, m, hm, hx, hb => by
    have h1 := hx x (by simp)
    have hpos : 0 < Nat.lcm m x := Nat.lcm_pos hm h1.1
    have hle : Nat.lcm m x ≤ m * 64 := Nat.le_trans lcm_le_mul (Nat.mul_le_mul_left _ h1.2)
    have hb2 : Nat.lcm m x * 64 ^ r.length ≤ 1099511627776 := by
      refine Nat.le_trans (Nat.mul_le_mul_right _ hle) ?_
      rw [List.length_cons, Nat.pow_succ] at hb
      rw [Nat.mul_assoc, Nat.mul_comm 64]
      exact hb
    have hc : Nat.lcm m x ≤ 1099511627776 := Nat.le_trans (Nat.le_mul_of_pos_right _ (Nat.pow_pos (by decide))) hb2
    rw [List.map_cons, lcmAll, lcm2_nat hm h1.1, if_pos (by omega), lcmAll_nat hpos (fun y hy => hx y (by simp [hy])) hb2]
    rfl
/-- the periods of tasks, and one more -/
def pers (z : Nat → Nat → Int) (n : Nat) : List Nat := (List.range n).map (per z)
def hypL (n : Nat) (z : Nat → Nat → Int) (p : Nat) : Nat := lcmN 1 (pers z n ++ [p])
theorem hypL_dvd {n : Nat} {z : Nat → Nat → Int} {p T : Nat} : hypL n z p ∣ T ↔ p ∣ T ∧ ∀ i, i < n → per z i ∣ T := by
  unfold hypL
  rw [lcmN_dvd]
  constructor
  · intro ⟨_, h⟩
    exact ⟨h p (by simp), fun i hi => h _ (by simp [pers]; exact Or.inl ⟨i, hi, rfl⟩)⟩
  · intro ⟨h1, h2⟩
    refine ⟨Nat.one_dvd _, fun x hx => ?_⟩
    rw [List.mem_append, List.mem_singleton] at hx
    rcases hx with hx | rfl
    · obtain ⟨i, hi, rfl⟩ := List.mem_map.1 hx
      exact h2 i (by simpa using hi)
    · exact h1
theorem lcmN_pos : ∀ {l : List Nat} {m : Nat}, 0 < m → (∀ x ∈ l, 0 < x) → 0 < lcmN m l
  | [], _, h, _ => h
  | x :: r, m, h, hx => lcmN_pos (l := r) (Nat.lcm_pos h (hx x (by simp))) (fun y hy => hx y (by simp [hy]))
theorem Good.pers_bd {n : Nat} {z : Nat → Nat → Int} (h : Good n z) {p : Nat} (hp : 0 < p) (hp2 : p ≤ 64) : ∀ x ∈ pers z n ++ [p], 0 < x ∧ x ≤ 64 := by
  intro x hx
  rw [List.mem_append, List.mem_singleton] at hx
  rcases hx with hx | rfl
  · obtain ⟨i, hi, rfl⟩ := List.mem_map.1 hx
    have := h.at' i (by simpa using hi)
    exact ⟨this.2.2.1, this.2.2.2.1⟩
  · exact ⟨hp, hp2⟩
theorem Good.hyp_pos {n : Nat} {z : Nat → Nat → Int} (h : Good n z) {p : Nat} (hp : 0 < p) (hp2 : p ≤ 64) : 0 < hypL n z p :=
  lcmN_pos (by decide) (fun x hx => (h.pers_bd hp hp2 x hx).1)
def hyR (n : Nat) (z : Nat → Nat → Int) (p : Int) : Int × Int :=
  if tasksOK n z && inn 1 64 p then if hypL n z p.toNat ≤ 4096 then ((hypL n z p.toNat : Nat), 0) else (0, 5) else (0, 2)
theorem hyR_no1 {n : Nat} {z : Nat → Nat → Int} {p : Int} (h : tasksOK n z = false) : hyR n z p = (0, 2) := by simp [hyR, h]
theorem hyR_no2 {n : Nat} {z : Nat → Nat → Int} {p : Int} (h : inn 1 64 p = false) : hyR n z p = (0, 2) := by simp [hyR, h]
theorem hyR_yes {n : Nat} {z : Nat → Nat → Int} {p : Nat} (h : tasksOK n z = true) (hp : inn 1 64 (p : Int) = true) : hyR n z p = if hypL n z p ≤ 4096 then (((hypL n z p : Nat) : Int), 0) else (0, 5) := by
  unfold hyR
  rw [h, hp]
  rfl
/-- what Lcm answers of the periods -/
theorem Good.lcm_of {n : Nat} {z : Nat → Nat → Int} (h : Good n z) {p : Nat} (hp : 0 < p) (hp2 : p ≤ 64) :
    lcmR 4096 ((pers z n ++ [p]).map (fun x : Nat => (x : Int))) = if hypL n z p ≤ 4096 then (((hypL n z p : Nat) : Int), 0) else (0, 10) := by
  have hbd := h.pers_bd hp hp2
  have hall : ((pers z n ++ [p]).map (fun x : Nat => (x : Int))).all ok1 = true := by
    rw [List.all_eq_true]
    intro x hx
    obtain ⟨y, hy, rfl⟩ := List.mem_map.1 hx
    have := hbd y hy
    rw [ok1_iff]
    omega
  have hlen : (pers z n ++ [p]).length ≤ 5 := by
    have := h.n4
    simp [pers]
    omega
  have hpow : 1 * 64 ^ (pers z n ++ [p]).length ≤ 1099511627776 := by
    rw [Nat.one_mul]
    exact Nat.le_trans (Nat.pow_le_pow_right (by decide) hlen) (by decide)
  have key := lcmAll_nat (l := pers z n ++ [p]) (m := 1) (by decide) hbd hpow
  rw [lcmR_yes (tk_yes (by omega) (by omega)) hall]
  have k2 : lcmAll 1 ((pers z n ++ [p]).map (fun x : Nat => (x : Int))) = (((hypL n z p : Nat) : Int), 0) := key
  rw [k2]
  unfold cutTo
  by_cases hc : hypL n z p ≤ 4096
  · rw [if_pos rfl, if_pos (by show ((hypL n z p : Nat) : Int) ≤ 4096; omega), if_pos hc]
  · rw [if_pos rfl, if_neg (by show ¬ ((hypL n z p : Nat) : Int) ≤ 4096; omega), if_neg hc]
end Go.Proofs.YtkkmfpllgjoceaaGreat.Dm.De

namespace Go.Proofs.YtkkmfpllgjoceaaGreat.Dm
open Go.RowKit Tk De
set_option linter.unusedVariables false
set_option maxRecDepth 100000
def IsB (b : Bool) (w : World) (e : Ending) (w' : World) : Prop := e = .returned (.bool b) ∧ w = w'

/-- tasks that can be read -/
def TK (w : World) (v : Value) (n : Nat) (z : Nat → Nat → Int) : Prop :=
  ∃ a cap, v = .slice a n cap ∧ n ≤ cap ∧ cap ≤ maxLen ∧ (a = none → cap = 0) ∧
    (0 < n → ∃ b off, a = some ⟨b, off, none⟩ ∧ ∀ i, i < n → ∀ j, j < 8 → w.cell? ⟨b, off + i * 8 + j, none⟩ = some (.int .i64 (z i j)))
/-- the eight cells of a task -/
structure TC (w : World) (b o : Nat) (t : Nat → Int) : Prop where
  c0 : w.cell? ⟨b, o, none⟩ = some (.int .i64 (t 0))
  c1 : w.cell? ⟨b, o + 1, none⟩ = some (.int .i64 (t 1))
  c2 : w.cell? ⟨b, o + 2, none⟩ = some (.int .i64 (t 2))
  c3 : w.cell? ⟨b, o + 3, none⟩ = some (.int .i64 (t 3))
  c4 : w.cell? ⟨b, o + 4, none⟩ = some (.int .i64 (t 4))
  c5 : w.cell? ⟨b, o + 5, none⟩ = some (.int .i64 (t 5))
  c6 : w.cell? ⟨b, o + 6, none⟩ = some (.int .i64 (t 6))
  c7 : w.cell? ⟨b, o + 7, none⟩ = some (.int .i64 (t 7))
theorem TK.at {w : World} {n cap : Nat} {a : Option Addr} {m : Nat} {z : Nat → Nat → Int} (h : TK w (.slice a n cap) m z) {i : Nat} (hi : i < n) : ∃ b off, a = some ⟨b, off, none⟩ ∧ TC w b (off + i * 8) (z i) := by
  obtain ⟨a', cap', e, h1, h2, h3, h4⟩ := h
  obtain ⟨rfl, rfl, rfl⟩ : a = a' ∧ n = m ∧ cap = cap' := by simpa using e
  obtain ⟨b, off, rfl, hc⟩ := h4 (by omega)
  exact ⟨b, off, rfl, hc i hi 0 (by decide), hc i hi 1 (by decide), hc i hi 2 (by decide), hc i hi 3 (by decide), hc i hi 4 (by decide), hc i hi 5 (by decide), hc i hi 6 (by decide), hc i hi 7 (by decide)⟩
/-- two of them lie in one block -/
theorem TK.at2 {w : World} {n cap : Nat} {a : Option Addr} {m : Nat} {z : Nat → Nat → Int} (h : TK w (.slice a n cap) m z) {i j : Nat} (hi : i < n) (hj : j < n) : ∃ b off, a = some ⟨b, off, none⟩ ∧ TC w b (off + i * 8) (z i) ∧ TC w b (off + j * 8) (z j) := by
  obtain ⟨b, off, rfl, h1⟩ := h.at hi
  obtain ⟨b', off', e, h2⟩ := h.at hj
  injection e with e
  injection e with e1 e2 _
  subst e1; subst e2
  exact ⟨b, off, rfl, h1, h2⟩
theorem TK.slice {w : World} {v : Value} {n : Nat} {z : Nat → Nat → Int} (h : TK w v n z) : ∃ a cap, v = .slice a n cap ∧ n ≤ cap ∧ cap ≤ maxLen := by obtain ⟨a, cap, h1, h2, h3, _⟩ := h; exact ⟨a, cap, h1, h2, h3⟩
theorem TK.below {w w' : World} {v : Value} {n : Nat} {z : Nat → Nat → Int} (h : TK w v n z) (q : Below w.heap.size w w') : TK w' v n z := by
  obtain ⟨a, cap, h1, h2, h3, h4, h5⟩ := h
  exact ⟨a, cap, h1, h2, h3, h4, fun hn => by obtain ⟨b, off, e, hc⟩ := h5 hn; exact ⟨b, off, e, fun i hi j hj => (q.cell (World.block_lt_of_cell? _ _ (hc i hi j hj))).trans (hc i hi j hj)⟩⟩
theorem TK.nil (w : World) (z : Nat → Nat → Int) : TK w (.slice none 0 0) 0 z := ⟨none, 0, rfl, Nat.le_refl _, Nat.zero_le _, fun _ => rfl, fun h => by cases h⟩
theorem TK.take {w : World} {a : Option Addr} {n cap m : Nat} {z : Nat → Nat → Int} (h : TK w (.slice a n cap) m z) {j : Nat} (hj : j ≤ n) : TK w (.slice a j cap) j z := by
  obtain ⟨a', cap', e, h1, h2, h3, h4⟩ := h
  obtain ⟨rfl, rfl, rfl⟩ : a = a' ∧ n = m ∧ cap = cap' := by simpa using e
  refine ⟨_, _, rfl, by omega, h2, h3, fun hp => ?_⟩
  obtain ⟨b, off, rfl, hc⟩ := h4 (by omega)
  exact ⟨b, off, rfl, fun i hi k hk => hc i (by omega) k hk⟩
/-- a task that the call has copied -/
def tko (t : Nat → Int) : Obj := .cells #[.int .i64 (t 0), .int .i64 (t 1), .int .i64 (t 2), .int .i64 (t 3), .int .i64 (t 4), .int .i64 (t 5), .int .i64 (t 6), .int .i64 (t 7)] 55
theorem tko_new (w : World) (t : Nat → Int) : (w.alloc (tko t)).cell? ⟨w.heap.size, 1, none⟩ = some (.int .i64 (t 1)) := cell_of_row _ _ 1 _ _ _ (heap_alloc_new w (tko t))
theorem tko_old {w : World} {p : Addr} {x : Value} (t : Nat → Int) (h : w.cell? p = some x) : (w.alloc (tko t)).cell? p = some x := (((Below.refl _ w).alloc (Nat.le_refl _) _).cell (World.block_lt_of_cell? _ _ h)).trans h
theorem below_drewN {B : Nat} {a b : World} (h : Below B a b) (n : Nat) : Below B a (b.drewN n) := ⟨h.os, h.tape, h.output, h.size, h.block⟩
/-- a bool, a number is answered; what was there is as it was -/
def YB (b : Bool) (w : World) (e : Ending) (w' : World) : Prop := e = .returned (.bool b) ∧ Below w.heap.size w w'
def YI (n : Int) (w : World) (e : Ending) (w' : World) : Prop := e = .returned (.int .i64 n) ∧ Below w.heap.size w w'
theorem chn {w w1 w2 : World} (h : Below w.heap.size w w1) (k : Below w1.heap.size w1 w2) : Below w.heap.size w w2 := h.trans (k.mono h.size)
/-- numbers that can be read -/
def IS (w : World) (v : Value) (xs : List Int) : Prop :=
  ∃ a cap, v = .slice a xs.length cap ∧ xs.length ≤ cap ∧ cap ≤ maxLen ∧ (a = none → cap = 0) ∧ (0 < xs.length → ∃ b off, a = some ⟨b, off, none⟩ ∧ ∀ i, i < xs.length → w.cell? ⟨b, off + i, none⟩ = some (.int .i64 (xs.getD i 0)))
theorem IS.nil (w : World) : IS w (.slice none 0 0) [] := ⟨none, 0, rfl, Nat.le_refl _, Nat.zero_le _, fun _ => rfl, fun h => by cases h⟩
theorem IS.slice {w : World} {v : Value} {xs : List Int} (h : IS w v xs) : ∃ a cap, v = .slice a xs.length cap ∧ xs.length ≤ cap ∧ cap ≤ maxLen := by obtain ⟨a, cap, h1, h2, h3, _⟩ := h; exact ⟨a, cap, h1, h2, h3⟩
theorem IS.below {w w' : World} {v : Value} {xs : List Int} (h : IS w v xs) (q : Below w.heap.size w w') : IS w' v xs := by
  obtain ⟨a, cap, h1, h2, h3, h4, h5⟩ := h
  exact ⟨a, cap, h1, h2, h3, h4, fun hn => by obtain ⟨b, off, e, hc⟩ := h5 hn; exact ⟨b, off, e, fun i hi => (q.cell (World.block_lt_of_cell? _ _ (hc i hi))).trans (hc i hi)⟩⟩
theorem IS.at {w : World} {n cap : Nat} {a : Option Addr} {xs : List Int} (h : IS w (.slice a n cap) xs) {i : Nat} (hi : i < n) : ∃ b off, a = some ⟨b, off, none⟩ ∧ w.cell? ⟨b, off + i, none⟩ = some (.int .i64 (xs.getD i 0)) := by
  obtain ⟨a', cap', e, h1, h2, h3, h4⟩ := h
  obtain ⟨rfl, rfl, rfl⟩ : a = a' ∧ n = xs.length ∧ cap = cap' := by simpa using e
  obtain ⟨b, off, rfl, hc⟩ := h4 (by omega)
  exact ⟨b, off, rfl, hc i hi⟩
theorem IS.take {w : World} {a : Option Addr} {n cap : Nat} {xs : List Int} (h : IS w (.slice a n cap) xs) {j : Nat} (hj : j ≤ n) : IS w (.slice a j cap) (xs.take j) := by
  obtain ⟨a', cap', e, h1, h2, h3, h4⟩ := h
  obtain ⟨rfl, rfl, rfl⟩ : a = a' ∧ n = xs.length ∧ cap = cap' := by simpa using e
  have hl : (xs.take j).length = j := by simp; omega
  refine ⟨_, _, by rw [hl], by omega, h2, h3, fun hp => ?_⟩
  rw [hl] at hp
  obtain ⟨b, off, rfl, hc⟩ := h4 (by omega)
  refine ⟨b, off, rfl, fun i hi => ?_⟩
  rw [hl] at hi
  rw [hc i (by omega)]
  simp only [List.getD, List.getElem?_take]
  rw [if_pos hi]
theorem bel_of_alloc {w w1 : World} {o : Obj} (h : Below (w.alloc o).heap.size (w.alloc o) w1) : Below w.heap.size w w1 := ((Below.refl _ w).alloc (Nat.le_refl _) o).trans (h.mono (by simp))
theorem tOK_in (t : Nat → Int) : tOK t = (inn 1 64 (t 0) && inn 1 (t 0) (t 1) && inn 1 (t 1) (t 2)) := by
  rw [Bool.eq_iff_iff]
  simp only [tOK_iff, Bool.and_eq_true, inn_iff]
  omega
theorem within_any (n a b : Int) (w : World) : Calls Tryz.prog 120 #[.int .i64 n, .int .i64 a, .int .i64 b] w (IsB (inn a b n) w) := by
  unfold inn
  cases h0 : decide (a ≤ n) with
  | false =>
    go_enter Tryz.func120, Tryz.ntmps120
    go_wp2
    go_ret
    exact ⟨by simp, rfl⟩
  | true =>
    go_enter Tryz.func120, Tryz.ntmps120
    go_wp2
    go_ret
    exact ⟨by simp, rfl⟩
theorem within_fit {n a b : Int} {t : Bool} (h : inn a b n = t) (w : World) : Calls Tryz.prog 120 #[.int .i64 n, .int .i64 a, .int .i64 b] w (IsB t w) := by subst h; exact within_any n a b w
set_option maxHeartbeats 1000000 in
theorem tasksMayBe_any {w : World} {v : Value} {n : Nat} {z : Nat → Nat → Int} (h : TK w v n z) : Calls Tryz.prog 64 #[v] w (YB (tasksOK n z) w) := by
  obtain ⟨a, cap, rfl, hn1, hn2⟩ := h.slice
  have HP := Lib.hid h
  clear h
  cases hx : decide (n ≤ 4) with
  | false =>
    have hn : decide ((4 : Int) < (n : Int)) = true := by have := of_decide_eq_false hx; simp; omega
    have HF : Hid (tasksOK n z = false) := by unfold Hid tasksOK; rw [hx]; rfl
    clear hx
    go_enter Tryz.func64, Tryz.ntmps64
    go_wp2_with fail
    go_ret
    exact ⟨by rw [HF.out]; rfl, Below.refl _ _⟩
  | true =>
    have hn4 : n ≤ 4 := of_decide_eq_true hx
    have hn : decide ((4 : Int) < (n : Int)) = false := by simp; omega
    obtain ⟨R, hR⟩ : ∃ R, R = tasksOK n z := ⟨_, rfl⟩
    have HR := Lib.hid hR
    have HT : Hid (tasksOK n z = allT z n) := by unfold Hid tasksOK; rw [hx]; rfl
    rw [← hR]
    clear hx hR
    go_enter Tryz.func64, Tryz.ntmps64
    go_wp2_with fail
    go_loopw [10] (fun i wr => ∃ k : Nat, k ≤ n ∧ i = .int .i64 k ∧ Hid (allT z k = true) ∧ Hid (Below w.heap.size w wr)) (fun i _ => n - (intOf i).toNat)
    case atStart => exact ⟨0, by omega, rfl, rfl, Below.refl _ _⟩
    case round =>
      obtain ⟨k, hk, rfl, HA, HB⟩ := hrel
      by_cases hlt : k < n
      · obtain ⟨b, off, rfl, c⟩ := (HP.out.below HB.out).at hlt
        obtain ⟨c0, c1, c2, c3, c4, c5, c6, c7⟩ := c
        have HB2 := Lib.hid (HB.out.alloc HB.out.size (tko (z k)))
        unfold tko at HB2
        have HNo : Hid (tOK (z k) = false → R = false) := fun h => by rw [HR.out, HT.out, allT_no hlt h]
        have HYes : Hid (tOK (z k) = true → allT z (k + 1) = true) := fun h => by unfold allT; rw [HA.out, h]; rfl
        have HI := Lib.hid (tOK_in (z k))
        cases g0 : inn 1 64 (z k 0) with
        | false =>
          have HE : Hid (R = false) := HNo.out (by rw [HI.out, g0]; rfl)
          have G0 := Lib.hid (within_fit g0)
          clear g0 HI HNo HYes
          go_wp2_with fail
          refine (G0.out _).mono ?_
          rintro e w1 ⟨rfl, rfl⟩
          go_wp2_with fail
          go_ret
          exact ⟨by rw [HE.out]; rfl, HB2.out⟩
        | true =>
          cases g1 : inn 1 (z k 0) (z k 1) with
          | false =>
            have HE : Hid (R = false) := HNo.out (by rw [HI.out, g0, g1]; rfl)
            have G0 := Lib.hid (within_fit g0); have G1 := Lib.hid (within_fit g1)
            clear g0 g1 HI HNo HYes
            go_wp2_with fail
            refine (G0.out _).mono ?_
            rintro e w1 ⟨rfl, rfl⟩
            go_wp2_with fail
            refine (G1.out _).mono ?_
            rintro e w1 ⟨rfl, rfl⟩
            go_wp2_with fail
            go_ret
            exact ⟨by rw [HE.out]; rfl, HB2.out⟩
          | true =>
            cases g2 : inn 1 (z k 1) (z k 2) with
            | false =>
              have HE : Hid (R = false) := HNo.out (by rw [HI.out, g0, g1, g2]; rfl)
              have G0 := Lib.hid (within_fit g0); have G1 := Lib.hid (within_fit g1); have G2 := Lib.hid (within_fit g2)
              clear g0 g1 g2 HI HNo HYes
              go_wp2_with fail
              refine (G0.out _).mono ?_
              rintro e w1 ⟨rfl, rfl⟩
              go_wp2_with fail
              refine (G1.out _).mono ?_
              rintro e w1 ⟨rfl, rfl⟩
              go_wp2_with fail
              refine (G2.out _).mono ?_
              rintro e w1 ⟨rfl, rfl⟩
              go_wp2_with fail
              go_ret
              exact ⟨by rw [HE.out]; rfl, HB2.out⟩
            | true =>
              have HE : Hid (allT z (k + 1) = true) := HYes.out (by rw [HI.out, g0, g1, g2]; rfl)
              have G0 := Lib.hid (within_fit g0); have G1 := Lib.hid (within_fit g1); have G2 := Lib.hid (within_fit g2)
              clear g0 g1 g2 HI HNo HYes HA
              go_wp2_with fail
              refine (G0.out _).mono ?_
              rintro e w1 ⟨rfl, rfl⟩
              go_wp2_with fail
              refine (G1.out _).mono ?_
              rintro e w1 ⟨rfl, rfl⟩
              go_wp2_with fail
              refine (G2.out _).mono ?_
              rintro e w1 ⟨rfl, rfl⟩
              go_wp2_with fail
              go_roundw
              case rel => exact ⟨k + 1, by omega, by go_num, HE, HB2.out⟩
              case measure => simp [intOf]; omega
      · obtain rfl : k = n := by omega
        have HE : Hid (R = true) := by rw [Hid, HR.out, HT.out, HA.out]
        go_wp2_with fail
        go_ret
        exact ⟨by rw [HE.out]; rfl, HB.out⟩
theorem areMore_any {w : World} {v : Value} {xs : List Int} (h : IS w v xs) : Calls Tryz.prog 65 #[v] w (IsB (moreOK xs) w) := by
  obtain ⟨a, cap, rfl, hn1, hn2⟩ := h.slice
  have HP := Lib.hid h
  clear h
  obtain ⟨n, hn⟩ : ∃ n, n = xs.length := ⟨_, rfl⟩
  have HN := Lib.hid hn
  rw [← hn] at hn1 HP ⊢
  have hmx : n ≤ 9223372036854775807 := by unfold maxLen at hn2; omega
  clear hn
  obtain ⟨R, hR⟩ : ∃ R, R = moreOK xs := ⟨_, rfl⟩
  have HR := Lib.hid hR
  rw [← hR]
  clear hR
  go_enter Tryz.func65, Tryz.ntmps65
  go_wp2_with fail
  go_loop [7] (fun i => ∃ k : Nat, k ≤ n ∧ i = .int .i64 k ∧ Hid (∀ j, j < k → inMore (xs.getD j 0) = true)) (fun i => n - (intOf i).toNat)
  case atStart => exact ⟨0, by omega, rfl, fun j hj => by omega⟩
  case round =>
    obtain ⟨k, hk, rfl, HA⟩ := hrel
    by_cases hlt : k < n
    · obtain ⟨b, off, rfl, c⟩ := HP.out.at hlt
      cases g : inMore (xs.getD k 0) with
      | false =>
        have HE : Hid (R = false) := HR.out.trans (more_no (by rw [← HN.out]; exact hlt) g)
        have G0 := Lib.hid (within_fit (n := xs.getD k 0) (a := 0) (b := 4096) g)
        clear g
        generalize xs.getD k 0 = x at *
        go_wp2_with fail
        refine (G0.out _).mono ?_
        rintro e w1 ⟨rfl, rfl⟩
        go_wp2_with fail
        go_ret
        exact ⟨by rw [HE.out]; rfl, rfl⟩
      | true =>
        have HE : Hid (∀ j, j < k + 1 → inMore (xs.getD j 0) = true) := fun j hj => by
          by_cases e : j = k
          · rw [e]; exact g
          · exact HA.out j (by omega)
        have G0 := Lib.hid (within_fit (n := xs.getD k 0) (a := 0) (b := 4096) g)
        clear g HA
        obtain ⟨x, hx⟩ : ∃ x, x = xs.getD k 0 := ⟨_, rfl⟩
        rw [← hx] at c G0
        clear hx
        go_wp2_with fail
        refine (G0.out _).mono ?_
        rintro e w1 ⟨rfl, rfl⟩
        go_wp2_with fail
        go_round
        case rel => exact ⟨k + 1, by omega, by go_num, HE⟩
        case measure => simp [intOf]; omega
    · obtain rfl : k = n := by omega
      have HE : Hid (R = true) := HR.out.trans (more_all (by rw [← HN.out]; exact HA.out))
      go_wp2_with fail
      go_ret
      exact ⟨by rw [HE.out]; rfl, rfl⟩
theorem check_any {w : World} {v u : Value} {n : Nat} {z : Nat → Nat → Int} {xs : List Int} (h : TK w v n z) (hx : IS w u xs) : Calls Tryz.prog 15 #[v, u] w (YI (chkE n z xs) w) := by
  have H1 := Lib.hid (tasksMayBe_any h)
  obtain ⟨a, cap, rfl, hn1, hn2⟩ := h.slice
  have HX := Lib.hid hx
  obtain ⟨b, cap2, rfl, hm1, hm2⟩ := hx.slice
  obtain ⟨m, hm⟩ : ∃ m, m = xs.length := ⟨_, rfl⟩
  have HC : Hid (chkE n z xs = if tasksOK n z && decide (m = n) && moreOK xs then 0 else 2) := by rw [hm]; rfl
  rw [← hm] at hm1 HX ⊢
  clear hm h hx
  cases g0 : tasksOK n z with
  | false =>
    rw [g0] at H1 HC
    clear g0
    go_enter Tryz.func15, Tryz.ntmps15
    go_wp2_with fail
    refine H1.out.mono ?_
    rintro e w1 ⟨rfl, hb⟩
    have HB := Lib.hid hb
    clear hb
    go_wp2_with fail
    go_ret
    exact ⟨by rw [HC.out]; rfl, HB.out⟩
  | true =>
    rw [g0] at H1 HC
    clear g0
    cases g1 : decide (m = n) with
    | false =>
      have g2 : ((m : Int) != (n : Int)) = true := by have := of_decide_eq_false g1; simp; omega
      rw [g1] at HC
      clear g1
      go_enter Tryz.func15, Tryz.ntmps15
      go_wp2_with fail
      refine H1.out.mono ?_
      rintro e w1 ⟨rfl, hb⟩
      have HB := Lib.hid hb
      clear hb
      go_wp2_with fail
      go_ret
      exact ⟨by rw [HC.out]; rfl, HB.out⟩
    | true =>
      obtain rfl := of_decide_eq_true g1
      rw [g1] at HC
      clear g1
      cases g2 : moreOK xs with
      | false =>
        rw [g2] at HC
        go_enter Tryz.func15, Tryz.ntmps15
        go_wp2_with fail
        refine H1.out.mono ?_
        rintro e w1 ⟨rfl, hb⟩
        have HB := Lib.hid hb
        have H2 := Lib.hid (areMore_any (HX.out.below hb))
        rw [g2] at H2
        clear hb
        go_wp2_with fail
        refine H2.out.mono ?_
        rintro e w2 ⟨rfl, rfl⟩
        go_wp2_with fail
        go_ret
        exact ⟨by rw [HC.out]; rfl, HB.out⟩
      | true =>
        rw [g2] at HC
        go_enter Tryz.func15, Tryz.ntmps15
        go_wp2_with fail
        refine H1.out.mono ?_
        rintro e w1 ⟨rfl, hb⟩
        have HB := Lib.hid hb
        have H2 := Lib.hid (areMore_any (HX.out.below hb))
        rw [g2] at H2
        clear hb
        go_wp2_with fail
        refine H2.out.mono ?_
        rintro e w2 ⟨rfl, rfl⟩
        go_wp2_with fail
        go_ret
        exact ⟨by rw [HC.out]; rfl, HB.out⟩
end Go.Proofs.YtkkmfpllgjoceaaGreat.Dm
