/- Plain numbers of layer 1 (ticks): what Add, Sub, Mul, Div, Gcd, Lcm and Sum come to, as functions on Int and lists of Int. Nothing of the program is imported. -/
namespace Go.Proofs.Ytfjeoefnpcgnnaa.Tk
set_option linter.unusedVariables false

def top : Int := 1099511627776
def tk (n : Int) : Bool := decide (0 ≤ n) && decide (n ≤ 1099511627776)

theorem tk_yes {n : Int} (h : 0 ≤ n) (k : n ≤ 1099511627776) : tk n = true := by simp [tk, h, k]
theorem tk_lo {n : Int} (h : n < 0) : tk n = false := by simp [tk]; omega
theorem tk_hi {n : Int} (h : 1099511627776 < n) : tk n = false := by simp [tk]; omega
theorem tk_cases (n : Int) : (n < 0 ∧ tk n = false) ∨ (1099511627776 < n ∧ tk n = false) ∨ (0 ≤ n ∧ n ≤ 1099511627776 ∧ tk n = true) := by
  by_cases h : 0 ≤ n
  · by_cases k : n ≤ 1099511627776
    · exact Or.inr (Or.inr ⟨h, k, tk_yes h k⟩)
    · exact Or.inr (Or.inl ⟨by omega, tk_hi (by omega)⟩)
  · exact Or.inl ⟨by omega, tk_lo (by omega)⟩
theorem tk_iff (n : Int) : tk n = true ↔ 0 ≤ n ∧ n ≤ 1099511627776 := by simp [tk]

/-- a number and an error's number -/
def addN (a b : Int) : Int := if tk a && tk b && decide (a + b ≤ 1099511627776) then a + b else 0
def addE (a b : Int) : Int := if tk a && tk b then if a + b ≤ 1099511627776 then 0 else 10 else 2
def subN (a b : Int) : Int := if tk a && tk b && decide (b ≤ a) then a - b else 0
def subE (a b : Int) : Int := if tk a && tk b && decide (b ≤ a) then 0 else 2
def mulN (a b : Int) : Int := if tk a && tk b && decide (a * b ≤ 1099511627776) then a * b else 0
def mulE (a b : Int) : Int := if tk a && tk b then if a * b ≤ 1099511627776 then 0 else 10 else 2
def divN (a b : Int) : Int := if tk a && tk b && decide (0 < b) then a / b else 0
def divE (a b : Int) : Int := if tk a && tk b && decide (0 < b) then 0 else 2
def gcdN (a b : Int) : Int := if tk a && tk b then (Nat.gcd a.toNat b.toNat : Nat) else 0
def gcdE (a b : Int) : Int := if tk a && tk b then 0 else 2

theorem addN_no1 {a b : Int} (h : tk a = false) : addN a b = 0 := by simp [addN, h]
theorem addE_no1 {a b : Int} (h : tk a = false) : addE a b = 2 := by simp [addE, h]
theorem addN_no2 {a b : Int} (h : tk b = false) : addN a b = 0 := by simp [addN, h]
theorem addE_no2 {a b : Int} (h : tk b = false) : addE a b = 2 := by simp [addE, h]
theorem addN_over {a b : Int} (h : 1099511627776 < a + b) : addN a b = 0 := by unfold addN; rw [if_neg]; simp; omega
theorem addE_over {a b : Int} (ha : tk a = true) (hb : tk b = true) (h : 1099511627776 < a + b) : addE a b = 10 := by
  simp only [addE, ha, hb, Bool.and_self, if_true]; rw [if_neg (by omega)]
theorem addN_ok {a b : Int} (ha : tk a = true) (hb : tk b = true) (h : a + b ≤ 1099511627776) : addN a b = a + b := by simp [addN, ha, hb, h]
theorem addE_ok {a b : Int} (ha : tk a = true) (hb : tk b = true) (h : a + b ≤ 1099511627776) : addE a b = 0 := by simp [addE, ha, hb, h]

theorem subN_no1 {a b : Int} (h : tk a = false) : subN a b = 0 := by simp [subN, h]
theorem subE_no1 {a b : Int} (h : tk a = false) : subE a b = 2 := by simp [subE, h]
theorem subN_no2 {a b : Int} (h : tk b = false) : subN a b = 0 := by simp [subN, h]
theorem subE_no2 {a b : Int} (h : tk b = false) : subE a b = 2 := by simp [subE, h]
theorem subN_no3 {a b : Int} (h : a < b) : subN a b = 0 := by unfold subN; rw [if_neg]; simp; omega
theorem subE_no3 {a b : Int} (h : a < b) : subE a b = 2 := by unfold subE; rw [if_neg]; simp; omega
theorem subN_ok {a b : Int} (ha : tk a = true) (hb : tk b = true) (h : b ≤ a) : subN a b = a - b := by simp [subN, ha, hb, h]
theorem subE_ok {a b : Int} (ha : tk a = true) (hb : tk b = true) (h : b ≤ a) : subE a b = 0 := by simp [subE, ha, hb, h]

theorem mulN_no1 {a b : Int} (h : tk a = false) : mulN a b = 0 := by simp [mulN, h]
theorem mulE_no1 {a b : Int} (h : tk a = false) : mulE a b = 2 := by simp [mulE, h]
theorem mulN_no2 {a b : Int} (h : tk b = false) : mulN a b = 0 := by simp [mulN, h]
theorem mulE_no2 {a b : Int} (h : tk b = false) : mulE a b = 2 := by simp [mulE, h]
theorem mulN_over {a b : Int} (h : 1099511627776 < a * b) : mulN a b = 0 := by
  unfold mulN; rw [if_neg]; simp only [Bool.and_eq_true, decide_eq_true_eq, not_and, Int.not_le]; exact fun _ => h
theorem mulE_over {a b : Int} (ha : tk a = true) (hb : tk b = true) (h : 1099511627776 < a * b) : mulE a b = 10 := by
  simp only [mulE, ha, hb, Bool.and_self, if_true]; rw [if_neg (Int.not_le.2 h)]
theorem mulN_ok {a b : Int} (ha : tk a = true) (hb : tk b = true) (h : a * b ≤ 1099511627776) : mulN a b = a * b := by simp [mulN, ha, hb, h]
theorem mulE_ok {a b : Int} (ha : tk a = true) (hb : tk b = true) (h : a * b ≤ 1099511627776) : mulE a b = 0 := by simp [mulE, ha, hb, h]

theorem divN_no1 {a b : Int} (h : tk a = false) : divN a b = 0 := by simp [divN, h]
theorem divE_no1 {a b : Int} (h : tk a = false) : divE a b = 2 := by simp [divE, h]
theorem divN_no2 {a b : Int} (h : tk b = false) : divN a b = 0 := by simp [divN, h]
theorem divE_no2 {a b : Int} (h : tk b = false) : divE a b = 2 := by simp [divE, h]
theorem divN_no3 {a : Int} : divN a 0 = 0 := by simp [divN]
theorem divE_no3 {a : Int} : divE a 0 = 2 := by simp [divE]
theorem divN_ok {a b : Int} (ha : tk a = true) (hb : tk b = true) (h : 0 < b) : divN a b = a / b := by simp [divN, ha, hb, h]
theorem divE_ok {a b : Int} (ha : tk a = true) (hb : tk b = true) (h : 0 < b) : divE a b = 0 := by simp [divE, ha, hb, h]

theorem gcdN_no1 {a b : Int} (h : tk a = false) : gcdN a b = 0 := by simp [gcdN, h]
theorem gcdE_no1 {a b : Int} (h : tk a = false) : gcdE a b = 2 := by simp [gcdE, h]
theorem gcdN_no2 {a b : Int} (h : tk b = false) : gcdN a b = 0 := by simp [gcdN, h]
theorem gcdE_no2 {a b : Int} (h : tk b = false) : gcdE a b = 2 := by simp [gcdE, h]
theorem gcdN_ok {a b : Int} (ha : tk a = true) (hb : tk b = true) : gcdN a b = (Nat.gcd a.toNat b.toNat : Nat) := by simp [gcdN, ha, hb]
theorem gcdE_ok {a b : Int} (ha : tk a = true) (hb : tk b = true) : gcdE a b = 0 := by simp [gcdE, ha, hb]

theorem gcd_step (a b : Int) (ha : 0 ≤ a) (hb : 0 < b) : Nat.gcd a.toNat b.toNat = Nat.gcd b.toNat (a % b).toNat := by
  have e : (a % b).toNat = a.toNat % b.toNat := by
    rw [Int.toNat_emod ha (by omega)]
  rw [e, Nat.gcd_comm, Nat.gcd_rec, Nat.gcd_comm]
theorem gcd_end (a : Int) (ha : 0 ≤ a) : (Nat.gcd a.toNat (0 : Int).toNat : Int) = a := by
  simp; omega

/-- a product against the horizon, asked by a quotient -/
theorem mul_over_iff {a b : Int} (hb : 0 < b) : 1099511627776 / b < a ↔ 1099511627776 < a * b := by
  rw [Int.ediv_lt_iff_lt_mul hb]
theorem mul_bd {a b : Int} (h : a ≤ 1099511627776 / b) (hb : 0 < b) : a * b ≤ 1099511627776 := by
  rw [Int.le_ediv_iff_mul_le hb] at h; exact h

/-- all of a list added to n, one behind the other: the number, and an error's number (the number counts for nothing then) -/
def sumAll : Int → List Int → Int × Int
  | n, [] => (n, 0)
  | n, x :: r => if n + x ≤ 1099511627776 then sumAll (n + x) r else (0, 10)
/-- the next one of n and x: their least common multiple -/
def lcm2 (n x : Int) : Int := n * (x / (Nat.gcd n.toNat x.toNat : Nat))
def lcmAll : Int → List Int → Int × Int
  | n, [] => (n, 0)
  | n, x :: r => if lcm2 n x ≤ 1099511627776 then lcmAll (lcm2 n x) r else (0, 10)
def ok1 (x : Int) : Bool := tk x && decide (x ≠ 0)
def sumR (l : List Int) : Int × Int := if l.all tk then sumAll 0 l else (0, 2)
def cutTo (limit : Int) (r : Int × Int) : Int × Int := if r.2 = 0 then if r.1 ≤ limit then r else (0, 10) else r
def lcmR (limit : Int) (l : List Int) : Int × Int := if tk limit && l.all ok1 then cutTo limit (lcmAll 1 l) else (0, 2)

theorem drop_step (zs : List Int) (k : Nat) (h : k < zs.length) : zs.drop k = zs.getD k 0 :: zs.drop (k + 1) := by
  rw [List.drop_eq_getElem_cons h]; simp [List.getD, List.getElem?_eq_getElem h]
theorem sum_go {zs : List Int} {k : Nat} {n : Int} (h : k < zs.length) (hs : n + zs.getD k 0 ≤ 1099511627776) : sumAll n (zs.drop k) = sumAll (n + zs.getD k 0) (zs.drop (k + 1)) := by
  rw [drop_step zs k h, sumAll, if_pos hs]
theorem sum_halt {zs : List Int} {k : Nat} {n : Int} (h : k < zs.length) (hs : 1099511627776 < n + zs.getD k 0) : sumAll n (zs.drop k) = (0, 10) := by
  rw [drop_step zs k h, sumAll, if_neg (by omega)]
theorem sum_end {zs : List Int} {k : Nat} {n : Int} (h : k = zs.length) : sumAll n (zs.drop k) = (n, 0) := by
  rw [h, List.drop_length, sumAll]
theorem lcm_go {zs : List Int} {k : Nat} {n : Int} (h : k < zs.length) (hs : lcm2 n (zs.getD k 0) ≤ 1099511627776) : lcmAll n (zs.drop k) = lcmAll (lcm2 n (zs.getD k 0)) (zs.drop (k + 1)) := by
  rw [drop_step zs k h, lcmAll, if_pos hs]
theorem lcm_halt {zs : List Int} {k : Nat} {n : Int} (h : k < zs.length) (hs : 1099511627776 < lcm2 n (zs.getD k 0)) : lcmAll n (zs.drop k) = (0, 10) := by
  rw [drop_step zs k h, lcmAll, if_neg (by omega)]
theorem lcm_end {zs : List Int} {k : Nat} {n : Int} (h : k = zs.length) : lcmAll n (zs.drop k) = (n, 0) := by
  rw [h, List.drop_length, lcmAll]
theorem all_at {p : Int → Bool} {zs : List Int} {k : Nat} (h : zs.all p = true) (hk : k < zs.length) : p (zs.getD k 0) = true := by
  rw [List.all_eq_true] at h
  simp only [List.getD, List.getElem?_eq_getElem hk, Option.getD_some]
  exact h _ (List.getElem_mem hk)
theorem ok1_iff (x : Int) : ok1 x = true ↔ 1 ≤ x ∧ x ≤ 1099511627776 := by
  simp [ok1, tk]; omega
/-- the divisor, the quotient and the product of a step -/
theorem gcd_bd {n x : Int} (hn : 1 ≤ n) (hn' : n ≤ 1099511627776) (hx : 1 ≤ x) (hx' : x ≤ 1099511627776) :
    1 ≤ ((Nat.gcd n.toNat x.toNat : Nat) : Int) ∧ ((Nat.gcd n.toNat x.toNat : Nat) : Int) ≤ 1099511627776 := by
  have h1 : 0 < Nat.gcd n.toNat x.toNat := Nat.gcd_pos_of_pos_left _ (by omega)
  have h2 : Nat.gcd n.toNat x.toNat ≤ n.toNat := Nat.gcd_le_left _ (by omega)
  omega
theorem quo_bd {n x : Int} (hn : 1 ≤ n) (hn' : n ≤ 1099511627776) (hx : 1 ≤ x) (hx' : x ≤ 1099511627776) :
    1 ≤ x / ((Nat.gcd n.toNat x.toNat : Nat) : Int) ∧ x / ((Nat.gcd n.toNat x.toNat : Nat) : Int) ≤ 1099511627776 := by
  have ⟨h1, h2⟩ := gcd_bd hn hn' hx hx'
  have h3 : Nat.gcd n.toNat x.toNat ≤ x.toNat := Nat.gcd_le_right _ (by omega)
  have h4 : ((Nat.gcd n.toNat x.toNat : Nat) : Int) ≤ x := by omega
  generalize ((Nat.gcd n.toNat x.toNat : Nat) : Int) = g at *
  constructor
  · rw [Int.le_ediv_iff_mul_le (by omega)]; omega
  · exact Int.le_trans (Int.ediv_le_self _ (by omega)) hx'
theorem lcm2_pos {n x : Int} (hn : 1 ≤ n) (hn' : n ≤ 1099511627776) (hx : 1 ≤ x) (hx' : x ≤ 1099511627776) : 1 ≤ lcm2 n x := by
  have ⟨h1, _⟩ := quo_bd hn hn' hx hx'
  unfold lcm2
  generalize x / ((Nat.gcd n.toNat x.toNat : Nat) : Int) = q at *
  have : 0 < n * q := Int.mul_pos (by omega) (by omega)
  omega

theorem sumAll_or (l : List Int) : ∀ n, (∃ m, sumAll n l = (m, 0)) ∨ sumAll n l = (0, 10) := by
  induction l with
  | nil => intro n; exact Or.inl ⟨n, rfl⟩
  | cons x r ih =>
    intro n; rw [sumAll]; split
    · exact ih _
    · exact Or.inr rfl
theorem lcmAll_or (l : List Int) : ∀ n, (∃ m, lcmAll n l = (m, 0)) ∨ lcmAll n l = (0, 10) := by
  induction l with
  | nil => intro n; exact Or.inl ⟨n, rfl⟩
  | cons x r ih =>
    intro n; rw [lcmAll]; split
    · exact ih _
    · exact Or.inr rfl
theorem sumR_no {l : List Int} (h : l.all tk = false) : sumR l = (0, 2) := by simp [sumR, h]
theorem sumR_yes {l : List Int} (h : l.all tk = true) : sumR l = sumAll 0 l := by simp [sumR, h]
theorem lcmR_no1 {limit : Int} {l : List Int} (h : tk limit = false) : lcmR limit l = (0, 2) := by simp [lcmR, h]
theorem lcmR_no2 {limit : Int} {l : List Int} (h : l.all ok1 = false) : lcmR limit l = (0, 2) := by simp [lcmR, h]
theorem lcmR_yes {limit : Int} {l : List Int} (h : tk limit = true) (h2 : l.all ok1 = true) : lcmR limit l = cutTo limit (lcmAll 1 l) := by simp [lcmR, h, h2]
theorem all_ok1 (l : List Int) : l.all ok1 = (l.all tk && !l.contains 0) := by
  induction l with
  | nil => rfl
  | cons x r ih =>
    rw [List.all_cons, ih, List.all_cons, List.contains_cons]
    have e : ok1 x = (tk x && !((0 : Int) == x)) := by
      unfold ok1
      by_cases h : x = 0
      · subst h; rfl
      · have h' : ((0 : Int) == x) = false := by simp; omega
        rw [h']; simp [h]
    rw [e]
    cases tk x <;> cases ((0 : Int) == x) <;> simp
theorem take_has_step {zs : List Int} {k : Nat} {v : Int} (h : k < zs.length) (ht : (zs.take k).contains v = false) (hv : (v == zs.getD k 0) = false) : (zs.take (k + 1)).contains v = false := by
  rw [List.take_add_one]
  simp only [List.getD, List.getElem?_eq_getElem h, Option.getD_some] at hv
  have e : zs[k]?.toList = [zs[k]] := by rw [List.getElem?_eq_getElem h]; rfl
  rw [e]
  rw [Bool.eq_false_iff] at ht hv ⊢
  intro hc
  simp only [List.contains_iff_mem, List.mem_append, List.mem_singleton] at hc
  rcases hc with hc | hc
  · exact ht (List.contains_iff_mem.2 hc)
  · exact hv (beq_iff_eq.2 hc)
theorem has_at {zs : List Int} {k : Nat} {v : Int} (h : k < zs.length) (hv : (v == zs.getD k 0) = true) : zs.contains v = true := by
  simp only [List.getD, List.getElem?_eq_getElem h, Option.getD_some, beq_iff_eq] at hv
  rw [List.contains_iff_mem, hv]; exact List.getElem_mem h

end Go.Proofs.Ytfjeoefnpcgnnaa.Tk
