/- Tasks that may be asked, the demand, the hyperperiod, the use, plainly. -/
import Derived.Test.YtfjeoefnpcgnnaaDemP
import Derived.Test.YtfjeoefnpcgnnaaPlain
namespace Go.Proofs.Ytfjeoefnpcgnnaa.De
open Tk
set_option linter.unusedVariables false

/-- may a task be asked? -/
def tOK (t : Nat → Int) : Bool := decide (1 ≤ t 0) && decide (t 0 ≤ 64) && decide (1 ≤ t 1) && decide (t 1 ≤ t 0) && decide (1 ≤ t 2) && decide (t 2 ≤ t 1)
theorem tOK_iff {t : Nat → Int} : tOK t = true ↔ 1 ≤ t 0 ∧ t 0 ≤ 64 ∧ 1 ≤ t 1 ∧ t 1 ≤ t 0 ∧ 1 ≤ t 2 ∧ t 2 ≤ t 1 := by
  simp [tOK, and_assoc]
def allT (z : Nat → Nat → Int) : Nat → Bool
  | 0 => true
  | k + 1 => allT z k && tOK (z k)
theorem allT_at {z : Nat → Nat → Int} : ∀ {n : Nat}, allT z n = true → ∀ {i : Nat}, i < n → tOK (z i) = true
  | 0, _, _, h => by cases h
  | n + 1, h, i, hi => by
    unfold allT at h
    rw [Bool.and_eq_true] at h
    by_cases hc : i = n
    · subst hc; exact h.2
    · exact allT_at h.1 (by omega)
theorem allT_all {z : Nat → Nat → Int} : ∀ {n : Nat}, (∀ i, i < n → tOK (z i) = true) → allT z n = true
  | 0, _ => rfl
  | n + 1, h => by unfold allT; rw [allT_all (fun i hi => h i (by omega)), h n (by omega)]; rfl
theorem allT_no {z : Nat → Nat → Int} {n i : Nat} (hi : i < n) (h : tOK (z i) = false) : allT z n = false := by
  cases e : allT z n with
  | false => rfl
  | true => rw [allT_at e hi] at h; cases h
def tasksOK (n : Nat) (z : Nat → Nat → Int) : Bool := decide (n ≤ 4) && allT z n
def inMore (x : Int) : Bool := decide (0 ≤ x) && decide (x ≤ 4096)
def moreOK (xs : List Int) : Bool := xs.all inMore
theorem more_no {xs : List Int} {k : Nat} (hk : k < xs.length) (h : inMore (xs.getD k 0) = false) : moreOK xs = false := by
  cases e : moreOK xs with
  | false => rfl
  | true => rw [moreOK] at e; rw [all_at e hk] at h; cases h
theorem more_all {xs : List Int} (h : ∀ k, k < xs.length → inMore (xs.getD k 0) = true) : moreOK xs = true := by
  rw [moreOK, List.all_eq_true]
  intro x hx
  obtain ⟨k, hk, rfl⟩ := List.getElem_of_mem hx
  have := h k hk
  simpa [List.getD, List.getElem?_eq_getElem hk] using this
def chk (n : Nat) (z : Nat → Nat → Int) (xs : List Int) : Bool := tasksOK n z && decide (xs.length = n) && moreOK xs
def chkE (n : Nat) (z : Nat → Nat → Int) (xs : List Int) : Int := if chk n z xs then 0 else 2
/-- the numbers of a task -/
def per (z : Nat → Nat → Int) (i : Nat) : Nat := (z i 0).toNat
def dea (z : Nat → Nat → Int) (i : Nat) : Nat := (z i 1).toNat
def asks (z : Nat → Nat → Int) (xs : List Int) (i : Nat) : Nat := (z i 2 + xs.getD i 0).toNat
/-- tasks that may be asked, told by naturals -/
structure Good (n : Nat) (z : Nat → Nat → Int) : Prop where
  n4 : n ≤ 4
  at' : ∀ i, i < n → z i 0 = (per z i : Int) ∧ z i 1 = (dea z i : Int) ∧ 0 < per z i ∧ per z i ≤ 64 ∧ 0 < dea z i ∧ dea z i ≤ per z i ∧ 1 ≤ z i 2 ∧ z i 2 ≤ dea z i
theorem good_of {n : Nat} {z : Nat → Nat → Int} (h : tasksOK n z = true) : Good n z := by
  unfold tasksOK at h
  rw [Bool.and_eq_true] at h
  refine ⟨of_decide_eq_true h.1, fun i hi => ?_⟩
  have := tOK_iff.1 (allT_at h.2 hi)
  unfold per dea
  omega
theorem Good.task {n : Nat} {z : Nat → Nat → Int} (h : Good n z) {i : Nat} (hi : i < n) : tOK (z i) = true := by
  have := h.at' i hi
  rw [tOK_iff]
  omega
theorem Good.ok {n : Nat} {z : Nat → Nat → Int} (h : Good n z) : tasksOK n z = true := by
  unfold tasksOK
  rw [allT_all (fun i hi => h.task hi), decide_eq_true h.n4]
  rfl
structure Goods (n : Nat) (z : Nat → Nat → Int) (xs : List Int) : Prop where
  t : Good n z
  l : xs.length = n
  m : ∀ i, i < n → 0 ≤ xs.getD i 0 ∧ xs.getD i 0 ≤ 4096 ∧ z i 2 + xs.getD i 0 = (asks z xs i : Int) ∧ asks z xs i ≤ 4160
theorem goods_of {n : Nat} {z : Nat → Nat → Int} {xs : List Int} (h : chk n z xs = true) : Goods n z xs := by
  unfold chk at h
  rw [Bool.and_eq_true, Bool.and_eq_true] at h
  have hg := good_of h.1.1
  have hl : xs.length = n := of_decide_eq_true h.1.2
  refine ⟨hg, hl, fun i hi => ?_⟩
  have h1 := all_at h.2 (show i < xs.length by omega)
  have h2 := hg.at' i hi
  simp only [inMore, Bool.and_eq_true, decide_eq_true_eq] at h1
  unfold asks
  omega
theorem Goods.ok {n : Nat} {z : Nat → Nat → Int} {xs : List Int} (h : Goods n z xs) : chk n z xs = true := by
  unfold chk
  rw [h.t.ok, decide_eq_true h.l, more_all (fun k hk => by
    have := h.m k (by have := h.l; omega)
    simp only [inMore, Bool.and_eq_true, decide_eq_true_eq]; omega)]
  rfl

/-- the demand of t ticks -/
def dem (P D J : Nat → Nat) (t : Nat) : Nat → Nat
  | 0 => 0
  | k + 1 => dem P D J t k + jobs (P k) (D k) t * J k
theorem jobs_le {P D t : Nat} (hP : 0 < P) (hD : 0 < D) : jobs P D t ≤ t := by
  unfold jobs
  by_cases h : t < D
  · rw [if_pos h]; omega
  · rw [if_neg h]
    have := Nat.div_le_self (t - D) P
    omega
theorem prod_le {P D J t : Nat} (hP : 0 < P) (hD : 0 < D) (hJ : J ≤ 4160) (ht : t ≤ 1048576) : jobs P D t * J ≤ 4362076160 := by
  have h1 := jobs_le (t := t) hP hD
  have : jobs P D t * J ≤ 1048576 * 4160 := Nat.mul_le_mul (by omega) hJ
  omega
theorem Goods.dem_le {n : Nat} {z : Nat → Nat → Int} {xs : List Int} (h : Goods n z xs) {t : Nat} (ht : t ≤ 1048576) : ∀ {k : Nat}, k ≤ n → dem (per z) (dea z) (asks z xs) t k ≤ k * 4362076160
  | 0, _ => Nat.zero_le _
  | k + 1, hk => by
    have := h.dem_le ht (k := k) (by omega)
    have h1 := h.t.at' k (by omega)
    have := prod_le (t := t) h1.2.2.1 h1.2.2.2.2.1 (h.m k (by omega)).2.2.2 ht
    unfold dem
    omega
/-- the use in T ticks -/
def use (P J : Nat → Nat) (T : Nat) : Nat → Nat
  | 0 => 0
  | k + 1 => use P J T k + T / P k * J k
theorem Goods.use_le {n : Nat} {z : Nat → Nat → Int} {xs : List Int} (h : Goods n z xs) {T : Nat} (ht : T ≤ 1048576) : ∀ {k : Nat}, k ≤ n → use (per z) (asks z xs) T k ≤ k * 4362076160
  | 0, _ => Nat.zero_le _
  | k + 1, hk => by
    have := h.use_le ht (k := k) (by omega)
    have h1 := Nat.div_le_self T (per z k)
    have : T / per z k * asks z xs k ≤ 1048576 * 4160 := Nat.mul_le_mul (by omega) (h.m k (by omega)).2.2.2
    unfold use
    omega
/-- all of them divide T -/
def dvs (P : Nat → Nat) (T : Nat) : Nat → Bool
  | 0 => true
  | k + 1 => dvs P T k && decide (T % P k = 0)
theorem dvs_iff {P : Nat → Nat} {T : Nat} : ∀ {n : Nat}, dvs P T n = true ↔ ∀ i, i < n → T % P i = 0
  | 0 => by simp [dvs]
  | n + 1 => by
    unfold dvs
    rw [Bool.and_eq_true, dvs_iff, decide_eq_true_eq]
    exact ⟨fun h i hi => by
      by_cases e : i = n
      · subst e; exact h.2
      · exact h.1 i (by omega), fun h => ⟨fun i hi => h i (by omega), h n (by omega)⟩⟩
/-- from a to b -/
def inn (a b x : Int) : Bool := decide (a ≤ x) && decide (x ≤ b)
theorem inn_iff {a b x : Int} : inn a b x = true ↔ a ≤ x ∧ x ≤ b := by simp [inn]
theorem inn_nat {a b x : Int} (h : inn a b x = true) (ha : 0 ≤ a) : ∃ t : Nat, x = t := ⟨x.toNat, by have := inn_iff.1 h; omega⟩
def ofR (n : Nat) (z : Nat → Nat → Int) (xs : List Int) (t : Int) : Int × Int :=
  if chk n z xs && inn 0 1048576 t then ((dem (per z) (dea z) (asks z xs) t.toNat n : Nat), 0) else (0, 2)
theorem ofR_no1 {n : Nat} {z : Nat → Nat → Int} {xs : List Int} {t : Int} (h : chk n z xs = false) : ofR n z xs t = (0, 2) := by simp [ofR, h]
theorem ofR_no2 {n : Nat} {z : Nat → Nat → Int} {xs : List Int} {t : Int} (h : inn 0 1048576 t = false) : ofR n z xs t = (0, 2) := by simp [ofR, h]
theorem ofR_ok {n : Nat} {z : Nat → Nat → Int} {xs : List Int} {t : Nat} (h : chk n z xs = true) (ht : t ≤ 1048576) : ofR n z xs t = (((dem (per z) (dea z) (asks z xs) t n : Nat) : Int), 0) := by
  unfold ofR
  rw [h, inn_iff.2 (⟨by omega, by omega⟩ : (0 : Int) ≤ (t : Int) ∧ (t : Int) ≤ 1048576)]
  rfl
def useR (n : Nat) (z : Nat → Nat → Int) (xs : List Int) (t : Int) : Int × Int :=
  if chk n z xs && inn 1 1048576 t && dvs (per z) t.toNat n then ((use (per z) (asks z xs) t.toNat n : Nat), 0) else (0, 2)
theorem useR_no1 {n : Nat} {z : Nat → Nat → Int} {xs : List Int} {t : Int} (h : chk n z xs = false) : useR n z xs t = (0, 2) := by simp [useR, h]
theorem useR_no2 {n : Nat} {z : Nat → Nat → Int} {xs : List Int} {t : Int} (h : inn 1 1048576 t = false) : useR n z xs t = (0, 2) := by simp [useR, h]
theorem useR_no3 {n : Nat} {z : Nat → Nat → Int} {xs : List Int} {t : Nat} (h : dvs (per z) t n = false) : useR n z xs t = (0, 2) := by simp [useR, h]
theorem useR_ok {n : Nat} {z : Nat → Nat → Int} {xs : List Int} {t : Nat} (h : chk n z xs = true) (h0 : 0 < t) (ht : t ≤ 1048576) (hd : dvs (per z) t n = true) : useR n z xs t = (((use (per z) (asks z xs) t n : Nat) : Int), 0) := by
  unfold useR
  rw [h, inn_iff.2 (⟨by omega, by omega⟩ : (1 : Int) ≤ (t : Int) ∧ (t : Int) ≤ 1048576), show ((t : Int)).toNat = t from rfl, hd]
  rfl

/-- the least common multiple of a list -/
def lcmN : Nat → List Nat → Nat
  | m, [] => m
  | m, x :: r => lcmN (Nat.lcm m x) r
theorem lcmN_dvd : ∀ {l : List Nat} {m T : Nat}, lcmN m l ∣ T ↔ m ∣ T ∧ ∀ x ∈ l, x ∣ T
  | [], m, T => by simp [lcmN]
  | x :: r, m, T => by
    rw [lcmN, lcmN_dvd, Nat.lcm_dvd_iff]
    simp [and_assoc]
theorem lcm2_nat {n x : Nat} (hn : 0 < n) (hx : 0 < x) : lcm2 (n : Int) (x : Int) = (Nat.lcm n x : Nat) := by
  unfold lcm2
  rw [Int.toNat_natCast, Int.toNat_natCast, Nat.lcm]
  have hg : 0 < Nat.gcd n x := Nat.gcd_pos_of_pos_left _ hn
  rw [Nat.mul_div_assoc _ (Nat.gcd_dvd_right n x)]
  push_cast
  rfl
theorem lcm_le_mul {n x : Nat} : Nat.lcm n x ≤ n * x := Nat.div_le_self _ _
theorem lcmAll_nat : ∀ {l : List Nat} {m : Nat}, 0 < m → (∀ x ∈ l, 0 < x ∧ x ≤ 64) → m * 64 ^ l.length ≤ 1099511627776 → lcmAll (m : Int) (l.map (fun x : Nat => (x : Int))) = (((lcmN m l : Nat) : Int), 0)
  | [], m, _, _, _ => rfl
  | x :: r, m, hm, hx, hb => by
    have h1 := hx x (by simp)
    have hpos : 0 < Nat.lcm m x := Nat.lcm_pos hm h1.1
    have hle : Nat.lcm m x ≤ m * 64 := Nat.le_trans lcm_le_mul (Nat.mul_le_mul_left _ h1.2)
    have hb2 : Nat.lcm m x * 64 ^ r.length ≤ 1099511627776 := by
      refine Nat.le_trans (Nat.mul_le_mul_right _ hle) ?_
      rw [List.length_cons, Nat.pow_succ] at hb
      rw [Nat.mul_assoc, Nat.mul_comm 64]
      exact hb
    have hc : Nat.lcm m x ≤ 1099511627776 := Nat.le_trans (Nat.le_mul_of_pos_right _ (Nat.pow_pos (by decide))) hb2
    rw [List.map_cons, lcmAll, lcm2_nat hm h1.1, if_pos (by omega), lcmAll_nat hpos (fun y hy => hx y (by simp [hy])) hb2]
    rfl
/-- the periods of tasks, and one more -/
def pers (z : Nat → Nat → Int) (n : Nat) : List Nat := (List.range n).map (per z)
def hypL (n : Nat) (z : Nat → Nat → Int) (p : Nat) : Nat := lcmN 1 (pers z n ++ [p])
theorem hypL_dvd {n : Nat} {z : Nat → Nat → Int} {p T : Nat} : hypL n z p ∣ T ↔ p ∣ T ∧ ∀ i, i < n → per z i ∣ T := by
  unfold hypL
  rw [lcmN_dvd]
  constructor
  · intro ⟨_, h⟩
    exact ⟨h p (by simp), fun i hi => h _ (by simp [pers]; exact Or.inl ⟨i, hi, rfl⟩)⟩
  · intro ⟨h1, h2⟩
    refine ⟨Nat.one_dvd _, fun x hx => ?_⟩
    rw [List.mem_append, List.mem_singleton] at hx
    rcases hx with hx | rfl
    · obtain ⟨i, hi, rfl⟩ := List.mem_map.1 hx
      exact h2 i (by simpa using hi)
    · exact h1
theorem lcmN_pos : ∀ {l : List Nat} {m : Nat}, 0 < m → (∀ x ∈ l, 0 < x) → 0 < lcmN m l
  | [], _, h, _ => h
  | x :: r, m, h, hx => lcmN_pos (l := r) (Nat.lcm_pos h (hx x (by simp))) (fun y hy => hx y (by simp [hy]))
theorem Good.pers_bd {n : Nat} {z : Nat → Nat → Int} (h : Good n z) {p : Nat} (hp : 0 < p) (hp2 : p ≤ 64) : ∀ x ∈ pers z n ++ [p], 0 < x ∧ x ≤ 64 := by
  intro x hx
  rw [List.mem_append, List.mem_singleton] at hx
  rcases hx with hx | rfl
  · obtain ⟨i, hi, rfl⟩ := List.mem_map.1 hx
    have := h.at' i (by simpa using hi)
    exact ⟨this.2.2.1, this.2.2.2.1⟩
  · exact ⟨hp, hp2⟩
theorem Good.hyp_pos {n : Nat} {z : Nat → Nat → Int} (h : Good n z) {p : Nat} (hp : 0 < p) (hp2 : p ≤ 64) : 0 < hypL n z p :=
  lcmN_pos (by decide) (fun x hx => (h.pers_bd hp hp2 x hx).1)
def hyR (n : Nat) (z : Nat → Nat → Int) (p : Int) : Int × Int :=
  if tasksOK n z && inn 1 64 p then if hypL n z p.toNat ≤ 4096 then ((hypL n z p.toNat : Nat), 0) else (0, 5) else (0, 2)
theorem hyR_no1 {n : Nat} {z : Nat → Nat → Int} {p : Int} (h : tasksOK n z = false) : hyR n z p = (0, 2) := by simp [hyR, h]
theorem hyR_no2 {n : Nat} {z : Nat → Nat → Int} {p : Int} (h : inn 1 64 p = false) : hyR n z p = (0, 2) := by simp [hyR, h]
theorem hyR_yes {n : Nat} {z : Nat → Nat → Int} {p : Nat} (h : tasksOK n z = true) (hp : inn 1 64 (p : Int) = true) : hyR n z p = if hypL n z p ≤ 4096 then (((hypL n z p : Nat) : Int), 0) else (0, 5) := by
  unfold hyR
  rw [h, hp]
  rfl
/-- what Lcm answers of the periods -/
theorem Good.lcm_of {n : Nat} {z : Nat → Nat → Int} (h : Good n z) {p : Nat} (hp : 0 < p) (hp2 : p ≤ 64) :
    lcmR 4096 ((pers z n ++ [p]).map (fun x : Nat => (x : Int))) = if hypL n z p ≤ 4096 then (((hypL n z p : Nat) : Int), 0) else (0, 10) := by
  have hbd := h.pers_bd hp hp2
  have hall : ((pers z n ++ [p]).map (fun x : Nat => (x : Int))).all ok1 = true := by
    rw [List.all_eq_true]
    intro x hx
    obtain ⟨y, hy, rfl⟩ := List.mem_map.1 hx
    have := hbd y hy
    rw [ok1_iff]
    omega
  have hlen : (pers z n ++ [p]).length ≤ 5 := by
    have := h.n4
    simp [pers]
    omega
  have hpow : 1 * 64 ^ (pers z n ++ [p]).length ≤ 1099511627776 := by
    rw [Nat.one_mul]
    exact Nat.le_trans (Nat.pow_le_pow_right (by decide) hlen) (by decide)
  have key := lcmAll_nat (l := pers z n ++ [p]) (m := 1) (by decide) hbd hpow
  rw [lcmR_yes (tk_yes (by omega) (by omega)) hall]
  have k2 : lcmAll 1 ((pers z n ++ [p]).map (fun x : Nat => (x : Int))) = (((hypL n z p : Nat) : Int), 0) := key
  rw [k2]
  unfold cutTo
  by_cases hc : hypL n z p ≤ 4096
  · rw [if_pos rfl, if_pos (by show ((hypL n z p : Nat) : Int) ≤ 4096; omega), if_pos hc]
  · rw [if_pos rfl, if_neg (by show ¬ ((hypL n z p : Nat) : Int) ≤ 4096; omega), if_neg hc]
end Go.Proofs.Ytfjeoefnpcgnnaa.De
