/- Partitions that may be asked, waits, what is more, delays, plainly. -/
import Derived.Test.YtfjeoefnpcgnnaaDemQ
namespace Go.Proofs.Ytfjeoefnpcgnnaa.Dl
open De
set_option linter.unusedVariables false

/-- a partition: its period, its budget, how many tasks, their numbers -/
structure Pn where
  per : Int
  bud : Int
  n : Nat
  z : Nat → Nat → Int
def p0 : Pn := ⟨0, 0, 0, fun _ _ => 0⟩
/-- may a task of a partition with this budget be asked, beside what chapter 8 says -/
def okT (bud : Int) (t : Nat → Int) : Bool :=
  decide (0 ≤ t 4) && decide (t 4 ≤ t 2) && decide (0 ≤ t 5) && decide (t 5 ≤ 4) &&
    (if t 5 = 0 then decide (t 6 = 0) && decide (t 7 = 0) else decide (1 ≤ t 6) && decide (t 6 ≤ bud) && decide (1 ≤ t 7) && decide (t 7 ≤ t 2) && decide (t 6 * t 7 ≤ t 2))
def okTs (bud : Int) (z : Nat → Nat → Int) : Nat → Bool
  | 0 => true
  | k + 1 => okTs bud z k && okT bud (z k)
theorem okTs_at {bud : Int} {z : Nat → Nat → Int} : ∀ {n : Nat}, okTs bud z n = true → ∀ {i : Nat}, i < n → okT bud (z i) = true
  | 0, _, _, h => by cases h
  | n + 1, h, i, hi => by
    unfold okTs at h
    rw [Bool.and_eq_true] at h
    by_cases hc : i = n
    · subst hc; exact h.2
    · exact okTs_at h.1 (by omega)
theorem okTs_all {bud : Int} {z : Nat → Nat → Int} : ∀ {n : Nat}, (∀ i, i < n → okT bud (z i) = true) → okTs bud z n = true
  | 0, _ => rfl
  | n + 1, h => by unfold okTs; rw [okTs_all (fun i hi => h i (by omega)), h n (by omega)]; rfl
theorem okTs_no {bud : Int} {z : Nat → Nat → Int} {n i : Nat} (hi : i < n) (h : okT bud (z i) = false) : okTs bud z n = false := by
  cases e : okTs bud z n with
  | false => rfl
  | true => rw [okTs_at e hi] at h; cases h
def okP (p : Pn) : Bool := decide (1 ≤ p.per) && decide (p.per ≤ 64) && decide (1 ≤ p.bud) && decide (p.bud ≤ p.per) && tasksOK p.n p.z && okTs p.bud p.z p.n
def chkP (l : List Pn) : Bool := decide (l.length ≤ 4) && l.all okP
def chkPE (l : List Pn) : Int := if chkP l then 0 else 2
theorem okP_no {l : List Pn} {i : Nat} (hi : i < l.length) (h : okP (l.getD i p0) = false) : chkP l = false := by
  cases e : chkP l with
  | false => rfl
  | true =>
    rw [chkP, Bool.and_eq_true, List.all_eq_true] at e
    have e2 : l.getD i p0 = l[i] := by simp [List.getD, List.getElem?_eq_getElem hi]
    rw [e2, e.2 _ (List.getElem_mem hi)] at h
    cases h
theorem okP_len {l : List Pn} (h : 4 < l.length) : chkP l = false := by
  rw [chkP, decide_eq_false (by omega)]; rfl
theorem okP_all {l : List Pn} (h : ∀ i, i < l.length → okP (l.getD i p0) = true) (hl : l.length ≤ 4) : chkP l = true := by
  rw [chkP, decide_eq_true hl, Bool.true_and, List.all_eq_true]
  intro x hx
  obtain ⟨i, hi, rfl⟩ := List.getElem_of_mem hx
  have := h i hi
  rwa [show l.getD i p0 = l[i] by simp [List.getD, List.getElem?_eq_getElem hi]] at this
/-- what is known of a task of partitions that may be asked -/
structure TB (bud : Int) (t : Nat → Int) : Prop where
  ok : tOK t = true
  l0 : 0 ≤ t 4
  l1 : t 4 ≤ t 2
  g0 : 0 ≤ t 5
  g4 : t 5 ≤ 4
  n0 : 0 < t 5 → 1 ≤ t 6 ∧ t 6 ≤ bud ∧ 1 ≤ t 7 ∧ t 7 ≤ t 2 ∧ t 6 * t 7 ≤ t 2
  n1 : t 5 = 0 → t 6 = 0 ∧ t 7 = 0
structure PB (p : Pn) : Prop where
  p1 : 1 ≤ p.per
  p2 : p.per ≤ 64
  b1 : 1 ≤ p.bud
  b2 : p.bud ≤ p.per
  n4 : p.n ≤ 4
  t : ∀ i, i < p.n → TB p.bud (p.z i)
theorem okT_iff {bud : Int} {t : Nat → Int} : okT bud t = true ↔ 0 ≤ t 4 ∧ t 4 ≤ t 2 ∧ 0 ≤ t 5 ∧ t 5 ≤ 4 ∧ (if t 5 = 0 then t 6 = 0 ∧ t 7 = 0 else 1 ≤ t 6 ∧ t 6 ≤ bud ∧ 1 ≤ t 7 ∧ t 7 ≤ t 2 ∧ t 6 * t 7 ≤ t 2) := by
  unfold okT
  split <;> simp [and_assoc]
theorem okP_iff {p : Pn} : okP p = true ↔ PB p := by
  unfold okP
  simp only [Bool.and_eq_true, decide_eq_true_eq]
  constructor
  · rintro ⟨⟨⟨⟨⟨h1, h2⟩, h3⟩, h4⟩, h5⟩, h6⟩
    have hg := good_of h5
    refine ⟨h1, h2, h3, h4, ?_, fun i hi => ?_⟩
    · unfold tasksOK at h5
      rw [Bool.and_eq_true] at h5
      exact of_decide_eq_true h5.1
    · have ht := hg.task hi
      obtain ⟨a1, a2, a3, a4, a5⟩ := okT_iff.1 (okTs_at h6 hi)
      refine ⟨ht, a1, a2, a3, a4, fun hp => ?_, fun hz => ?_⟩
      · rw [if_neg (by omega)] at a5; exact a5
      · rw [if_pos hz] at a5; exact a5
  · intro h
    refine ⟨⟨⟨⟨⟨h.p1, h.p2⟩, h.b1⟩, h.b2⟩, ?_⟩, okTs_all fun i hi => okT_iff.2 ?_⟩
    · unfold tasksOK
      rw [decide_eq_true h.n4, Bool.true_and]
      exact allT_all fun i hi => (h.t i hi).ok
    · have ht := h.t i hi
      refine ⟨ht.l0, ht.l1, ht.g0, ht.g4, ?_⟩
      by_cases hz : p.z i 5 = 0
      · rw [if_pos hz]; exact ht.n1 hz
      · rw [if_neg hz]; exact ht.n0 (by have := ht.g0; omega)
theorem chkP_at {l : List Pn} (h : chkP l = true) {i : Nat} (hi : i < l.length) : PB (l.getD i p0) := by
  rw [chkP, Bool.and_eq_true, List.all_eq_true] at h
  rw [show l.getD i p0 = l[i] by simp [List.getD, List.getElem?_eq_getElem hi]]
  exact okP_iff.1 (h.2 _ (List.getElem_mem hi))
theorem chkP_len {l : List Pn} (h : chkP l = true) : l.length ≤ 4 := by
  rw [chkP, Bool.and_eq_true] at h
  exact of_decide_eq_true h.1
/-- has a partition a task with a global resource? -/
def usesN (z : Nat → Nat → Int) (g : Int) : Nat → Bool
  | 0 => false
  | k + 1 => usesN z g k || decide (z k 5 = g)
def uses (p : Pn) (g : Int) : Bool := usesN p.z g p.n
theorem usesN_iff {z : Nat → Nat → Int} {g : Int} : ∀ {n : Nat}, usesN z g n = true ↔ ∃ i, i < n ∧ z i 5 = g
  | 0 => by simp [usesN]
  | n + 1 => by
    rw [usesN, Bool.or_eq_true, usesN_iff, decide_eq_true_eq]
    constructor
    · rintro (⟨i, hi, h⟩ | h)
      · exact ⟨i, by omega, h⟩
      · exact ⟨n, by omega, h⟩
    · rintro ⟨i, hi, h⟩
      by_cases hc : i = n
      · subst hc; exact Or.inr h
      · exact Or.inl ⟨i, by omega, h⟩
/-- what one partition adds to a wait, what the first ones do -/
def add1 (l : List Pn) (q : Nat) (g : Int) (i : Nat) : Int := if 0 < g ∧ i ≠ q ∧ uses (l.getD i p0) g = true then 2 * (l.getD i p0).per else 0
def wt (l : List Pn) (q : Nat) (g : Int) : Nat → Int
  | 0 => 0
  | i + 1 => wt l q g i + add1 l q g i
def wait (l : List Pn) (q : Nat) (t : Nat → Int) : Int := wt l q (t 5) l.length
/-- what is more of a task; the delay by one -/
def mor (l : List Pn) (q : Nat) (t : Nat → Int) : Int := if 0 < t 5 then t 7 * (wait l q t + t 6 - 1) else 0
def mors (l : List Pn) (q : Nat) : List Int := (List.range (l.getD q p0).n).map fun i => mor l q ((l.getD q p0).z i)
def del1 (l : List Pn) (q : Nat) (t : Nat → Int) : Int := if 0 < t 5 then max (t 4) (wait l q t + 2 * t 6 - 1) else t 4
def del (l : List Pn) (q : Nat) (T : Int) : Nat → Int
  | 0 => 0
  | i + 1 => if (l.getD q p0).z i 1 ≤ T then del l q T i else max (del l q T i) (del1 l q ((l.getD q p0).z i))
/-- what the calls answer -/
def waR (l : List Pn) (q k : Int) : Int × Int :=
  if chkP l then (if 0 ≤ q ∧ q < l.length ∧ 0 ≤ k ∧ k < (l.getD q.toNat p0).n then (wait l q.toNat ((l.getD q.toNat p0).z k.toNat), 0) else (0, 9)) else (0, 2)
def moR (l : List Pn) (q : Int) : List Int × Int :=
  if chkP l then (if 0 ≤ q ∧ q < l.length then (mors l q.toNat, 0) else ([], 9)) else ([], 2)
def deR (l : List Pn) (q T : Int) : Int × Int :=
  if chkP l then (if 0 ≤ q ∧ q < l.length then (if T < 0 then (0, 2) else (del l q.toNat T (l.getD q.toNat p0).n, 0)) else (0, 9)) else (0, 2)
/-- bounds -/
theorem add1_bd {l : List Pn} (h : chkP l = true) (q : Nat) (g : Int) {i : Nat} (hi : i < l.length) : 0 ≤ add1 l q g i ∧ add1 l q g i ≤ 128 := by
  have hp := chkP_at h hi
  have h1 := hp.p1; have h2 := hp.p2
  unfold add1
  split <;> omega
theorem wt_bd {l : List Pn} (h : chkP l = true) (q : Nat) (g : Int) : ∀ {i : Nat}, i ≤ l.length → 0 ≤ wt l q g i ∧ wt l q g i ≤ 128 * i
  | 0, _ => ⟨Int.le_refl _, by show (0 : Int) ≤ _; omega⟩
  | i + 1, hi => by
    have h1 := wt_bd h q g (i := i) (by omega)
    have h2 := add1_bd h q g (i := i) (by omega)
    rw [wt]
    omega
theorem wait_bd {l : List Pn} (h : chkP l = true) (q : Nat) (t : Nat → Int) : 0 ≤ wait l q t ∧ wait l q t ≤ 512 := by
  have := wt_bd h q (t 5) (Nat.le_refl l.length)
  have := chkP_len h
  unfold wait
  omega
/-- one partition more -/
theorem getD_app {l : List Pn} {x : Pn} {i : Nat} (hi : i < l.length) : (l ++ [x]).getD i p0 = l.getD i p0 := by
  simp [List.getD, List.getElem?_append_left hi]
theorem getD_end {l : List Pn} {x : Pn} : (l ++ [x]).getD l.length p0 = x := by
  simp [List.getD]
theorem wt_app {l : List Pn} {x : Pn} (q : Nat) (g : Int) : ∀ {i : Nat}, i ≤ l.length → wt (l ++ [x]) q g i = wt l q g i
  | 0, _ => rfl
  | i + 1, hi => by
    rw [wt, wt, wt_app q g (by omega)]
    unfold add1
    rw [getD_app (by omega)]
theorem wait_app {l : List Pn} {x : Pn} {q : Nat} (hq : q < l.length) (t : Nat → Int) : wait (l ++ [x]) q t = wait l q t + (if 0 < t 5 ∧ uses x (t 5) = true then 2 * x.per else 0) := by
  unfold wait
  rw [List.length_append, List.length_singleton, wt, wt_app q _ (Nat.le_refl _)]
  unfold add1
  rw [getD_end]
  have : l.length ≠ q := by omega
  simp [this]
theorem wait_mono {l : List Pn} {x : Pn} (hx : PB x) {q : Nat} (hq : q < l.length) (t : Nat → Int) : wait l q t ≤ wait (l ++ [x]) q t ∧ wait (l ++ [x]) q t ≤ wait l q t + 2 * x.per := by
  have := hx.p1
  rw [wait_app hq]
  split <;> omega
theorem mor_mono {l : List Pn} {x : Pn} (hx : PB x) {q : Nat} (hq : q < l.length) {bud : Int} {t : Nat → Int} (ht : TB bud t) : mor l q t ≤ mor (l ++ [x]) q t := by
  unfold mor
  split
  · rename_i h
    have h1 := ht.n0 h
    exact Int.mul_le_mul_of_nonneg_left (by have := (wait_mono hx hq t).1; omega) (by omega)
  · exact Int.le_refl _
theorem del_mono {l : List Pn} {x : Pn} (hx : PB x) {q : Nat} (hq : q < l.length) (T : Int) : ∀ n, del l q T n ≤ del (l ++ [x]) q T n
  | 0 => Int.le_refl _
  | n + 1 => by
    have ih := del_mono hx hq T n
    have hw := (wait_mono hx hq ((l.getD q p0).z n)).1
    rw [del, del, getD_app hq]
    split
    · exact ih
    · unfold del1
      split <;> omega
/-- one that shares nothing -/
theorem wait_same {l : List Pn} {x : Pn} {q : Nat} (hq : q < l.length) {t : Nat → Int} (h : 0 < t 5 → uses x (t 5) = false) : wait (l ++ [x]) q t = wait l q t := by
  rw [wait_app hq, if_neg (fun hc => by rw [h hc.1] at hc; cases hc.2), Int.add_zero]
theorem mor_same {l : List Pn} {x : Pn} {q : Nat} (hq : q < l.length) {t : Nat → Int} (h : 0 < t 5 → uses x (t 5) = false) : mor (l ++ [x]) q t = mor l q t := by
  unfold mor
  rw [wait_same hq h]
theorem del_same {l : List Pn} {x : Pn} {q : Nat} (hq : q < l.length) (T : Int) : ∀ {n : Nat}, (∀ i, i < n → 0 < (l.getD q p0).z i 5 → uses x ((l.getD q p0).z i 5) = false) → del (l ++ [x]) q T n = del l q T n
  | 0, _ => rfl
  | n + 1, h => by
    rw [del, del, getD_app hq, del_same hq T (fun i hi => h i (by omega))]
    unfold del1
    rw [wait_same hq (h n (by omega))]
theorem mors_same {l : List Pn} {x : Pn} {q : Nat} (hq : q < l.length) (h : ∀ i, i < (l.getD q p0).n → 0 < (l.getD q p0).z i 5 → uses x ((l.getD q p0).z i 5) = false) : mors (l ++ [x]) q = mors l q := by
  unfold mors
  rw [getD_app hq]
  refine List.map_congr_left fun i hi => mor_same hq (h i (by simpa using hi))
/-- more ticks -/
theorem del_nn {l : List Pn} {q : Nat} (T : Int) : ∀ n, 0 ≤ del l q T n
  | 0 => Int.le_refl _
  | n + 1 => by
    have := del_nn (l := l) (q := q) T n
    rw [del]
    split <;> omega
theorem del_fall {l : List Pn} {q : Nat} {T U : Int} (h : T ≤ U) : ∀ n, del l q U n ≤ del l q T n
  | 0 => Int.le_refl _
  | n + 1 => by
    have ih := del_fall (l := l) (q := q) h n
    rw [del, del]
    split <;> split <;> omega
theorem del_zero {l : List Pn} {q : Nat} {T : Int} : ∀ {n : Nat}, (∀ i, i < n → (l.getD q p0).z i 1 ≤ T) → del l q T n = 0
  | 0, _ => rfl
  | n + 1, h => by rw [del, if_pos (h n (by omega)), del_zero (fun i hi => h i (by omega))]
theorem del_ge {l : List Pn} {q : Nat} {T : Int} : ∀ {n i : Nat}, i < n → T < (l.getD q p0).z i 1 → del1 l q ((l.getD q p0).z i) ≤ del l q T n
  | 0, _, h, _ => by cases h
  | n + 1, i, hi, hT => by
    rw [del]
    by_cases hc : i = n
    · subst hc
      rw [if_neg (by omega)]
      omega
    · have := del_ge (l := l) (q := q) (T := T) (n := n) (i := i) (by omega) hT
      split <;> omega
end Go.Proofs.Ytfjeoefnpcgnnaa.Dl
