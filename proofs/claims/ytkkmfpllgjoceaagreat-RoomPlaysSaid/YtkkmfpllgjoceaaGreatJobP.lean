/- Jobs, plainly: what is answered, what they are behind it. -/
import Derived.Test.YtkkmfpllgjoceaaGreatActP
namespace Go.Proofs.YtkkmfpllgjoceaaGreat.Jo
open Ac
set_option linter.unusedVariables false
set_option maxRecDepth 100000

/-- a job: its task, its deadline, how long it has run, its section, for how long it has run in it, how often it has taken, whether it has begun, its acts -/
structure Jb where
  t : Nat → Int
  e : Int
  n : Int
  c : Int
  k : Int
  x : Int
  b : Bool
  l : List Ak
def fresh (t : Nat → Int) (e : Int) (l : List Ak) : Jb := ⟨t, e, 0, 0, 0, 0, false, l⟩
def didJ (s : Jb) : Jb := if didE s.l = 0 then ⟨s.t, s.e, s.n, s.c, s.k, s.x, true, didL s.l⟩ else s
def runE (s : Jb) : Int := if s.c = 3 then 250 else ranE s.l
def runJ (s : Jb) : Jb := if s.c = 3 then s else if ranE s.l = 0 then ⟨s.t, s.e, s.n + 1, s.c, s.k + 1, s.x, true, ranL s.l⟩ else s
def entE (s : Jb) (a : Int) : Int := if a < 1 ∨ 3 < a then 2 else if s.c = 3 ∧ a = 2 then 0 else if s.c ≠ 0 then 130 else if a ≠ 1 ∧ s.t 7 ≤ s.x then 170 else 0
def entJ (s : Jb) (a : Int) : Jb := if entE s a = 0 then ⟨s.t, s.e, s.n, a, 0, (if s.c = 0 ∧ a ≠ 1 then s.x + 1 else s.x), s.b, s.l⟩ else s
def leaE (s : Jb) : Int := if s.c = 0 then 132 else 0
def leaJ (s : Jb) : Jb := if s.c = 0 then s else ⟨s.t, s.e, s.n, 0, 0, s.x, s.b, s.l⟩
/-- for how many ticks it has run in its section, as the document's answer counts them: in none it counts none -/
def dk (s : Jb) : Int := if s.c = 0 then 0 else s.k
/-- what may be told of a job -/
structure Inv (s : Jb) : Prop where
  gd : Gd s.l
  n0 : 0 ≤ s.n
  nl : s.n + left s.l ≤ 2048
  k0 : 0 ≤ s.k
  kn : s.k ≤ s.n
  c0 : 0 ≤ s.c
  c3 : s.c ≤ 3
  kz : s.c = 3 → s.k = 0
  x0 : 0 ≤ s.x
  xt : s.x = 0 ∨ s.x ≤ s.t 7
  tm : s.t 7 ≤ 9223372036854775807
theorem left_ran {l : List Ak} (h : Gd l) (hr : ranE l = 0) : left (ranL l) = left l - 1 ∧ 1 ≤ left l := by
  cases l with
  | nil => exact absurd hr (by decide)
  | cons x t =>
    obtain ⟨k, n, s⟩ := x
    by_cases hk : k = 1
    · subst hk
      have hm := may_run (good_head h) rfl
      have ht := left_bd (good_tail h).all
      simp only at hm
      have hl : left (⟨1, n, s⟩ :: t) = n + left t := by simp only [left, one]; rfl
      by_cases hn : n = 1
      · rw [ranL_end hn, hl]; omega
      · have h2 : left (⟨1, n - 1, s⟩ :: t) = n - 1 + left t := by simp only [left, one]; rfl
        rw [ranL_less hn, hl, h2]; omega
    · rw [ranE_no hk] at hr; exact absurd hr (by decide)
theorem left_did {l : List Ak} (hr : didE l = 0) : left (didL l) = left l := by
  cases l with
  | nil => exact absurd hr (by decide)
  | cons x t =>
    obtain ⟨k, n, s⟩ := x
    by_cases hk : k = 1
    · subst hk
      exact absurd hr (by simp [didE])
    · rw [didL_no hk]
      simp only [left, one]
      rw [if_neg hk]
      omega
theorem didE_or (l : List Ak) : didE l = 0 ∨ didE l = 250 := by
  cases l with
  | nil => exact Or.inr rfl
  | cons x t =>
    by_cases h : x.k = 1
    · exact Or.inr (if_pos h)
    · exact Or.inl (if_neg h)
theorem ranE_or (l : List Ak) : ranE l = 0 ∨ ranE l = 250 := by
  cases l with
  | nil => exact Or.inr rfl
  | cons x t =>
    by_cases h : x.k = 1
    · exact Or.inl (if_pos h)
    · exact Or.inr (if_neg h)
theorem did_same {l : List Ak} (h : didE l = 250) : didL l = l := by
  cases l with
  | nil => rfl
  | cons x t =>
    by_cases hk : x.k = 1
    · exact if_pos hk
    · rw [show didE (x :: t) = 0 from if_neg hk] at h; exact absurd h (by decide)
theorem ran_same {l : List Ak} (h : ranE l = 250) : ranL l = l := by
  cases l with
  | nil => rfl
  | cons x t =>
    by_cases hk : x.k = 1
    · rw [show ranE (x :: t) = 0 from if_pos hk] at h; exact absurd h (by decide)
    · exact if_neg hk
theorem inv_fresh {t : Nat → Int} {e : Int} {l : List Ak} (h : Gd l) (ht : t 7 ≤ 9223372036854775807) : Inv (fresh t e l) := by
  have h1 := left_bd h.all
  have h2 := h.len
  refine ⟨h, Int.le_refl _, ?_, Int.le_refl _, Int.le_refl _, Int.le_refl _, by simp [fresh], fun _ => rfl, Int.le_refl _, Or.inl rfl, ht⟩
  simp only [fresh]
  omega
theorem inv_did {s : Jb} (h : Inv s) : Inv (didJ s) := by
  unfold didJ
  split
  · rename_i hr
    exact ⟨good_did h.gd, h.n0, by simp only; rw [left_did hr]; exact h.nl, h.k0, h.kn, h.c0, h.c3, h.kz, h.x0, h.xt, h.tm⟩
  · exact h
theorem inv_run {s : Jb} (h : Inv s) : Inv (runJ s) := by
  unfold runJ
  split
  · exact h
  · rename_i hc
    split
    · rename_i hr
      obtain ⟨h1, h2⟩ := left_ran h.gd hr
      have a1 := h.nl
      have a2 := h.n0
      have a3 := h.k0
      have a4 := h.kn
      exact ⟨good_ran h.gd, by simp only; omega, by simp only; rw [h1]; omega, by simp only; omega, by simp only; omega, h.c0, h.c3, fun e => absurd e hc, h.x0, h.xt, h.tm⟩
    · exact h
theorem ent_bd {s : Jb} {a : Int} (h : entE s a = 0) : 1 ≤ a ∧ a ≤ 3 := by
  unfold entE at h
  split at h
  · exact absurd h (by decide)
  · omega
theorem inv_ent {s : Jb} (h : Inv s) (a : Int) : Inv (entJ s a) := by
  unfold entJ
  split
  · rename_i he
    have hb := ent_bd he
    have hx : (s.c = 0 ∧ a ≠ 1) → s.x < s.t 7 := by
      rintro ⟨hc, ha⟩
      unfold entE at he
      rw [if_neg (by omega), if_neg (by omega), if_neg (by omega)] at he
      split at he
      · exact absurd he (by decide)
      · omega
    refine ⟨h.gd, h.n0, h.nl, Int.le_refl _, h.n0, by simp only; omega, by simp only; omega, fun _ => rfl, ?_, ?_, h.tm⟩
    · have := h.x0; simp only; split <;> omega
    · simp only
      split
      · rename_i hc; have := hx hc; omega
      · exact h.xt
  · exact h
theorem inv_lea {s : Jb} (h : Inv s) : Inv (leaJ s) := by
  unfold leaJ
  split
  · exact h
  · exact ⟨h.gd, h.n0, h.nl, Int.le_refl _, h.n0, Int.le_refl _, by simp only; omega, fun _ => rfl, h.x0, h.xt, h.tm⟩
theorem lea_same {s : Jb} (h0 : s.c = 0) : leaJ s = s := if_pos h0
theorem lea_out {s : Jb} (h0 : s.c ≠ 0) : leaJ s = ⟨s.t, s.e, s.n, 0, 0, s.x, s.b, s.l⟩ := if_neg h0
theorem ent_wait {s : Jb} (h : s.c = 3) : entE s 2 = 0 ∧ entJ s 2 = ⟨s.t, s.e, s.n, 2, 0, s.x, s.b, s.l⟩ := by
  have he : entE s 2 = 0 := by unfold entE; rw [if_neg (by decide), if_pos ⟨h, rfl⟩]
  refine ⟨he, ?_⟩
  unfold entJ
  rw [if_pos he, if_neg (by omega)]
/-- whether a task may be asked -/
def tok (t : Nat → Int) : Bool := decide (1 ≤ t 0) && decide (t 0 ≤ 64) && decide (1 ≤ t 1) && decide (t 1 ≤ t 0) && decide (1 ≤ t 2) && decide (t 2 ≤ t 1)
theorem tok_six (t : Nat → Int) : tok t = (decide (1 ≤ t 0) && (decide (t 0 ≤ 64) && (decide (1 ≤ t 1) && (decide (t 1 ≤ t 0) && (decide (1 ≤ t 2) && decide (t 2 ≤ t 1)))))) := by
  unfold tok
  simp only [Bool.and_assoc]
theorem tok_bd {t : Nat → Int} (h : tok t = true) : 1 ≤ t 0 ∧ t 0 ≤ 64 ∧ 1 ≤ t 1 ∧ t 1 ≤ t 0 ∧ 1 ≤ t 2 ∧ t 2 ≤ t 1 := by
  unfold tok at h
  simp only [Bool.and_eq_true, decide_eq_true_eq] at h
  omega
/-- what it does wrong -/
def fau (s : Jb) (now : Int) : Int :=
  if s.l = [] then 0 else if s.e ≤ now then 3 else if s.t 2 ≤ s.n ∧ 0 < left s.l then 1 else if s.c = 2 ∧ s.t 6 ≤ s.k then 2 else if s.c = 1 ∧ s.t 4 ≤ s.k ∧ (nxt s.l).k = 1 then 2 else 0
end Go.Proofs.YtkkmfpllgjoceaaGreat.Jo
