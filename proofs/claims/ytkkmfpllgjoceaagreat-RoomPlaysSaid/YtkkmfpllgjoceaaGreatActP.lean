/- Acts and rows of them, plainly: what may be, what is next, what is behind each call. -/
import Derived.Test.YtkkmfpllgjoceaaGreatRows
import Derived.WalkKit
import Derived.WalkSpells
namespace Go.Proofs.YtkkmfpllgjoceaaGreat.Ac
set_option linter.unusedVariables false
set_option maxRecDepth 100000

/-- an act -/
structure Ak where
  k : Int
  n : Int
  s : ByteArray
abbrev e0 : ByteArray := ⟨#[]⟩
abbrev o0 : Ak := ⟨0, 0, e0⟩
/-- what may be told of an act of a kind: its least number, its most, its bytes -/
def bnd (k : Int) : Option (Int × Int × Int) :=
  if k = 1 then some (1, 64, 0) else if k = 2 then some (0, 7, 0) else if k = 3 then some (0, 0, 0) else if k = 4 then some (0, 0, 0) else if k = 5 then some (0, 0, 0) else
  if k = 6 then some (0, 7, 16) else if k = 7 then some (0, 7, 0) else if k = 8 then some (1, 64, 0) else none
def mayB (x : Ak) : Bool :=
  match bnd x.k with
  | some (a, b, c) => decide (a ≤ x.n) && decide (x.n ≤ b) && decide ((x.s.size : Int) ≤ c)
  | none => false
def may (x : Ak) : Prop := mayB x = true
theorem may_ex {x : Ak} (h : may x) : ∃ a b c, bnd x.k = some (a, b, c) ∧ a ≤ x.n ∧ x.n ≤ b ∧ (x.s.size : Int) ≤ c := by
  unfold may mayB at h
  split at h
  · rename_i a b c e
    simp only [Bool.and_eq_true, decide_eq_true_eq] at h
    exact ⟨a, b, c, e, h.1.1, h.1.2, h.2⟩
  · cases h
def chk (x : Ak) : Int := if mayB x then 0 else 2
theorem chk_yes {x : Ak} (h : may x) : chk x = 0 := if_pos h
theorem chk_no {x : Ak} (h : ¬ may x) : chk x = 2 := if_neg h
theorem chk_or (x : Ak) : (may x ∧ chk x = 0) ∨ (¬ may x ∧ chk x = 2) := by
  by_cases h : may x
  · exact Or.inl ⟨h, chk_yes h⟩
  · exact Or.inr ⟨h, chk_no h⟩
theorem may_of {x : Ak} {a b c : Int} (h : bnd x.k = some (a, b, c)) (h1 : a ≤ x.n) (h2 : x.n ≤ b) (h3 : (x.s.size : Int) ≤ c) : may x := by
  unfold may mayB
  rw [h]
  simp only [Bool.and_eq_true, decide_eq_true_eq]
  exact ⟨⟨h1, h2⟩, h3⟩
theorem not_may {x : Ak} {a b c : Int} (h : bnd x.k = some (a, b, c)) (h1 : x.n < a ∨ b < x.n ∨ c < (x.s.size : Int)) : ¬ may x := by
  intro hm
  obtain ⟨a', b', c', e, q1, q2, q3⟩ := may_ex hm
  rw [h] at e
  injection e with e
  injection e with e1 e2
  injection e2 with e2 e3
  omega
theorem not_may_none {x : Ak} (h : bnd x.k = none) : ¬ may x := by
  intro hm
  obtain ⟨a, b, c, e, _⟩ := may_ex hm
  rw [h] at e
  cases e
/-- a kind is one of eight, or none -/
theorem kinds (k : Int) : k = 1 ∨ k = 2 ∨ k = 3 ∨ k = 4 ∨ k = 5 ∨ k = 6 ∨ k = 7 ∨ k = 8 ∨ ((k == 1) = false ∧ (k == 2) = false ∧ (k == 3) = false ∧ (k == 4) = false ∧ (k == 5) = false ∧ (k == 6) = false ∧ (k == 7) = false ∧ (k == 8) = false) := by
  by_cases h1 : k = 1
  · exact Or.inl h1
  by_cases h2 : k = 2
  · exact Or.inr (Or.inl h2)
  by_cases h3 : k = 3
  · exact Or.inr (Or.inr (Or.inl h3))
  by_cases h4 : k = 4
  · exact Or.inr (Or.inr (Or.inr (Or.inl h4)))
  by_cases h5 : k = 5
  · exact Or.inr (Or.inr (Or.inr (Or.inr (Or.inl h5))))
  by_cases h6 : k = 6
  · exact Or.inr (Or.inr (Or.inr (Or.inr (Or.inr (Or.inl h6)))))
  by_cases h7 : k = 7
  · exact Or.inr (Or.inr (Or.inr (Or.inr (Or.inr (Or.inr (Or.inl h7))))))
  by_cases h8 : k = 8
  · exact Or.inr (Or.inr (Or.inr (Or.inr (Or.inr (Or.inr (Or.inr (Or.inl h8)))))))
  refine Or.inr (Or.inr (Or.inr (Or.inr (Or.inr (Or.inr (Or.inr (Or.inr ⟨?_, ?_, ?_, ?_, ?_, ?_, ?_, ?_⟩))))))) <;> simp <;> assumption
theorem bnd_none {k : Int} (h : (k == 1) = false ∧ (k == 2) = false ∧ (k == 3) = false ∧ (k == 4) = false ∧ (k == 5) = false ∧ (k == 6) = false ∧ (k == 7) = false ∧ (k == 8) = false) : bnd k = none := by
  obtain ⟨h1, h2, h3, h4, h5, h6, h7, h8⟩ := h
  simp at h1 h2 h3 h4 h5 h6 h7 h8
  unfold bnd
  rw [if_neg h1, if_neg h2, if_neg h3, if_neg h4, if_neg h5, if_neg h6, if_neg h7, if_neg h8]

/-- what a row's making answers -/
def newE (l : List Ak) : Int := if 32 < l.length then 5 else if l.all mayB then 0 else 2
def nxt (l : List Ak) : Ak := l.getD 0 o0
def isn (l : List Ak) : Bool := !l.isEmpty
def didE : List Ak → Int
  | [] => 250
  | x :: _ => if x.k = 1 then 250 else 0
def didL : List Ak → List Ak
  | [] => []
  | x :: t => if x.k = 1 then x :: t else t
def ranE : List Ak → Int
  | [] => 250
  | x :: _ => if x.k = 1 then 0 else 250
def ranL : List Ak → List Ak
  | [] => []
  | x :: t => if x.k = 1 then (if x.n = 1 then t else ⟨x.k, x.n - 1, x.s⟩ :: t) else x :: t
def one (x : Ak) : Int := if x.k = 1 then x.n else 0
def left : List Ak → Int
  | [] => 0
  | x :: t => one x + left t
structure Gd (l : List Ak) : Prop where
  len : l.length ≤ 32
  all : ∀ x ∈ l, may x
theorem newE_lim {l : List Ak} (h : 32 < l.length) : newE l = 5 := by unfold newE; rw [if_pos h]
theorem newE_yes {l : List Ak} (h : Gd l) : newE l = 0 := by unfold newE; rw [if_neg (by have := h.len; omega), if_pos (List.all_eq_true.2 h.all)]
theorem newE_no {l : List Ak} (h : l.length ≤ 32) (h1 : ¬ ∀ x ∈ l, may x) : newE l = 2 := by unfold newE; rw [if_neg (by omega), if_neg (fun e => h1 (List.all_eq_true.1 e))]
theorem newE_or (l : List Ak) : (32 < l.length ∧ newE l = 5) ∨ (Gd l ∧ newE l = 0) ∨ (l.length ≤ 32 ∧ (¬ ∀ x ∈ l, may x) ∧ newE l = 2) := by
  by_cases h : 32 < l.length
  · exact Or.inl ⟨h, newE_lim h⟩
  · by_cases h1 : ∀ x ∈ l, may x
    · exact Or.inr (Or.inl ⟨⟨by omega, h1⟩, newE_yes ⟨by omega, h1⟩⟩)
    · exact Or.inr (Or.inr ⟨by omega, h1, newE_no (by omega) h1⟩)
theorem may_run {x : Ak} (h : may x) (hk : x.k = 1) : 1 ≤ x.n ∧ x.n ≤ 64 := by
  obtain ⟨a, b, c, e, h1, h2, h3⟩ := may_ex h
  rw [hk] at e
  unfold bnd at e
  rw [if_pos rfl] at e
  injection e with e
  injection e with e1 e2
  injection e2 with e2 e3
  omega
theorem one_bd {x : Ak} (h : may x) : 0 ≤ one x ∧ one x ≤ 64 := by
  unfold one
  by_cases hk : x.k = 1
  · rw [if_pos hk]; have := may_run h hk; omega
  · rw [if_neg hk]; omega
theorem left_bd : ∀ {l : List Ak}, (∀ x ∈ l, may x) → 0 ≤ left l ∧ left l ≤ 64 * l.length
  | [], _ => ⟨Int.le_refl _, by simp [left]⟩
  | x :: t, h => by
    have h1 := one_bd (h x (List.mem_cons_self ..))
    have h2 := left_bd (l := t) (fun y hy => h y (List.mem_cons_of_mem _ hy))
    simp only [left, List.length_cons]
    omega
theorem left_append (l m : List Ak) : left (l ++ m) = left l + left m := by
  induction l with
  | nil => simp [left]
  | cons x t ih => simp only [List.cons_append, left, ih]; omega
theorem left_take (l : List Ak) (k : Nat) (h : k < l.length) : left (l.take (k + 1)) = left (l.take k) + one (l.getD k o0) := by
  rw [List.take_succ_eq_append_getElem h, left_append]
  simp [left, List.getElem?_eq_getElem h]
theorem good_tail {x : Ak} {t : List Ak} (h : Gd (x :: t)) : Gd t := ⟨by have := h.len; simp at this; omega, fun y hy => h.all y (List.mem_cons_of_mem _ hy)⟩
theorem good_head {x : Ak} {t : List Ak} (h : Gd (x :: t)) : may x := h.all x (List.mem_cons_self ..)
theorem may_less {x : Ak} (h : may x) (hk : x.k = 1) (hn : x.n ≠ 1) : may ⟨x.k, x.n - 1, x.s⟩ := by
  have hr := may_run h hk
  obtain ⟨a, b, c, e, h1, h2, h3⟩ := may_ex h
  refine may_of e ?_ ?_ h3
  · rw [hk] at e
    unfold bnd at e
    rw [if_pos rfl] at e
    injection e with e
    injection e with e1 e2
    simp only
    omega
  · simp only; omega
theorem good_did {l : List Ak} (h : Gd l) : Gd (didL l) := by
  cases l with
  | nil => exact h
  | cons x t =>
    by_cases h1 : x.k = 1
    · rw [show didL (x :: t) = x :: t from if_pos h1]; exact h
    · rw [show didL (x :: t) = t from if_neg h1]; exact good_tail h
theorem good_ran {l : List Ak} (h : Gd l) : Gd (ranL l) := by
  cases l with
  | nil => exact h
  | cons x t =>
    by_cases h1 : x.k = 1
    · by_cases h2 : x.n = 1
      · rw [show ranL (x :: t) = t from (if_pos h1).trans (if_pos h2)]; exact good_tail h
      · rw [show ranL (x :: t) = ⟨x.k, x.n - 1, x.s⟩ :: t from (if_pos h1).trans (if_neg h2)]
        refine ⟨h.len, fun y hy => ?_⟩
        rcases List.mem_cons.1 hy with rfl | hy
        · exact may_less (good_head h) h1 h2
        · exact (good_tail h).all y hy
    · rw [show ranL (x :: t) = x :: t from if_neg h1]; exact h
theorem didL_no {k n : Int} {s : ByteArray} {t : List Ak} (h : k ≠ 1) : didL (⟨k, n, s⟩ :: t) = t := if_neg h
theorem didE_no {k n : Int} {s : ByteArray} {t : List Ak} (h : k ≠ 1) : didE (⟨k, n, s⟩ :: t) = 0 := if_neg h
theorem ranL_no {k n : Int} {s : ByteArray} {t : List Ak} (h : k ≠ 1) : ranL (⟨k, n, s⟩ :: t) = ⟨k, n, s⟩ :: t := if_neg h
theorem ranE_no {k n : Int} {s : ByteArray} {t : List Ak} (h : k ≠ 1) : ranE (⟨k, n, s⟩ :: t) = 250 := if_neg h
theorem ranL_less {n : Int} {s : ByteArray} {t : List Ak} (h : n ≠ 1) : ranL (⟨1, n, s⟩ :: t) = ⟨1, n - 1, s⟩ :: t := by simp [ranL, h]
theorem ranL_end {n : Int} {s : ByteArray} {t : List Ak} (h : n = 1) : ranL (⟨1, n, s⟩ :: t) = t := by subst h; simp [ranL]
/-- acts, by their cells -/
def cl (x : Ak) : List Value := [.int .i64 x.k, .int .i64 x.n, .string x.s]
def acells (l : List Ak) : List Value := l.flatMap cl
theorem acells_nil : acells [] = [] := rfl
theorem acells_cons (x : Ak) (l : List Ak) : acells (x :: l) = .int .i64 x.k :: .int .i64 x.n :: .string x.s :: acells l := rfl
theorem acells_len (l : List Ak) : (acells l).length = l.length * 3 := by
  induction l with
  | nil => rfl
  | cons e l ih => rw [acells_cons]; simp only [List.length_cons, ih]; omega
theorem acells_append (l m : List Ak) : acells (l ++ m) = acells l ++ acells m := by simp [acells]
theorem acells_at : ∀ (l : List Ak) (i : Nat), i < l.length → (acells l)[i * 3]? = some (.int .i64 (l.getD i o0).k) ∧ (acells l)[i * 3 + 1]? = some (.int .i64 (l.getD i o0).n) ∧ (acells l)[i * 3 + 2]? = some (.string (l.getD i o0).s)
  | e :: l, 0, _ => ⟨rfl, rfl, rfl⟩
  | e :: l, i + 1, h => by
    have ih := acells_at l i (by simpa using h)
    rw [acells_cons, show (i + 1) * 3 = i * 3 + 1 + 1 + 1 by omega]
    simp only [List.getElem?_cons_succ, List.getD_cons_succ]
    exact ih
theorem acells_one (l : List Ak) : ∀ u ∈ acells l, u.oneCell' = true := by
  intro u hu
  simp only [acells, cl, List.mem_flatMap, List.mem_cons, List.not_mem_nil, or_false] at hu
  obtain ⟨e, _, rfl | rfl | rfl⟩ := hu <;> rfl
theorem acells_take (l : List Ak) (i : Nat) : (acells l).take (i * 3) = acells (l.take i) := by
  induction l generalizing i with
  | nil => simp [acells]
  | cons e l ih =>
    cases i with
    | zero => simp [acells]
    | succ i =>
      rw [show (i + 1) * 3 = i * 3 + 1 + 1 + 1 by omega, acells_cons, List.take_succ_cons, List.take_succ_cons, List.take_succ_cons, ih]
      rfl
theorem acells_set (l : List Ak) (i : Nat) (x : Ak) : acells (l.set i x) = (((acells l).set (i * 3) (.int .i64 x.k)).set (i * 3 + 1) (.int .i64 x.n)).set (i * 3 + 2) (.string x.s) := by
  induction l generalizing i with
  | nil => simp [acells]
  | cons e l ih =>
    cases i with
    | zero => rfl
    | succ i =>
      rw [show (i + 1) * 3 = i * 3 + 1 + 1 + 1 by omega, List.set_cons_succ, acells_cons, acells_cons, ih]
      rfl
end Go.Proofs.YtkkmfpllgjoceaaGreat.Ac
