/- JobBound, plainly: what is told of a job that is driven as long as it has no fault. -/
import Derived.Test.YtoggnofdgmhbmaaJobP
namespace Go.Proofs.Ytoggnofdgmhbmaa.Jo
open Ac
set_option linter.unusedVariables false

/-- acts that run, all of them -/
def Rn (l : List Ak) : Prop := ∀ x ∈ l, x.k = 1 ∧ 1 ≤ x.n
theorem Rn.snoc {l : List Ak} {x : Ak} (h : Rn l) (hk : x.k = 1) (hn : 1 ≤ x.n) : Rn (l ++ [x]) := fun y hy => by
  rcases List.mem_append.1 hy with h1 | h1
  · exact h y h1
  · rw [List.mem_singleton.1 h1]; exact ⟨hk, hn⟩
theorem rn_left : ∀ {l : List Ak}, Rn l → 0 ≤ left l
  | [], _ => Int.le_refl _
  | x :: t, h => by
    have h1 := h x (List.mem_cons_self ..)
    have h2 := rn_left (l := t) (fun y hy => h y (List.mem_cons_of_mem _ hy))
    simp only [left, one]
    rw [if_pos h1.1]
    omega
theorem rn_more {l : List Ak} (h : Rn l) (hl : l ≠ []) : ranE l = 0 ∧ 0 < left l ∧ (nxt l).k = 1 ∧ Rn (ranL l) := by
  cases l with
  | nil => exact absurd rfl hl
  | cons x t =>
    obtain ⟨k, n, s⟩ := x
    have h1 := h ⟨k, n, s⟩ (List.mem_cons_self ..)
    obtain ⟨hk, hn⟩ := h1
    simp only at hk hn
    subst hk
    have ht : Rn t := fun y hy => h y (List.mem_cons_of_mem _ hy)
    have h2 := rn_left ht
    refine ⟨rfl, ?_, rfl, ?_⟩
    · simp only [left, one]; rw [if_pos trivial]; omega
    · by_cases hn1 : n = 1
      · rw [ranL_end hn1]; exact ht
      · rw [ranL_less hn1]
        intro y hy
        rcases List.mem_cons.1 hy with rfl | hy
        · exact ⟨rfl, by simp only; omega⟩
        · exact ht y hy
/-- a job within what its task says -/
structure BD (u : Nat → Int) (s : Jb) : Prop where
  st : s.t = u
  se : s.e = 7 + u 1
  rn : Rn s.l
  nb : s.n ≤ u 2
  k1 : s.c = 1 → s.k ≤ u 4
  k2 : s.c = 2 → s.k ≤ u 6
  xb : s.x ≤ u 7
theorem bd_fresh {u : Nat → Int} {l : List Ak} (h : Rn l) (h2 : 0 ≤ u 2) (h7 : 0 ≤ u 7) : BD u (fresh u (7 + u 1) l) :=
  ⟨rfl, rfl, h, h2, fun e => absurd (show (0 : Int) = 1 from e) (by decide), fun e => absurd (show (0 : Int) = 2 from e) (by decide), h7⟩
theorem bd_enter {u : Nat → Int} {s : Jb} (h : BD u s) (hi : Inv s) (h4 : 0 ≤ u 4) (h6 : 0 ≤ u 6) (h7 : 0 ≤ u 7) (a : Int) : BD u (entJ s a) := by
  have hx := (inv_ent hi a).xt
  unfold entJ at hx ⊢
  split
  · rename_i he
    rw [if_pos he] at hx
    refine ⟨h.st, h.se, h.rn, h.nb, fun _ => h4, fun _ => h6, ?_⟩
    simp only at hx ⊢
    rw [h.st] at hx
    omega
  · exact h
theorem bd_leave {u : Nat → Int} {s : Jb} (h : BD u s) : BD u (leaJ s) := by
  unfold leaJ
  split
  · exact h
  · exact ⟨h.st, h.se, h.rn, h.nb, fun e => absurd (show (0 : Int) = 1 from e) (by decide), fun e => absurd (show (0 : Int) = 2 from e) (by decide), h.xb⟩
theorem bd_run {u : Nat → Int} {s : Jb} (h : BD u s) (hi : Inv s) {now : Int} (hf : fau s now = 0) (hl : s.l ≠ []) : now < 7 + u 1 ∧ (s.c = 3 ∧ runE s = 250 ∨ s.c ≠ 3 ∧ runE s = 0) ∧ BD u (runJ s) := by
  obtain ⟨r1, r2, r3, r4⟩ := rn_more h.rn hl
  unfold fau at hf
  rw [if_neg hl, h.se, h.st] at hf
  split at hf
  · exact absurd hf (by decide)
  rename_i f1
  split at hf
  · exact absurd hf (by decide)
  rename_i f2
  split at hf
  · exact absurd hf (by decide)
  rename_i f3
  split at hf
  · exact absurd hf (by decide)
  rename_i f4
  refine ⟨by omega, ?_, ?_⟩
  · by_cases hc : s.c = 3
    · exact Or.inl ⟨hc, if_pos hc⟩
    · exact Or.inr ⟨hc, (if_neg hc).trans r1⟩
  · unfold runJ
    split
    · exact h
    · rename_i hc
      try rw [if_pos r1]
      refine ⟨h.st, h.se, r4, by simp only; omega, ?_, ?_, h.xb⟩
      · intro e
        simp only at e ⊢
        have : ¬ u 4 ≤ s.k := fun q => f4 ⟨e, q, r3⟩
        omega
      · intro e
        simp only at e ⊢
        have : ¬ u 6 ≤ s.k := fun q => f3 ⟨e, q⟩
        omega
theorem bd_fault {u : Nat → Int} {s : Jb} (h : BD u s) {now f : Int} (hf : fau s now = f) (h0 : f ≠ 0) : (f = 3 ∧ 7 + u 1 ≤ now) ∨ (f = 1 ∧ s.n = u 2) ∨ f = 2 := by
  have hb := h.nb
  unfold fau at hf
  rw [h.se, h.st] at hf
  split at hf
  · exact absurd hf.symm h0
  split at hf
  · rename_i h1; exact Or.inl ⟨hf.symm, h1⟩
  split at hf
  · rename_i h1; exact Or.inr (Or.inl ⟨hf.symm, by omega⟩)
  split at hf
  · exact Or.inr (Or.inr hf.symm)
  split at hf
  · exact Or.inr (Or.inr hf.symm)
  · exact absurd hf.symm h0
theorem fau_done {s : Jb} (h : s.l = []) (now : Int) : fau s now = 0 := if_pos h
end Go.Proofs.Ytoggnofdgmhbmaa.Jo
