/- Plain: maps that are filled id by id, in order, or turned. -/
import Derived.Test.YtoiegoehebkjgaaPlainB
namespace Go.Proofs.Ytoiegoehebkjgaa.Rk
set_option linter.unusedVariables false

theorem upd_upd (m : Mp) (id : Int) (x y : Option Int) : upd (upd m id x) id y = upd m id y := by funext j; unfold upd; split <;> rfl
/-- ids 0 to below i, with their keys -/
def mk (z : Nat → Int) : Nat → Mp
  | 0 => fun _ => none
  | i + 1 => upd (mk z i) i (some (z i))
theorem mk_at (z : Nat → Int) (i : Nat) : ∀ j : Int, mk z i j = if 0 ≤ j ∧ j < i then some (z j.toNat) else none := by
  induction i with
  | zero => intro j; rw [if_neg (by omega)]; rfl
  | succ i ih =>
    intro j
    unfold mk upd
    by_cases h : j = i
    · subst h; rw [if_pos rfl, if_pos (by omega)]; simp
    · rw [if_neg h, ih j]
      by_cases h2 : 0 ≤ j ∧ j < i
      · rw [if_pos h2, if_pos (by omega)]
      · rw [if_neg h2, if_neg (by omega)]
/-- the ids turned by t, of N -/
def tn (N t i : Nat) : Nat := (i + t) % N
theorem tn_lt {N t i : Nat} (h : 0 < N) : tn N t i < N := Nat.mod_lt _ h
theorem tn_inj {N t i j : Nat} (ht : t < N) (hi : i < N) (hj : j < N) (e : tn N t i = tn N t j) : i = j := by
  unfold tn at e
  have h1 : (i + t) % N = if i + t < N then i + t else i + t - N := by
    split
    · exact Nat.mod_eq_of_lt ‹_›
    · rw [Nat.mod_eq_sub_mod (by omega), Nat.mod_eq_of_lt (by omega)]
  have h2 : (j + t) % N = if j + t < N then j + t else j + t - N := by
    split
    · exact Nat.mod_eq_of_lt ‹_›
    · rw [Nat.mod_eq_sub_mod (by omega), Nat.mod_eq_of_lt (by omega)]
  rw [h1, h2] at e
  split at e <;> split at e <;> omega
theorem tn_onto {N t k : Nat} (ht : t < N) (hk : k < N) : ∃ i, i < N ∧ tn N t i = k := by
  by_cases h : t ≤ k
  · exact ⟨k - t, by omega, by unfold tn; rw [Nat.sub_add_cancel h]; exact Nat.mod_eq_of_lt hk⟩
  · refine ⟨k + N - t, by omega, ?_⟩
    unfold tn
    have e : k + N - t + t = k + N := by omega
    rw [e, Nat.add_mod_right]
    exact Nat.mod_eq_of_lt hk
def mt (z : Nat → Int) (N t : Nat) : Nat → Mp
  | 0 => fun _ => none
  | i + 1 => upd (mt z N t i) (tn N t i : Nat) (some (z (tn N t i)))
theorem mt_new {z : Nat → Int} {N t : Nat} (ht : t < N) : ∀ i k : Nat, i ≤ k → k < N → mt z N t i (tn N t k : Nat) = none := by
  intro i
  induction i with
  | zero => intro k _ _; rfl
  | succ i ih =>
    intro k hk hkN
    unfold mt
    rw [upd_other (fun e => by have := tn_inj (i := k) (j := i) ht hkN (by omega) (by omega); omega)]
    exact ih k (by omega) hkN
theorem mt_old {z : Nat → Int} {N t : Nat} (ht : t < N) : ∀ i k : Nat, k < i → i ≤ N → mt z N t i (tn N t k : Nat) = some (z (tn N t k)) := by
  intro i
  induction i with
  | zero => intro k h; omega
  | succ i ih =>
    intro k hk hiN
    unfold mt
    by_cases e : k = i
    · subst e; exact upd_same _ _ _
    · rw [upd_other (fun e' => e (tn_inj (i := k) (j := i) ht (by omega) (by omega) (by omega)))]
      exact ih k (by omega) (by omega)
theorem mt_out {z : Nat → Int} {N t : Nat} (hN : 0 < N) : ∀ (i : Nat) (j : Int), ¬ (0 ≤ j ∧ j < N) → mt z N t i j = none := by
  intro i
  induction i with
  | zero => intro j _; rfl
  | succ i ih =>
    intro j hj
    unfold mt
    have := tn_lt (t := t) (i := i) hN
    rw [upd_other (by omega)]
    exact ih j hj
theorem mt_all {z : Nat → Int} {N t : Nat} (ht : t < N) : mt z N t N = mk z N := by
  funext j
  rw [mk_at]
  by_cases h : 0 ≤ j ∧ j < N
  · rw [if_pos h]
    obtain ⟨k, rfl⟩ : ∃ k : Nat, j = k := ⟨j.toNat, by omega⟩
    obtain ⟨i, hi, e⟩ := tn_onto (k := k) ht (by omega)
    have := mt_old (z := z) ht N i hi (Nat.le_refl _)
    rw [e] at this
    rw [this]; simp
  · rw [if_neg h]; exact mt_out (by omega) N j h

end Go.Proofs.Ytoiegoehebkjgaa.Rk
