/- A room, plainly: its tasks' levels and ceilings, as levels and stacks have them; the ceiling of what is locked. -/
import Derived.Test.YtkkmfpllgjoceaaGreatRooW
import Derived.Test.YtkkmfpllgjoceaaGreatLevP
namespace Go.Proofs.YtkkmfpllgjoceaaGreat.Ro
open St.Sk St.Lv
set_option linter.unusedVariables false

theorem ce_ge' {n : Nat} {D : Nat → Int} {u : Nat → Bool} {j : Nat} (hu : u j = true) : ∀ {k : Nat}, j < k → St.Lv.lev n D j ≤ ce n D u k
  | k + 1, h => by
    unfold ce
    by_cases e : j = k
    · subst e; rw [if_pos hu]; omega
    · have := ce_ge' (n := n) (D := D) hu (k := k) (by omega)
      split <;> omega
theorem us_in {n : Nat} {U : Nat → Int} {r i : Int} (h : us n U r i = true) : (0 ≤ i ∧ i < n) ∧ (0 ≤ r ∧ r < 8) := by
  unfold us at h
  simp only [Bool.and_eq_true, decide_eq_true_eq] at h
  exact ⟨h.1, h.2.1⟩
/-- the tasks of a room: of each eight numbers -/
def env (n : Nat) (z : Nat → Nat → Int) : Env where
  n := n
  D := fun t => z t.toNat 1
  lev := St.Lv.lev n (fun i => z i 1)
  c := ceil n (fun i => z i 1) (fun i => z i 3)
  use := fun t r => us n (fun i => z i 3) r t
  mono := fun a b ha hb hc hd h => by
    obtain ⟨i, rfl⟩ : ∃ i : Nat, a = i := ⟨a.toNat, by omega⟩
    obtain ⟨j, rfl⟩ : ∃ j : Nat, b = j := ⟨b.toNat, by omega⟩
    rw [lev_at (by omega), lev_at (by omega)]
    exact lc_mono (by simpa using h) n
  high := fun t r h => by
    obtain ⟨⟨h1, h2⟩, _⟩ := us_in h
    obtain ⟨j, rfl⟩ : ∃ j : Nat, t = j := ⟨t.toNat, by omega⟩
    exact ce_ge' (u := fun i : Nat => us n (fun i => z i 3) r (i : Int)) h (by omega)
  pos := fun t h1 h2 => by
    obtain ⟨i, rfl⟩ : ∃ i : Nat, t = i := ⟨t.toNat, by omega⟩
    rw [lev_at (by omega)]
    exact lc_ge _ _ n
/-- the ceiling of what is locked, however it is gone through -/
theorem cl_append (c : Int → Int) : ∀ (E F : List En), cl c (E ++ F) = max (cl c E) (cl c F)
  | [], F => by have := cl_nn c F; simp only [List.nil_append, cl]; omega
  | x :: t, F => by have := cl_append c t F; simp only [List.cons_append, cl]; omega
theorem cl_take (c : Int → Int) (E : List En) (k : Nat) (h : k < E.length) : cl c (E.take (k + 1)) = max (cl c (E.take k)) (c (E.getD k e0).2) := by
  rw [take_one E k h, cl_append]
  have := cl_nn c (E.take k)
  simp only [cl]
  omega
end Go.Proofs.YtkkmfpllgjoceaaGreat.Ro
