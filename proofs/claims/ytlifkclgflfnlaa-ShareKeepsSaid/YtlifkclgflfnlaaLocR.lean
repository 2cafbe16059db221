/- Alone, with a greater budget, with plain tasks of less: easier. -/
import Derived.Test.YtlifkclgflfnlaaLocQ
namespace Go.Proofs.Ytlifkclgflfnlaa.Lo
open Go.Proofs.Ytlifkclgflfnlaa.De Go.Proofs.Ytlifkclgflfnlaa.Su Go.Proofs.Ytlifkclgflfnlaa.Dl Go.Proofs.Ytlifkclgflfnlaa.Ed
set_option linter.unusedVariables false

theorem wait_alone (p : Pn) (t : Nat → Int) : wait [p] 0 t = 0 := by
  show wt [p] 0 (t 5) 0 + add1 [p] 0 (t 5) 0 = 0
  unfold add1
  rw [if_neg (fun h => h.2.1 rfl)]
  rfl
theorem del_le {l l' : List Pn} {q q' : Nat} {T : Int} : ∀ {n : Nat}, (∀ i, i < n → (l'.getD q' p0).z i 1 = (l.getD q p0).z i 1) → (∀ i, i < n → del1 l' q' ((l'.getD q' p0).z i) ≤ del1 l q ((l.getD q p0).z i)) → del l' q' T n ≤ del l q T n
  | 0, _, _ => Int.le_refl _
  | n + 1, h1, h2 => by
    have ih := del_le (T := T) (n := n) (fun i hi => h1 i (by omega)) (fun i hi => h2 i (by omega))
    have := h2 n (by omega)
    rw [del, del, h1 n (by omega)]
    split <;> omega
/-- alone, with a greater budget -/
theorem easy_alone {l : List Pn} {q : Nat} (h : chkP l = true) (hq : q < l.length) {b : Int} (hb : (l.getD q p0).bud ≤ b) :
    Easy l q [⟨(l.getD q p0).per, b, (l.getD q p0).n, (l.getD q p0).z⟩] 0 := by
  have hp := chkP_at h hq
  refine ⟨rfl, rfl, fun _ _ => rfl, fun _ _ => rfl, hb, fun i hi => ?_, fun t => ?_⟩
  · refine asks_le (Int.le_refl _) hi hi ?_
    show mor _ 0 ((l.getD q p0).z i) ≤ mor l q ((l.getD q p0).z i)
    unfold mor
    rw [wait_alone]
    have h1 := (wait_bd h q ((l.getD q p0).z i)).1
    split
    · rename_i hc
      have h2 := (hp.t i hi).n0 hc
      exact Int.mul_le_mul_of_nonneg_left (by omega) (by omega)
    · exact Int.le_refl _
  · refine del_le (fun _ _ => rfl) fun i hi => ?_
    show del1 _ 0 ((l.getD q p0).z i) ≤ del1 l q ((l.getD q p0).z i)
    unfold del1
    rw [wait_alone]
    have h1 := (wait_bd h q ((l.getD q p0).z i)).1
    split <;> omega
/-- a task's numbers without what is shared, of a Bound of one less -/
def bare (t : Nat → Int) : Nat → Int
  | 0 => t 0
  | 1 => t 1
  | 2 => max (t 2 - 1) 1
  | _ => 0
theorem bare_mor (l : List Pn) (q : Nat) (t : Nat → Int) : mor l q (bare t) = 0 := by
  unfold mor; rw [if_neg (by show ¬ ((0 : Int) < 0); omega)]
theorem bare_del (l : List Pn) (q : Nat) (t : Nat → Int) : del1 l q (bare t) = 0 := by
  unfold del1; rw [if_neg (by show ¬ ((0 : Int) < 0); omega)]; rfl
theorem del1_nn {l : List Pn} (h : chkP l = true) {q : Nat} {bud : Int} {t : Nat → Int} (ht : TB bud t) : 0 ≤ del1 l q t := by
  have := ht.l0
  unfold del1
  split <;> omega
theorem easy_bare {l : List Pn} {q : Nat} (h : chkP l = true) (hq : q < l.length) {b : Int} (hb : (l.getD q p0).bud ≤ b) :
    Easy l q [⟨(l.getD q p0).per, b, (l.getD q p0).n, fun i => bare ((l.getD q p0).z i)⟩] 0 := by
  have hp := chkP_at h hq
  refine ⟨rfl, rfl, fun _ _ => rfl, fun _ _ => rfl, hb, fun i hi => ?_, fun t => ?_⟩
  · refine asks_le ?_ hi hi ?_
    · show max ((l.getD q p0).z i 2 - 1) 1 ≤ (l.getD q p0).z i 2
      have := ((PB.good hp).at' i hi).2.2.2.2.2.2.1
      omega
    · show mor _ 0 (bare ((l.getD q p0).z i)) ≤ _
      rw [bare_mor]
      exact mor_nn h (hp.t i hi)
  · refine del_le (fun _ _ => rfl) fun i hi => ?_
    show del1 _ 0 (bare ((l.getD q p0).z i)) ≤ _
    rw [bare_del]
    exact del1_nn h (hp.t i hi)
end Go.Proofs.Ytlifkclgflfnlaa.Lo
