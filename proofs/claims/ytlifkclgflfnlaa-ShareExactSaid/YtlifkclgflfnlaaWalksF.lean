/- The document's answers for many numbers (escapementref01.Sum, Lcm). -/
import Derived.Test.YtlifkclgflfnlaaWalksE
namespace Go.Proofs.Ytlifkclgflfnlaa
open Go.RowKit Tk
set_option linter.unusedVariables false

theorem allp_step (p : Int → Bool) (zs : List Int) (k : Nat) (h : k < zs.length) (e : p (zs.getD k 0) = true) (ht : (zs.take k).all p = true) : (zs.take (k + 1)).all p = true := by
  rw [List.take_add_one, List.all_append, ht]
  simp only [List.getD, List.getElem?_eq_getElem h, Option.getD_some] at e
  simp [List.getElem?_eq_getElem h, e]
theorem allp_no (p : Int → Bool) (zs : List Int) (k : Nat) (h : k < zs.length) (e : p (zs.getD k 0) = false) : zs.all p = false := by
  simp only [List.getD, List.getElem?_eq_getElem h, Option.getD_some] at e
  rw [List.all_eq_false]
  exact ⟨zs[k], List.getElem_mem h, by simp [e]⟩

theorem step_parts {n x : Int} (hn : ok1 n = true) (hx : ok1 x = true) : ∃ G : Int, 1 ≤ G ∧ 1 ≤ x ∧ x ≤ 1099511627776 ∧ 0 ≤ x / G ∧ x / G ≤ 1099511627776 ∧ gcdN n x = G ∧ gcdE n x = 0 ∧ lcm2 n x = n * (x / G) ∧ tk n = true ∧ tk (x / G) = true ∧ 1 ≤ lcm2 n x := by
  obtain ⟨g1, g2, d1, d2, tq, tn, l1⟩ := gcd_ok_pos hn hx
  rw [ok1_iff] at hn hx
  have h1 := gcd_bd hn.1 hn.2 hx.1 hx.2
  have h2 := quo_bd hn.1 hn.2 hx.1 hx.2
  exact ⟨_, h1.1, hx.1, hx.2, by omega, h2.2, g1, g2, rfl, tn, tq, l1⟩

end Go.Proofs.Ytlifkclgflfnlaa
