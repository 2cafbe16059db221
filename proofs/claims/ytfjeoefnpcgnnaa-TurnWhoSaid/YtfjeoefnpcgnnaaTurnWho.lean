/- For any purses, six at most, some of which may be none, charged some times: Who answers what the document answers. No condition. -/
import Derived.Test.YtfjeoefnpcgnnaaRows
import Derived.Test.YtfjeoefnpcgnnaaTurH
import Derived.Test.YtfjeoefnpcgnnaaTurO
import Derived.WalkKit
import Derived.ProofKit
import Derived.OpenShut
import Derived.ShutString
import Derived.ChangeOld
import Derived.ChangeMaps5
import Derived.Below
namespace Go.Proofs.Ytfjeoefnpcgnnaa.turnWho
open Go.ChangeShapes Go.WideShapes Go.ChangeAt Go.ChangeMaps Go.RowKit Tk De Dl Pw
set_option linter.unusedVariables false

theorem own : ownKnob Try.prog.godebug = none := by kernel_rfl
theorem laidOut : laidOutB Try.prog = true := by kernel_rfl

set_option maxRecDepth 100000 in
theorem lifted (os : Os) (started : os.Started) (H : Type) (enc : TypeId × Value → H) :
    ReturnsInHanded {} Try.checked os 4 .any (Rows.turnWhoSpec.pre6 enc Try.prog Try.f4 Rows.turnWhoRow.domain false) (Rows.turnWhoSpec.post enc Try.prog Try.f4 false true false false) := by
  refine returnsInHanded_of_change (C := Try.checked) own started (by kernel_rfl) Try.func4
    (ChangeSpec.witness6 (enc := enc) (C := Try.checked) false ⟨#[], #[.slice none 0 0], []⟩ 8 (by kernel_rfl) (by kernel_rfl) (by kernel_rfl) (by kernel_rfl)) ?_
  intro W base args ds gs before hval0 hW hcnd _
  have hval : ∀ (j : Nat) t v, Try.f4.params[j]? = some t → args[j]? = some v → Value.okWide Try.prog W .any base t v := hval0
  have hW' := hW
  obtain ⟨p, q, hA0, hV, rfl, hfz, hnd⟩ := hW
  have hA : DataW.TrodAll enc Try.prog W 0 (fun _ => true) true Try.f4.params.toList args.toList ds p := hA0
  rw [Try.params4] at hA hval
  obtain ⟨v0, vs0, d0, ds0, p0, q0, hargs, rfl, rfl, h0, r0⟩ := trodAll_cons hA
  obtain ⟨rfl, rfl, rfl⟩ := trodAll_nil r0
  obtain rfl : args = #[v0] := by cases args; simp_all
  obtain ⟨rfl, rfl⟩ := trodVars_none hV
  obtain ⟨a0, len0, cap0, rfl⟩ := okWide_slice Try.underlying31 (hval 0 31 v0 rfl rfl)
  have k0 := h0
  have lt0 : ∀ x ∈ p0, x.block < W.heap.size := by obtain ⟨m, hm⟩ := k0; exact DataW.trod_lt m _ _ _ hm
  obtain ⟨n0, z0, b0, v0⟩ : ∃ (n : Nat) (z : Nat → Nat → Int) (b : Nat → Bool), OS W (.slice a0 len0 cap0) n z b := by
    obtain ⟨fuel, hf⟩ := h0
    obtain ⟨u, n, z, b, hcs, hu⟩ := open_ones Try.underlying31 Try.underlying38 rfl (by kernel_rfl) (by kernel_rfl) (fun j f hj => by
      match j, hj with
      | 0, hj => injection hj with hj; subst hj; exact ⟨fun _ => Try.underlying3, fun h => absurd h (by decide)⟩
      | 1, hj => injection hj with hj; subst hj; exact ⟨fun _ => Try.underlying3, fun h => absurd h (by decide)⟩
      | 2, hj => injection hj with hj; subst hj; exact ⟨fun _ => Try.underlying3, fun h => absurd h (by decide)⟩
      | 3, hj => injection hj with hj; subst hj; exact ⟨fun _ => Try.underlying3, fun h => absurd h (by decide)⟩
      | 4, hj => injection hj with hj; subst hj; exact ⟨fun h => absurd h (by decide), fun _ => Try.underlying4⟩) hf
    have e : Value.slice a0 len0 cap0 = u := by simpa [Value.cells] using hcs
    exact ⟨n, z, b, by rw [e]; exact hu⟩
  clear hA0 hval0
  simp only [List.append_nil] at hW'
  refine (who_law v0).mono fun e W' ⟨he, bel⟩ => ?_
  subst he
  exact ⟨_, rfl, _, _, _, [], _, [], hW', trodAll_mk1 (shut_bool Try.underlying4 _), (trodAll_cons_mk (Below.trod laidOut (by kernel_rfl) (of_decide_eq_true (by kernel_rfl)) k0 bel lt0) trodAll_mk0), rfl, bel.frame _, fun h => by cases h⟩

theorem over : Rows.turnWhoRow.holds Try.pinned (OpenSpec.ofChange Rows.turnWhoSpec) :=
  OpenClaim.holds_of_wide 4 Try.f4 rfl rfl rfl rfl rfl rfl rfl ⟨rfl, rfl, rfl, rfl, rfl⟩ rfl rfl rfl rfl rfl (by kernel_rfl) Try.func4 (by kernel_rfl)
    (of_decide_eq_true (by kernel_rfl)) (by unfold Func.isWrapper; first | (rw [if_pos (by decide +kernel)]; kernel_rfl) | (rw [if_neg (by decide +kernel)]; exact ⟨rfl, rfl⟩))
    (fun os started H enc _ => lifted os started H enc)

/-- The statement. -/
theorem proved : Rows.TurnWhoSaid := over
#print axioms proved
end Go.Proofs.Ytfjeoefnpcgnnaa.turnWho
