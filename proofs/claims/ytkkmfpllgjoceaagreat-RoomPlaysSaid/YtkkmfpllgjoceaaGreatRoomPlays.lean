/- For any tasks and any calls (80 at most): whatever a room answers, call by call, is what the document says, and so is all that is asked of it behind each call; what was handed in is as it was. No condition. -/
import Derived.Test.YtkkmfpllgjoceaaGreatRows
import Derived.Test.YtkkmfpllgjoceaaGreatRooRj
import Derived.WalkKit
import Derived.ProofKit
import Derived.OpenShut
import Derived.ShutString
import Derived.ChangeOld
import Derived.ChangeMaps5
import Derived.Below
namespace Go.Proofs.YtkkmfpllgjoceaaGreat.roomPlays
open Go.ChangeShapes Go.WideShapes Go.ChangeAt Go.ChangeMaps Go.RowKit St St.Lv St.Sk
set_option linter.unusedVariables false

theorem own : ownKnob Tryz.prog.godebug = none := by kernel_rfl
theorem laidOut : laidOutB Tryz.prog = true := by kernel_rfl

set_option maxRecDepth 100000 in
theorem lifted (os : Os) (started : os.Started) (H : Type) (enc : TypeId × Value → H) :
    ReturnsInHanded {} Tryz.checked os 3 .any (Rows.roomPlaysSpec.pre6 enc Tryz.prog Tryz.f3 Rows.roomPlaysRow.domain false) (Rows.roomPlaysSpec.post enc Tryz.prog Tryz.f3 false true false false) := by
  refine returnsInHanded_of_change (C := Tryz.checked) own started (by kernel_rfl) Tryz.func3
    (ChangeSpec.witness6 (enc := enc) (C := Tryz.checked) false ⟨#[], #[.slice none 0 0, .slice none 0 0], []⟩ 8 (by kernel_rfl) (by kernel_rfl) (by kernel_rfl) (by kernel_rfl)) ?_
  intro W base args ds gs before hval0 hW hcnd _
  have hval : ∀ (j : Nat) t v, Tryz.f3.params[j]? = some t → args[j]? = some v → Value.okWide Tryz.prog W .any base t v := hval0
  have hW' := hW
  obtain ⟨p, q, hA0, hV, rfl, hfz, hnd⟩ := hW
  have hA : DataW.TrodAll enc Tryz.prog W 0 (fun _ => true) true Tryz.f3.params.toList args.toList ds p := hA0
  rw [Tryz.params3] at hA hval
  obtain ⟨v0, vs0, d0, ds0, p0, q0, hargs, rfl, rfl, h0, r0⟩ := trodAll_cons hA
  obtain ⟨v1, vs1, d1, ds1, p1, q1, rfl, rfl, rfl, h1, r1⟩ := trodAll_cons r0
  obtain ⟨rfl, rfl, rfl⟩ := trodAll_nil r1
  obtain rfl : args = #[v0, v1] := by cases args; simp_all
  obtain ⟨rfl, rfl⟩ := trodVars_none hV
  obtain ⟨a0, len0, cap0, rfl⟩ := okWide_slice Tryz.underlying22 (hval 0 22 v0 rfl rfl)
  have k0 := h0
  have lt0 : ∀ x ∈ p0, x.block < W.heap.size := by obtain ⟨m, hm⟩ := k0; exact DataW.trod_lt m _ _ _ hm
  obtain ⟨z0, v0, y0⟩ : ∃ z : Nat → Nat → Int, TK W (.slice a0 len0 cap0) len0 z ∧ ∀ i j, (Lit.int .i64 (z i j)).wf = true := by
    obtain ⟨fuel, hf⟩ := h0
    obtain ⟨u, n, z, hcs, hl, hw⟩ := Ro.open_tasksR hf
    have e : Value.slice a0 len0 cap0 = u := by simpa [Value.cells] using hcs
    subst e
    obtain ⟨_, _, e, _, _⟩ := hl.slice
    injection e with _ e _
    subst e
    exact ⟨z, hl, hw⟩
  obtain ⟨a1, len1, cap1, rfl⟩ := okWide_slice Tryz.underlying23 (hval 1 23 v1 rfl rfl)
  have k1 := h1
  have lt1 : ∀ x ∈ p1, x.block < W.heap.size := by obtain ⟨m, hm⟩ := k1; exact DataW.trod_lt m _ _ _ hm
  obtain ⟨z1, v1⟩ : ∃ d : Nat → Ro.Dv, Ro.DS W (.slice a1 len1 cap1) len1 d := by
    obtain ⟨fuel, hf⟩ := h1
    obtain ⟨u, n, d, hcs, hl⟩ := Ro.open_ds hf
    have e : Value.slice a1 len1 cap1 = u := by simpa [Value.cells] using hcs
    subst e
    obtain ⟨_, _, e, _, _⟩ := hl.slice
    injection e with _ e _
    subst e
    exact ⟨d, hl⟩
  clear hA0 hval0
  simp only [List.append_nil] at hW'
  refine (Ro.plays_any v0 (fun i => (bounds_i64 (y0 i 7)).2) v1).mono fun e W' ⟨he, bel⟩ => ?_
  subst he
  exact ⟨_, rfl, _, _, _, [], _, [], hW', trodAll_mk1 (shut_bool Tryz.underlying4 _), (trodAll_cons_mk (Below.trod laidOut (by kernel_rfl) (of_decide_eq_true (by kernel_rfl)) k0 bel lt0) (trodAll_cons_mk (Below.trod laidOut (by kernel_rfl) (of_decide_eq_true (by kernel_rfl)) k1 bel lt1) trodAll_mk0)), rfl, bel.frame _, fun h => by cases h⟩

theorem over : Rows.roomPlaysRow.holds Tryz.pinned (OpenSpec.ofChange Rows.roomPlaysSpec) :=
  OpenClaim.holds_of_wide 3 Tryz.f3 rfl rfl rfl rfl rfl rfl rfl ⟨rfl, rfl, rfl, rfl, rfl⟩ rfl rfl rfl rfl rfl (by kernel_rfl) Tryz.func3 (by kernel_rfl)
    (of_decide_eq_true (by kernel_rfl)) (by unfold Func.isWrapper; first | (rw [if_pos (by decide +kernel)]; kernel_rfl) | (rw [if_neg (by decide +kernel)]; exact ⟨rfl, rfl⟩))
    (fun os started H enc _ => lifted os started H enc)

/-- The statement. -/
theorem proved : Rows.RoomPlaysSaid := over
#print axioms proved
end Go.Proofs.YtkkmfpllgjoceaaGreat.roomPlays
