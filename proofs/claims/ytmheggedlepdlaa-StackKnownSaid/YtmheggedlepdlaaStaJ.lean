/- The program's stack, written: without, Unlock, Drop. -/
import Derived.Test.YtmheggedlepdlaaStaI
import Derived.Deep.RegionLawGrows
namespace Go.Proofs.Ytmheggedlepdlaa
open Go.RowKit Lv Sk Go.Sort
set_option linter.unusedVariables false

theorem step_append_eq {P : Program} {ops : Array Oper} {o : Oper} {a : Act} {w w' : World} {K : Act → World → Prop} {Q : Exit → Act → World → Prop} {E : Prop}
    (hg : o.guard = none) (s x : Operand) (t : TypeId) (hop : o.op = Op.call { callee := Callee.builtin Builtin.append, args := #[s, x], argTypes := #[t, t] })
    (sv xv v' : Value) (hs : a.eval s = sv) (hx : a.eval x = xv) (hrun : (Builtin.append_ #[t, t] o.type #[sv, xv]).run P w = .ok v' w') (hK : K (a.put o.dst v') w') :
    if Region.wanted o (yielded ops a.tmps) = true then Oper.wp P o a w K Q else E := by
  have hw : Region.wanted o (yielded ops a.tmps) = true := by simp [Region.wanted, hg]
  rw [if_pos hw]
  unfold Oper.wp
  simp [execOp, hop, resolve, invoke, builtin, hs, hx, hrun, Result.andThen]
  exact hK
/-- entries without one: where they were, without room, or anew -/
def WoP (w : World) (B : Nat) (v : Value) (l' : List En) (e : Ending) (w' : World) : Prop :=
  ∃ a c, e = .returned (.slice a l'.length c) ∧ PE w' B (.slice a l'.length c) l' ∧ Below w.heap.size w w' ∧ ((Value.slice a l'.length c).ownBlock = v.ownBlock ∨ ∀ k, (Value.slice a l'.length c).ownBlock = some k → w.heap.size ≤ k)
set_option maxHeartbeats 4000000 in
theorem without_any {w : World} {B : Nat} {v : Value} {l : List En} {k : Nat} (h : PE w B v l) (hk : k < l.length) (hB : B ≤ w.heap.size) (hl : l.length ≤ 1000) :
    Calls Try.prog 40 #[v, .int .i64 k] w (WoP w B v (cut l k)) := by
  rcases h with ⟨rfl, rfl⟩ | ⟨g, cap, rfl, h1, h2, h3, h4, h5, h6⟩
  · exact absurd hk (by simp)
  obtain ⟨i0, hi, hz0, hz1, hz2⟩ := info_parts infoPn
  have hmx : l.length ≤ 9223372036854775807 := by omega
  have HW : Hid (IntKind.i64.wrap ((k : Int) + 1) = k + 1 ∧ wrap64 ((k : Int) + 1) = k + 1) := ⟨IntWalk.i64_in _ (by omega), by unfold wrap64; omega⟩
  have hk0 : (0 : Int) ≤ k := by omega
  have hk1 : (0 : Int) ≤ (k : Int) + 1 := by omega
  have hkn : ((k : Int) + 1).toNat = k + 1 := by omega
  have hcl := cut_len hk
  by_cases hm : l.length = k + 1
  · have hct : cut l k = l.take k := by
      unfold cut
      rw [show l.drop (k + 1) = [] from List.eq_nil_of_length_eq_zero (by rw [List.length_drop]; omega), List.append_nil]
    have hlk : (cut l k).length = k := by omega
    have HWO : Hid (∀ W : World, Below w.heap.size w W → WoP w B (.slice (some ⟨g, 0, none⟩) l.length cap) (cut l k) (.returned (.slice (some ⟨g, 0, none⟩) k k)) W) := fun W hW => by
      refine ⟨some ⟨g, 0, none⟩, k, by rw [hlk], Or.inr ⟨g, k, by rw [hlk], h1, Nat.lt_of_lt_of_le h2 hW.size, by omega, by unfold maxLen; omega, fun j u hj => ?_, Or.inl hlk.symm⟩, hW, Or.inl rfl⟩
      rw [hct, ← ecells_take, List.getElem?_take] at hj
      split at hj
      · have := h5 j u hj
        rw [Addr.add_lit] at this ⊢
        exact (hW.cell (by exact h2)).trans this
      · cases hj
    have hrun : ∀ (a : Addr) (c : Nat) (W : World), (Builtin.append_ #[55, 55] 55 #[.slice (some ⟨g, 0, none⟩) k k, .slice (some a) 0 c]).run Try.prog W = .ok (.slice (some ⟨g, 0, none⟩) k k) W := fun a c W =>
      run_append_room_cells (P := Try.prog) W 55 55 66 i0 Try.underlying55 hi g 0 k k a 0 c [] (by simp) (by intro j u hj; simp at hj) (by simp) (by omega) (by intro j hj; simp at hj) (by intro j hj; simp at hj)
    have HRUN := Lib.hid hrun
    obtain ⟨m, hmm⟩ : ∃ m, m = l.length := ⟨_, rfl⟩
    obtain ⟨L, hL⟩ : ∃ L, L = cut l k := ⟨_, rfl⟩
    rw [← hL] at HWO ⊢
    rw [← hmm] at hk hl h3 hmx hm HWO ⊢
    clear hcl hlk hct h5 h6 hrun hmm hL hz0 hz1 hz2 hi
    subst hm
    have hle : (k : Int) ≤ (k : Int) + 1 := by omega
    have hle2 : (k : Int) ≤ (cap : Int) := by omega
    have hle3 : k ≤ cap := by omega
    have hle4 : (k : Int) + 1 ≤ (cap : Int) := by omega
    by_cases hcc : cap = k + 1
    · subst hcc
      obtain ⟨hw, hw2⟩ := HW.out
      go_enter Try.func40, Try.ntmps40
      go_wp2_with fail
      go_region_law (refine step_append_eq rfl (.tmp 8) (.tmp 12) 55 rfl _ _ _ (by simp [Act.eval]) (by simp [Act.eval]) (HRUN.out _ _ _) ?_)
      all_goals
        go_wp2_with fail
        go_ret
        exact HWO.out _ (Below.refl _ _).drew
    · obtain ⟨hw, hw2⟩ := HW.out
      go_enter Try.func40, Try.ntmps40
      go_wp2_with fail
      go_region_law (refine step_append_eq rfl (.tmp 8) (.tmp 12) 55 rfl _ _ _ (by simp [Act.eval]) (by simp [Act.eval]) (HRUN.out _ _ _) ?_)
      all_goals
        go_wp2_with fail
        go_ret
        exact HWO.out _ (Below.refl _ _).drew
  · have hd : (l.drop (k + 1)).length = l.length - (k + 1) := List.length_drop
    have ht : (l.take k).length = k := by rw [List.length_take]; omega
    have hlk : (cut l k).length = l.length - 1 := by omega
    obtain ⟨v', w1, hrun, hown, hgr⟩ := run_append_arg_grows (P := Try.prog) w.drew 55 55 66 i0 _ 2 16 Try.underlying55 hi hz0 hz1 hz2 rfl (by decide) ⟨g, 0, none⟩ k k (ecells (l.take k)) (by rw [ecells_len, ht])
      (fun j u hj => by
        rw [← ecells_take, List.getElem?_take] at hj
        split at hj
        · exact h5 j u hj
        · cases hj) ⟨g, (k + 1) * 2, none⟩ (l.length - (k + 1)) (cap - (k + 1)) (ecells (l.drop (k + 1))) (by rw [ecells_len, hd])
      (fun j u hj => by
        rw [← ecells_drop, List.getElem?_drop] at hj
        have := h5 _ _ hj
        rw [Addr.add_lit] at this ⊢
        simp only [Nat.zero_add] at this
        exact this) (by omega) (by unfold maxLen; omega) (by omega)
    rw [← ecells_append, show k + (l.length - (k + 1)) = (cut l k).length by omega] at hown
    obtain ⟨va, vc, rfl⟩ := own_slice hown
    have HWO : Hid (WoP w B (.slice (some ⟨g, 0, none⟩) l.length cap) (cut l k) (.returned (.slice va (cut l k).length vc)) w1) :=
      ⟨va, vc, rfl, PE.of_own (own_base hown hB), ⟨hgr.os, hgr.tape, hgr.output, hgr.size, fun j hj => hgr.block j hj (by simp)⟩, Or.inr fun j hj => (hown.lt j hj).1⟩
    have HRUN := Lib.hid hrun
    obtain ⟨m, hmm⟩ : ∃ m, m = l.length := ⟨_, rfl⟩
    obtain ⟨L, hL⟩ : ∃ L, L = cut l k := ⟨_, rfl⟩
    rw [← hL] at HWO HRUN ⊢
    rw [← hmm] at hk hl h3 hmx hm HWO HRUN ⊢
    have hcc : ¬ cap = k + 1 := by omega
    have hkm : k + 1 < m := by omega
    have hkc : k + 1 < cap := by omega
    have hkm2 : k + 1 ≤ m := by omega
    have hle2 : (k : Int) ≤ (cap : Int) := by omega
    have hle3 : k ≤ cap := by omega
    have hle4 : (k : Int) + 1 ≤ (cap : Int) := by omega
    have hle5 : (k : Int) + 1 ≤ (m : Int) := by omega
    clear hcl hlk hd ht h5 h6 hrun hmm hL hz0 hz1 hz2 hi hown hgr
    obtain ⟨hw, hw2⟩ := HW.out
    go_enter Try.func40, Try.ntmps40
    go_wp2_with fail
    go_region_law (refine step_append_eq rfl (.tmp 8) (.tmp 12) 55 rfl _ _ _ (by simp [Act.eval, Act.put]) (by simp [Act.eval, Act.put]) HRUN.out ?_)
    all_goals
      go_wp2_with fail
      go_ret
      exact HWO.out
end Go.Proofs.Ytmheggedlepdlaa
