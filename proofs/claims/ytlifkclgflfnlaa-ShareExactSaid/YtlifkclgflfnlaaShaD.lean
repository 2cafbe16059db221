/- Servers by turns; is that what Sum answers. -/
import Derived.Test.YtlifkclgflfnlaaShaC
import Derived.Deep.RegionLawGrows
namespace Go.Proofs.Ytlifkclgflfnlaa.Sh
open Go.RowKit Tk De Dl Go.Proofs.Ytlifkclgflfnlaa.Lo
set_option linter.unusedVariables false

/-- an append whose run is known, as one step of a region that draws -/
theorem step_append_eq {P : Program} {ops : Array Oper} {o : Oper} {a : Act} {w w' : World} {K : Act → World → Prop} {Q : Exit → Act → World → Prop} {E : Prop}
    (hg : o.guard = none) (s x : Operand) (t : TypeId) (hop : o.op = Op.call { callee := Callee.builtin Builtin.append, args := #[s, x], argTypes := #[t, t] })
    (sv xv v' : Value) (hs : a.eval s = sv) (hx : a.eval x = xv) (hrun : (Builtin.append_ #[t, t] o.type #[sv, xv]).run P w = .ok v' w') (hK : K (a.put o.dst v') w') :
    if Region.wanted o (yielded ops a.tmps) = true then Oper.wp P o a w K Q else E := by
  have hw : Region.wanted o (yielded ops a.tmps) = true := by simp [Region.wanted, hg]
  rw [if_pos hw]
  unfold Oper.wp
  simp [execOp, hop, resolve, invoke, builtin, hs, hx, hrun, Result.andThen]
  exact hK
/-- a server more in a row of the call's own -/
theorem app_server {w : World} {C n : Nat} {v : Value} {P B : Nat → Int} (hown : SW w C v n P B) {g : Nat} (hg : w.heap[g]? = some (.cells #[.int .i64 (P n), .int .i64 (B n), .slice none 0 0] 36 (0, 0))) (hB : C ≤ w.heap.size) (hn : n ≤ 1000) (ty : TypeId) :
    ∃ v' w', (Builtin.append_ #[22, 22] ty #[v, .slice (some ⟨g, 0, none⟩) 1 1]).run Try.prog w = .ok v' w' ∧ SW w' C v' (n + 1) P B ∧ Below C w w' := by
  obtain ⟨i0, hi, hz0, hz1, hz2⟩ := info_parts infoPt
  obtain ⟨v', w', hrun, hown', hgr, _⟩ := run_append_own (P := Try.prog) (w := w) C 22 ty 36 i0 _ 3 40 Try.underlying22 hi hz0 hz1 hz2 rfl (by decide) v n _ hown ⟨g, 0, none⟩ 1 1 [.int .i64 (P n), .int .i64 (B n), .slice none 0 0] rfl
    (fun j u hj => by rw [Addr.add_lit, Nat.zero_add, cell_of_row _ _ j _ _ _ hg, List.getElem?_toArray]; exact hj) (sv_one _ _) (by unfold maxLen; omega) (by omega) hB
  exact ⟨v', w', hrun, hown', (Below.refl C w).grown hgr hB (fun k e => (hown.lt k e).1)⟩
def tP (xs : List Int) (i : Nat) : Int := xs.getD (2 * i + 1) 0
def tB (xs : List Int) (i : Nat) : Int := xs.getD (2 * i) 0
def TurnP (w : World) (xs : List Int) (e : Ending) (w' : World) : Prop := ∃ r, e = .returned r ∧ SW w' w.heap.size r (xs.length / 2) (tP xs) (tB xs) ∧ Below w.heap.size w w'
set_option maxHeartbeats 4000000 in
theorem servers_any {w : World} {v : Value} {xs : List Int} (h : IS w v xs) (hl : xs.length ≤ 1000) : Calls Try.prog 15 #[v] w (TurnP w xs) := by
  obtain ⟨i0, hi, hz0, hz1, hz2⟩ := info_parts infoPt
  have HI := Lib.hid (⟨hi, hz0, hz1, hz2⟩ : _ ∧ _ ∧ _ ∧ _)
  have mixed : Try.prog.follows .mixedOrders = true := by kernel_rfl
  obtain ⟨a, cap, rfl, hn1, hn2⟩ := h.slice
  have HP := Lib.hid h
  have HO := Lib.hid (World.ownsRow_nil w w.heap.size 36 3)
  obtain ⟨n, hn⟩ : ∃ n, n = xs.length := ⟨_, rfl⟩
  have HN := Lib.hid hn
  rw [← hn] at HP hl ⊢
  clear h hi hz0 hz1 hz2 hn1 hn2 hn
  go_enter Try.func15, Try.ntmps15
  go_wp2_with fail
  go_loopw [3, 4] (fun o i wr => ∃ j k : Nat, j = 2 * k ∧ k ≤ n / 2 ∧ i = .int .i64 j ∧ Hid (SW wr w.heap.size o k (tP xs) (tB xs)) ∧ Hid (Below w.heap.size w wr)) (fun _ i _ => n + 2 - (intOf i).toNat)
  case atStart => exact ⟨0, 0, rfl, Nat.zero_le _, rfl, HO.out, Below.refl _ _⟩
  case round =>
    clear HO
    rename_i o _
    obtain ⟨j, k, hjk, hk, rfl, HO, HB⟩ := hrel
    obtain ⟨j1, hj1⟩ : ∃ j1 : Nat, (j : Int) + 1 = (j1 : Nat) := ⟨j + 1, rfl⟩
    obtain ⟨w1, w1'⟩ := wr3 hj1 (by omega)
    have HJ1 : Hid (j1 = j + 1) := by unfold Hid; omega
    by_cases hlt : j1 < n
    · have hd : decide ((j1 : Int) < n) = true := by simp; omega
      have hd' : decide (j1 < n) = true := by simp; omega
      obtain ⟨b1, off, rfl, c0⟩ := (HP.out.below HB.out).at (i := j) (by omega)
      obtain ⟨b1', off', e', c1⟩ := (HP.out.below HB.out).at (i := j1) hlt
      injection e' with e'
      injection e' with e1 e2 _
      subst e1; subst e2
      have hj0 : (0 : Int) ≤ j := by omega
      have hjI : (j : Int) < n := by omega
      have hj10 : (0 : Int) ≤ j1 := by omega
      have hj1I : (j1 : Int) < n := by omega
      have HF : Hid (tP xs k = xs.getD j1 0 ∧ tB xs k = xs.getD j 0) := by
        unfold Hid tP tB
        rw [show 2 * k + 1 = j1 by omega, ← hjk]
        exact ⟨rfl, rfl⟩
      have HK2 : Hid (j + 2 = 2 * (k + 1) ∧ k + 1 ≤ n / 2) := by unfold Hid; omega
      generalize xs.getD j 0 = x0 at *
      generalize xs.getD j1 0 = x1 at *
      obtain ⟨v', w1x, hrun, hown2, hb2⟩ := app_server (w := (wr.alloc (.cells #[.int .i64 x1, .int .i64 x0, .slice none 0 0] 36)).drew) (SW.drew (World.ownsRow.alloc HO.out _)) (g := wr.heap.size) (by rw [HF.out.1, HF.out.2]; exact heap_alloc_new wr _) (Nat.le_trans HB.out.size (by simp [World.drew])) (show k ≤ 1000 by omega) 22
      have HRUN := Lib.hid hrun
      have HO2 := Lib.hid hown2
      have HB2 : Hid (Below w.heap.size w w1x) := ((HB.out.alloc HB.out.size _).drew).trans hb2
      clear hrun hown2 hb2
      have hwj : IntKind.i64.wrap (j1 : Int) = j1 := IntWalk.i64_in _ (by omega)
      clear hlt hjk hk
      go_wp2_with fail
      go_region_law (refine step_append_eq rfl (.tmp 12) (.tmp 23) 22 rfl _ _ _ (by simp [Act.eval]) (by simp [Act.eval]) HRUN.out ?_)
      all_goals
        clear c0 c1 HRUN
        go_wp2_with fail
        go_roundw
        case rel => exact ⟨j + 2, k + 1, HK2.out.1, HK2.out.2, by go_num, HO2.out, HB2.out⟩
        case measure => simp [intOf]; omega
    · have hd : decide ((j1 : Int) < n) = false := by simp; omega
      have hd' : decide (j1 < n) = false := by simp; omega
      have HM : Hid (xs.length / 2 = k) := by have := HN.out; have := HJ1.out; unfold Hid; omega
      have HO3 := HO
      obtain ⟨a', c', rfl, _, _⟩ := HO.out.sv.slice
      have hwj2 : wrap64 (j1 : Int) = j1 := (wr3 rfl (by omega)).1
      clear hlt hjk hk
      go_wp2_with fail
      go_ret
      exact ⟨_, rfl, by rw [HM.out]; exact HO.out, HB.out⟩
end Go.Proofs.Ytlifkclgflfnlaa.Sh
