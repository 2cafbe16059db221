/- Servers by turns; is that what Sum answers. -/
import Derived.Test.YtbdiekolkniajaaShaC
import Derived.Deep.RegionLawGrows
namespace Go.Proofs.Ytbdiekolkniajaa.Sh
open Go.RowKit Tk De Dl Go.Proofs.Ytbdiekolkniajaa.Lo
set_option linter.unusedVariables false

/-- an append whose run is known, as one step of a region that draws -/
theorem step_append_eq {P : Program} {ops : Array Oper} {o : Oper} {a : Act} {w w' : World} {K : Act → World → Prop} {Q : Exit → Act → World → Prop} {E : Prop}
    (hg : o.guard = none) (s x : Operand) (t : TypeId) (hop : o.op = Op.call { callee := Callee.builtin Builtin.append, args := #[s, x], argTypes := #[t, t] })
    (sv xv v' : Value) (hs : a.eval s = sv) (hx : a.eval x = xv) (hrun : (Builtin.append_ #[t, t] o.type #[sv, xv]).run P w = .ok v' w') (hK : K (a.put o.dst v') w') :
    if Region.wanted o (yielded ops a.tmps) = true then Oper.wp P o a w K Q else E := by
  have hw : Region.wanted o (yielded ops a.tmps) = true := by simp [Region.wanted, hg]
  rw [if_pos hw]
  unfold Oper.wp
  simp [execOp, hop, resolve, invoke, builtin, hs, hx, hrun, Result.andThen]
  exact hK
/-- a server more in a row of the call's own -/
theorem app_server {w : World} {C n : Nat} {v : Value} {P B : Nat → Int} (hown : SW w C v n P B) {g : Nat} (hg : w.heap[g]? = some (.cells #[.int .i64 (P n), .int .i64 (B n), .slice none 0 0] 43 (0, 0))) (hB : C ≤ w.heap.size) (hn : n ≤ 1000) (ty : TypeId) :
    ∃ v' w', (Builtin.append_ #[22, 22] ty #[v, .slice (some ⟨g, 0, none⟩) 1 1]).run Try.prog w = .ok v' w' ∧ SW w' C v' (n + 1) P B ∧ Below C w w' := by
  obtain ⟨i0, hi, hz0, hz1, hz2⟩ := info_parts infoPt
  obtain ⟨v', w', hrun, hown', hgr, _⟩ := run_append_own (P := Try.prog) (w := w) C 22 ty 43 i0 _ 3 40 Try.underlying22 hi hz0 hz1 hz2 rfl (by decide) v n _ hown ⟨g, 0, none⟩ 1 1 [.int .i64 (P n), .int .i64 (B n), .slice none 0 0] rfl
    (fun j u hj => by rw [Addr.add_lit, Nat.zero_add, cell_of_row _ _ j _ _ _ hg, List.getElem?_toArray]; exact hj) (sv_one _ _) (by unfold maxLen; omega) (by omega) hB
  exact ⟨v', w', hrun, hown', (Below.refl C w).grown hgr hB (fun k e => (hown.lt k e).1)⟩
def tP (xs : List Int) (i : Nat) : Int := xs.getD (2 * i + 1) 0
def tB (xs : List Int) (i : Nat) : Int := xs.getD (2 * i) 0
def TurnP (w : World) (xs : List Int) (e : Ending) (w' : World) : Prop := ∃ r, e = .returned r ∧ SW w' w.heap.size r (xs.length / 2) (tP xs) (tB xs) ∧ Below w.heap.size w w'
end Go.Proofs.Ytbdiekolkniajaa.Sh
