/- ConfKnown: its configurations, plainly, and what its appends leave. -/
import Derived.Test.YthbhkcofhhkcoaaConfZ
import Derived.Test.YthbhkcofhhkcoaaConfU
import Derived.Test.YthbhkcofhhkcoaaConfT
import Derived.Test.YthbhkcofhhkcoaaConfX
import Derived.Test.YthbhkcofhhkcoaaConfO
import Derived.Deep.RegionHeld3
namespace Go.Proofs.Ythbhkcofhhkcoaa
open Go.RowKit Pk Cn
set_option linter.unusedVariables false

def tF : Tk := ⟨64, 60, 30, 255, 30, 4, 15, 2⟩
def pF : Pt := ⟨64, 20, List.replicate 4 tF⟩
def oF (k : Nat) : Po := ⟨2, (k : Int).tmod 4, ((k : Int) + 1).tmod 4, 16, 4, 0⟩
def osF (k : Nat) : List Po := (List.range k).map oF
def full : Cf := ⟨List.replicate 4 pF, osF 8⟩
theorem osF_succ (k : Nat) : osF (k + 1) = osF k ++ [oF k] := by unfold osF; rw [List.range_succ, List.map_append]; rfl
theorem osF_len (k : Nat) : (osF k).length = k := by simp [osF]
theorem full_may : may full = true := by decide
theorem full_ck : ck full = 0 := by unfold ck; rw [full_may]; rfl
theorem full_size : CfgSize full := by
  refine ⟨by decide, by decide, fun i hi => ?_⟩
  have hi4 : i < 4 := hi
  match i, hi4 with
  | 0, _ => decide
  | 1, _ => decide
  | 2, _ => decide
  | 3, _ => decide
theorem TW.mono {w : World} {B C : Nat} {v : Value} {ts : List Tk} (h : TW w B v ts) (hC : C ≤ B) : TW w C v ts := by
  refine ⟨h.1, ?_⟩
  rcases h.2 with hn | ⟨g, cap, cur, rfl, hb, rest⟩
  · exact Or.inl hn
  · exact Or.inr ⟨g, cap, cur, rfl, by omega, rest⟩
theorem TW.below {w w' : World} {B : Nat} {v : Value} {ts : List Tk} (h : TW w B v ts) (b : Below w.heap.size w w') : TW w' B v ts := own_below h b
theorem PW.below {w w' : World} {B : Nat} {v : Value} {ps : List Pt} (h : PW w B v ps) (b : Below w.heap.size w w') : PW w' B v ps := by
  obtain ⟨l, h1, h2, h3⟩ := h
  exact ⟨l, h1, own_below h2 b, fun q hq => TW.below (h3 q hq) b⟩
theorem OW.below {w w' : World} {B : Nat} {v : Value} {os : List Po} (h : OW w B v os) (b : Below w.heap.size w w') : OW w' B v os := own_below h b
theorem tcs_snoc (ts : List Tk) (t : Tk) : tcs (ts ++ [t]) = tcs ts ++ t.row.map (Value.int .i64) := by simp [tcs]
theorem ocs_snoc (ts : List Po) (t : Po) : ocs (ts ++ [t]) = ocs ts ++ t.row.map (Value.int .i64) := by simp [ocs]
/-- a task, appended to a partition's, is stored into its third cell -/
theorem task_put {w w3 : World} {g n : Nat} {tv v' x y : Value} {ts : List Tk} {t : Tk} (hg : w.heap[g]? = some (.cells #[x, y, tv] 28 (0, 0))) (hl : ts.length = n)
    (htv : TW w (g + 1) tv ts) (hown : w3.ownsRow (g + 1) 30 8 v' (n + 1) (tcs ts ++ t.row.map (Value.int .i64))) (hgr : w.grownBy w3 tv.ownBlock) :
    TW (w3.setCell ⟨g, 2, none⟩ v') (g + 1) v' (ts ++ [t]) ∧ (w3.setCell ⟨g, 2, none⟩ v').heap[g]? = some (.cells #[x, y, v'] 28 (0, 0)) ∧
      Below g w (w3.setCell ⟨g, 2, none⟩ v') ∧ w3.frozen? ⟨g, 2, none⟩ = false ∧ w3.cell? ⟨g, 2, none⟩ = some tv := by
  have hlt := (Array.getElem?_eq_some_iff.1 hg).1
  have hne : some g ≠ tv.ownBlock := fun e => by have := (World.ownsRow.lt htv g e.symm).1; omega
  have hg3 := (hgr.block g hlt hne).trans hg
  refine ⟨?_, heap_set_same hg3, ?_, frozen_of_row w3 g 2 _ _ hg3, cell_of_row w3 g 2 _ _ _ hg3⟩
  · unfold TW
    rw [List.length_append, hl, tcs_snoc]
    exact World.ownsRow.kept hown set_grown (Or.inr (own_ne hown hg3 (by decide)))
  · refine ⟨hgr.os, hgr.tape, hgr.output, ?_, fun k hk => ?_⟩
    · have := hgr.size; simpa [World.setCell] using this
    · rw [heap_set_other (by omega)]
      exact hgr.block k (by omega) (fun e => by have := (World.ownsRow.lt htv k e.symm).1; omega)
/-- an append of a partition -/
theorem PW.row {w : World} {B : Nat} {v : Value} {ps : List Pt} (h : PW w B v ps) : ∃ xs, w.ownsRow B 28 3 v ps.length xs ∧ ∀ (o : Obj) (w3 : World) (v' tv : Value) (p : Pt), TW w B tv p.ts → (w.alloc o).grownBy w3 v.ownBlock →
    w3.ownsRow B 28 3 v' (ps.length + 1) (xs ++ [.int .i64 p.per, .int .i64 p.bud, tv]) → PW w3 B v' (ps ++ [p]) := by
  obtain ⟨L, rfl, hrow, hall⟩ := h
  refine ⟨L.flatMap pcs, by rw [List.length_map]; exact hrow, fun o w3 v' tv p ht hgr hown => ?_⟩
  rw [List.length_map] at hown
  refine ⟨L ++ [(p, tv)], by rw [List.map_append]; rfl, ?_, fun q hq => ?_⟩
  · rw [List.length_append, List.flatMap_append]
    simpa [pcs] using hown
  · have key : ∀ {u : Value} {ts : List Tk}, TW w B u ts → TW w3 B u ts := fun hu =>
      World.ownsRow.kept (World.ownsRow.alloc hu _) hgr (own_two (World.ownsRow.alloc hu o) (World.ownsRow.alloc hrow o) (by decide))
    rcases List.mem_append.1 hq with hq | hq
    · exact key (hall q hq)
    · rw [List.mem_singleton] at hq
      subst hq
      exact key ht
/-- an append of a port leaves the partitions -/
theorem PW.port {w w3 : World} {B n : Nat} {pv ov : Value} {ps : List Pt} {xs : List Value} {o : Obj} (h : PW w B pv ps) (hov : w.ownsRow B 32 6 ov n xs) (hgr : (w.alloc o).grownBy w3 ov.ownBlock) : PW w3 B pv ps := by
  obtain ⟨L, rfl, hrow, hall⟩ := h
  exact ⟨L, rfl, World.ownsRow.kept (World.ownsRow.alloc hrow _) hgr (own_two (World.ownsRow.alloc hrow o) (World.ownsRow.alloc hov o) (by decide)),
    fun q hq => World.ownsRow.kept (World.ownsRow.alloc (hall q hq) _) hgr (own_two (World.ownsRow.alloc (hall q hq) o) (World.ownsRow.alloc hov o) (by decide))⟩
theorem OW.set {w : World} {B b i : Nat} {v y : Value} {os : List Po} (h : OW w B v os) (hb : b < B) : OW (w.setCell ⟨b, i, none⟩ y) B v os :=
  World.ownsRow.kept h set_grown (by
    cases hv : v.ownBlock with
    | none => exact Or.inl rfl
    | some k => exact Or.inr fun e => by have := (World.ownsRow.lt h k hv).1; have := Option.some.inj e; omega)
/-- a configuration's block behind an append to one of its rows, and the store of it -/
theorem cfg_put {w w3 : World} {B C n e K : Nat} {o : Obj} {v x y : Value} {xs : List Value} (hC : w.heap[C]? = some (.cells #[x, y] 25 (0, 0))) (hB : C < B) (hv : w.ownsRow B e K v n xs) (hgr : (w.alloc o).grownBy w3 v.ownBlock) :
    w3.heap[C]? = some (.cells #[x, y] 25 (0, 0)) ∧ w3.frozen? ⟨C, 0, none⟩ = false ∧ w3.frozen? ⟨C, 1, none⟩ = false ∧ w3.cell? ⟨C, 0, none⟩ = some x ∧ w3.cell? ⟨C, 1, none⟩ = some y ∧ ∀ i u, Below C w (w3.setCell ⟨C, i, none⟩ u) := by
  have hlt := (Array.getElem?_eq_some_iff.1 hC).1
  have hne : ∀ k, k < B → some k ≠ v.ownBlock := fun k hk h => by have := (World.ownsRow.lt hv k h.symm).1; omega
  have h3 : w3.heap[C]? = some (.cells #[x, y] 25 (0, 0)) := ((hgr.block C (by simp; omega) (hne C hB)).trans (Below.heap_alloc w o C hlt)).trans hC
  refine ⟨h3, frozen_of_row w3 C 0 _ _ h3, frozen_of_row w3 C 1 _ _ h3, cell_of_row w3 C 0 _ _ _ h3, cell_of_row w3 C 1 _ _ _ h3, fun i u => ⟨hgr.os, hgr.tape, hgr.output, ?_, fun k hk => ?_⟩⟩
  · have := hgr.size; simp at this; show w.heap.size ≤ (w3.setCell ⟨C, i, none⟩ u).heap.size; simp [World.setCell]; omega
  · rw [heap_set_other (by omega), hgr.block k (by simp; omega) (hne k (by omega)), Below.heap_alloc w o k (by omega)]
end Go.Proofs.Ythbhkcofhhkcoaa
