/- How a rank lies in memory, and how that is kept while other blocks are written. -/
import Derived.Test.YtkkmfpllgjoceaaGreatRows
import Derived.Test.YtkkmfpllgjoceaaGreatZp
import Derived.WalkKit
import Derived.WalkSpells
import Derived.WalkLawsBesides
import Derived.Lib.Hide
import Derived.Deep.QuietTactic
import Derived.BigQuiet
import Derived.Below
import Derived.OneCell
import Derived.Laws.OwnMore
import Derived.RegionTactic
import Derived.ChangeAlike
import Derived.Deep.RegionLawGrows
import Derived.BigRegion
import Derived.Deep.RegionHeld3
import Derived.Sort.Grow
import Derived.StillTailTactics
import Derived.Shelf.SlSortCmp.QuietGrown
import Derived.OwnWalk
import Derived.ArgAppend
import Derived.Deep.Upon
namespace Go.Proofs.YtkkmfpllgjoceaaGreat.Rq
open Go.RowKit Rk
set_option linter.unusedVariables false
set_option maxRecDepth 100000

/-- of what was there nothing has turned but blocks of S -/
structure Only (S : Nat → Prop) (w w' : World) : Prop where
  os : w'.os = w.os
  tape : w'.tape = w.tape
  output : w'.output = w.output
  size : w.heap.size ≤ w'.heap.size
  block : ∀ k, k < w.heap.size → ¬ S k → w'.heap[k]? = w.heap[k]?
theorem Only.refl (S : Nat → Prop) (w : World) : Only S w w := ⟨rfl, rfl, rfl, Nat.le_refl _, fun _ _ _ => rfl⟩
theorem Only.trans' {S T : Nat → Prop} {a b c : World} (h : Only S a b) (k : Only T b c) (hs : ∀ j, j < a.heap.size → T j → S j) : Only S a c :=
  ⟨k.os.trans h.os, k.tape.trans h.tape, k.output.trans h.output, Nat.le_trans h.size k.size, fun j hj hS => (k.block j (Nat.lt_of_lt_of_le hj h.size) (fun t => hS (hs j hj t))).trans (h.block j hj hS)⟩
theorem Only.trans {S : Nat → Prop} {a b c : World} (h : Only S a b) (k : Only S b c) : Only S a c := h.trans' k fun _ _ t => t
theorem Only.mono {S T : Nat → Prop} {a b : World} (h : Only S a b) (hs : ∀ j, j < a.heap.size → S j → T j) : Only T a b := (Only.refl T a).trans' h hs
theorem Only.drew {S : Nat → Prop} {a b : World} (h : Only S a b) : Only S a b.drew := ⟨h.os, h.tape, h.output, h.size, h.block⟩
theorem Only.drewN {S : Nat → Prop} {a b : World} (h : Only S a b) (n : Nat) : Only S a (b.drewN n) := ⟨h.os, h.tape, h.output, h.size, h.block⟩
theorem Only.alloc {S : Nat → Prop} {a b : World} (h : Only S a b) (o : Obj) : Only S a (b.alloc o) :=
  h.trans ⟨rfl, rfl, rfl, by simp, fun k hk _ => Below.heap_alloc _ _ _ hk⟩
theorem Only.setCell {S : Nat → Prop} {a b : World} (h : Only S a b) {p : Addr} (hp : S p.block ∨ a.heap.size ≤ p.block) (u : Value) : Only S a (b.setCell p u) :=
  ⟨h.os, h.tape, h.output, by have := h.size; simpa [World.setCell] using this, fun k hk hS => by
    rw [Below.heap_setCell _ _ _ _ (by rintro rfl; rcases hp with h1 | h1; · exact hS h1
                                       · omega)]
    exact h.block k hk hS⟩
theorem Only.below {S : Nat → Prop} {a b : World} {B : Nat} (h : Only S a b) (hB : B ≤ a.heap.size) (hS : ∀ k, k < a.heap.size → S k → B ≤ k) : Below B a b :=
  ⟨h.os, h.tape, h.output, h.size, fun k hk => h.block k (by omega) (fun t => by have := hS k (by omega) t; omega)⟩
theorem Only.of_below {S : Nat → Prop} {a b : World} (h : Below a.heap.size a b) : Only S a b := ⟨h.os, h.tape, h.output, h.size, fun k hk _ => h.block k hk⟩
theorem Only.cell {S : Nat → Prop} {a b : World} (h : Only S a b) {p : Addr} (hp : p.block < a.heap.size) (hS : ¬ S p.block) : b.cell? p = a.cell? p := World.cell?_of_block (h.block _ hp hS)
theorem Only.frozen {S : Nat → Prop} {a b : World} (h : Only S a b) {p : Addr} (hp : p.block < a.heap.size) (hS : ¬ S p.block) : b.frozen? p = a.frozen? p := World.frozen?_of_block (h.block _ hp hS)

theorem heap_set_same {w : World} {b i : Nat} {c : Array Value} {t : TypeId} {v : Value} (h : w.heap[b]? = some (.cells c t (0, 0))) : (w.setCell ⟨b, i, none⟩ v).heap[b]? = some (.cells (c.setIfInBounds i v) t (0, 0)) := heap_setCell_same w b i c t v h
theorem heap_set_other {w : World} {b b' i : Nat} {v : Value} (h : b' ≠ b) : (w.setCell ⟨b, i, none⟩ v).heap[b']? = w.heap[b']? := Below.heap_setCell _ _ _ _ h
theorem lt_of_heap {w : World} {b : Nat} {o : Obj} (h : w.heap[b]? = some o) : b < w.heap.size := lt_of_block h

/-- the block of what is heaped: a slice, and the places -/
def PL (w : World) (hb : Nat) (v : Value) (pl : Int → Int) : Prop :=
  ∃ c, w.heap[hb]? = some (.cells c 190 (0, 0)) ∧ c.size = 65 ∧ c[0]? = some v ∧ ∀ i, i < 64 → c[1 + i]? = some (.int .i64 (pl (i : Nat)))
/-- the block of the entries -/
def EN (w : World) (g cap n : Nat) (f : Nat → En) : Prop :=
  ∃ c, w.heap[g]? = some (.cells c 196 (0, 0)) ∧ c.size = cap * 2 ∧ ∀ i, i < n → c[i * 2]? = some (.int .i64 (f i).1) ∧ c[i * 2 + 1]? = some (.int .i64 (f i).2)

theorem PL.lt {w : World} {hb : Nat} {v : Value} {pl : Int → Int} (h : PL w hb v pl) : hb < w.heap.size := by obtain ⟨c, h1, _⟩ := h; exact lt_of_heap h1
theorem EN.lt {w : World} {g cap n : Nat} {f : Nat → En} (h : EN w g cap n f) : g < w.heap.size := by obtain ⟨c, h1, _⟩ := h; exact lt_of_heap h1
theorem PL.keep {w w' : World} {hb : Nat} {v : Value} {pl : Int → Int} (h : PL w hb v pl) (e : w'.heap[hb]? = w.heap[hb]?) : PL w' hb v pl := by
  obtain ⟨c, h1, h2⟩ := h; exact ⟨c, e.trans h1, h2⟩
theorem EN.keep {w w' : World} {g cap n : Nat} {f : Nat → En} (h : EN w g cap n f) (e : w'.heap[g]? = w.heap[g]?) : EN w' g cap n f := by
  obtain ⟨c, h1, h2⟩ := h; exact ⟨c, e.trans h1, h2⟩
theorem PL.cell0 {w : World} {hb : Nat} {v : Value} {pl : Int → Int} (h : PL w hb v pl) : w.cell? ⟨hb, 0, none⟩ = some v := by
  obtain ⟨c, h1, h2, h3, _⟩ := h; rw [cell_of_row w hb 0 c 190 _ h1]; exact h3
theorem PL.cell {w : World} {hb : Nat} {v : Value} {pl : Int → Int} (h : PL w hb v pl) {i : Nat} (hi : i < 64) : w.cell? ⟨hb, 1 + i, none⟩ = some (.int .i64 (pl (i : Nat))) := by
  obtain ⟨c, h1, h2, _, h3⟩ := h; rw [cell_of_row w hb (1 + i) c 190 _ h1]; exact h3 i hi
theorem PL.free {w : World} {hb : Nat} {v : Value} {pl : Int → Int} (h : PL w hb v pl) (o : Nat) : w.frozen? ⟨hb, o, none⟩ = false := by
  obtain ⟨c, h1, _⟩ := h; exact frozen_of_row w hb o c 190 h1
theorem EN.cell1 {w : World} {g cap n : Nat} {f : Nat → En} (h : EN w g cap n f) {i : Nat} (hi : i < n) : w.cell? ⟨g, i * 2, none⟩ = some (.int .i64 (f i).1) := by
  obtain ⟨c, h1, _, h3⟩ := h; rw [cell_of_row w g (i * 2) c 196 _ h1]; exact (h3 i hi).1
theorem EN.cell2 {w : World} {g cap n : Nat} {f : Nat → En} (h : EN w g cap n f) {i : Nat} (hi : i < n) : w.cell? ⟨g, i * 2 + 1, none⟩ = some (.int .i64 (f i).2) := by
  obtain ⟨c, h1, _, h3⟩ := h; rw [cell_of_row w g (i * 2 + 1) c 196 _ h1]; exact (h3 i hi).2
theorem EN.free {w : World} {g cap n : Nat} {f : Nat → En} (h : EN w g cap n f) (o : Nat) : w.frozen? ⟨g, o, none⟩ = false := by
  obtain ⟨c, h1, _⟩ := h; exact frozen_of_row w g o c 196 h1
theorem PL.alloc {w : World} {hb : Nat} {v : Value} {pl : Int → Int} (h : PL w hb v pl) (o : Obj) : PL (w.alloc o) hb v pl := h.keep (Below.heap_alloc _ _ _ h.lt)
theorem EN.alloc {w : World} {g cap n : Nat} {f : Nat → En} (h : EN w g cap n f) (o : Obj) : EN (w.alloc o) g cap n f := h.keep (Below.heap_alloc _ _ _ h.lt)
theorem PL.other {w : World} {hb : Nat} {v : Value} {pl : Int → Int} (h : PL w hb v pl) {b i : Nat} (hb' : hb ≠ b) (u : Value) : PL (w.setCell ⟨b, i, none⟩ u) hb v pl := h.keep (heap_set_other hb')
theorem EN.other {w : World} {g cap n : Nat} {f : Nat → En} (h : EN w g cap n f) {b i : Nat} (hb' : g ≠ b) (u : Value) : EN (w.setCell ⟨b, i, none⟩ u) g cap n f := h.keep (heap_set_other hb')
theorem PL.set0 {w : World} {hb : Nat} {v : Value} {pl : Int → Int} (h : PL w hb v pl) (u : Value) : PL (w.setCell ⟨hb, 0, none⟩ u) hb u pl := by
  obtain ⟨c, h1, h2, h3, h4⟩ := h
  refine ⟨_, heap_set_same h1, by simpa using h2, ?_, fun i hi => ?_⟩
  · rw [Array.getElem?_setIfInBounds_self_of_lt (by omega)]
  · rw [Array.getElem?_setIfInBounds_ne (by omega)]; exact h4 i hi
theorem PL.setp {w : World} {hb : Nat} {v : Value} {pl : Int → Int} (h : PL w hb v pl) {i : Nat} (hi : i < 64) (x : Int) : PL (w.setCell ⟨hb, 1 + i, none⟩ (.int .i64 x)) hb v (updp pl (i : Nat) x) := by
  obtain ⟨c, h1, h2, h3, h4⟩ := h
  refine ⟨_, heap_set_same h1, by simpa using h2, ?_, fun j hj => ?_⟩
  · rw [Array.getElem?_setIfInBounds_ne (by omega)]; exact h3
  · by_cases e : j = i
    · subst e; rw [Array.getElem?_setIfInBounds_self_of_lt (by omega), updp_same]
    · rw [Array.getElem?_setIfInBounds_ne (by omega), updp_other (by omega)]; exact h4 j hj
theorem EN.set {w : World} {g cap n : Nat} {f : Nat → En} (h : EN w g cap n f) (hn : n ≤ cap) {p : Nat} (hp : p < n) (x : En) :
    EN ((w.setCell ⟨g, p * 2, none⟩ (.int .i64 x.1)).setCell ⟨g, p * 2 + 1, none⟩ (.int .i64 x.2)) g cap n (up f p x) := by
  obtain ⟨c, h1, h2, h3⟩ := h
  refine ⟨_, heap_set_same (heap_set_same h1), by simpa using h2, fun i hi => ?_⟩
  have hb : p * 2 + 1 < c.size := by omega
  by_cases e : i = p
  · subst e
    rw [up_same, Array.getElem?_setIfInBounds_ne (by omega), Array.getElem?_setIfInBounds_self_of_lt (by omega), Array.getElem?_setIfInBounds_self_of_lt (by simp; omega)]
    exact ⟨rfl, rfl⟩
  · rw [up_other e, Array.getElem?_setIfInBounds_ne (by omega), Array.getElem?_setIfInBounds_ne (by omega), Array.getElem?_setIfInBounds_ne (by omega), Array.getElem?_setIfInBounds_ne (by omega)]
    exact h3 i hi
theorem EN.setk {w : World} {g cap n : Nat} {f : Nat → En} (h : EN w g cap n f) (hn : n ≤ cap) {p : Nat} (hp : p < n) (k : Int) :
    EN (w.setCell ⟨g, p * 2 + 1, none⟩ (.int .i64 k)) g cap n (up f p ((f p).1, k)) := by
  obtain ⟨c, h1, h2, h3⟩ := h
  refine ⟨_, heap_set_same h1, by simpa using h2, fun i hi => ?_⟩
  have hb : p * 2 + 1 < c.size := by omega
  by_cases e : i = p
  · subst e
    rw [up_same, Array.getElem?_setIfInBounds_ne (by omega), Array.getElem?_setIfInBounds_self_of_lt (by omega)]
    exact ⟨(h3 i hi).1, rfl⟩
  · rw [up_other e, Array.getElem?_setIfInBounds_ne (by omega), Array.getElem?_setIfInBounds_ne (by omega)]
    exact h3 i hi
theorem EN.less {w : World} {g cap n : Nat} {f : Nat → En} (h : EN w g cap n f) {m : Nat} (hm : m ≤ n) : EN w g cap m f := by
  obtain ⟨c, h1, h2, h3⟩ := h; exact ⟨c, h1, h2, fun i hi => h3 i (by omega)⟩

/-- what is heaped, with its entries -/
structure HM (w : World) (hb g cap n : Nat) (f : Nat → En) (pl : Int → Int) : Prop where
  ne : hb ≠ g
  le : n ≤ cap
  max : cap ≤ maxLen
  P : PL w hb (.slice (some ⟨g, 0, none⟩) n cap) pl
  E : EN w g cap n f
/-- the blocks of what is heaped -/
def Two (hb g : Nat) (k : Nat) : Prop := k = hb ∨ k = g
theorem HM.keep {w w' : World} {hb g cap n : Nat} {f : Nat → En} {pl : Int → Int} (h : HM w hb g cap n f pl) (e1 : w'.heap[hb]? = w.heap[hb]?) (e2 : w'.heap[g]? = w.heap[g]?) : HM w' hb g cap n f pl :=
  ⟨h.ne, h.le, h.max, h.P.keep e1, h.E.keep e2⟩
theorem HM.only {S : Nat → Prop} {w w' : World} {hb g cap n : Nat} {f : Nat → En} {pl : Int → Int} (h : HM w hb g cap n f pl) (o : Only S w w') (h1 : ¬ S hb) (h2 : ¬ S g) : HM w' hb g cap n f pl :=
  h.keep (o.block _ h.P.lt h1) (o.block _ h.E.lt h2)
theorem HM.below {w w' : World} {hb g cap n : Nat} {f : Nat → En} {pl : Int → Int} (h : HM w hb g cap n f pl) (b : Below w.heap.size w w') : HM w' hb g cap n f pl :=
  h.keep (b.block _ h.P.lt) (b.block _ h.E.lt)

theorem PL.drew {w : World} {hb : Nat} {v : Value} {pl : Int → Int} (h : PL w hb v pl) : PL w.drew hb v pl := h
theorem EN.drew {w : World} {g cap n : Nat} {f : Nat → En} (h : EN w g cap n f) : EN w.drew g cap n f := h
theorem HM.drew {w : World} {hb g cap n : Nat} {f : Nat → En} {pl : Int → Int} (h : HM w hb g cap n f pl) : HM w.drew hb g cap n f pl := h.keep rfl rfl
theorem HM.alloc {w : World} {hb g cap n : Nat} {f : Nat → En} {pl : Int → Int} (h : HM w hb g cap n f pl) (o : Obj) : HM (w.alloc o) hb g cap n f pl := ⟨h.ne, h.le, h.max, h.P.alloc o, h.E.alloc o⟩
theorem HM.set {w : World} {hb g cap n : Nat} {f : Nat → En} {pl : Int → Int} (h : HM w hb g cap n f pl) {p : Nat} (hp : p < n) (x : En) :
    HM ((w.setCell ⟨g, p * 2, none⟩ (.int .i64 x.1)).setCell ⟨g, p * 2 + 1, none⟩ (.int .i64 x.2)) hb g cap n (up f p x) pl := ⟨h.ne, h.le, h.max, (h.P.other h.ne _).other h.ne _, h.E.set h.le hp x⟩
theorem HM.setk {w : World} {hb g cap n : Nat} {f : Nat → En} {pl : Int → Int} (h : HM w hb g cap n f pl) {p : Nat} (hp : p < n) (k : Int) :
    HM (w.setCell ⟨g, p * 2 + 1, none⟩ (.int .i64 k)) hb g cap n (up f p ((f p).1, k)) pl := ⟨h.ne, h.le, h.max, h.P.other h.ne _, h.E.setk h.le hp k⟩
theorem HM.setp {w : World} {hb g cap n : Nat} {f : Nat → En} {pl : Int → Int} (h : HM w hb g cap n f pl) {i : Nat} (hi : i < 64) (x : Int) :
    HM (w.setCell ⟨hb, 1 + i, none⟩ (.int .i64 x)) hb g cap n f (updp pl i x) := ⟨h.ne, h.le, h.max, h.P.setp hi x, h.E.other (Ne.symm h.ne) _⟩

theorem keep_made {S : Nat → Prop} {w w1 : World} {x y x' y' : Value} {t t' : TypeId} (h : Only S ((w.alloc (.cells #[x, y] t)).alloc (.cells #[x', y'] t')).drew w1) (hS : ¬ S w.heap.size) (hS' : ¬ S (w.heap.size + 1)) :
    (w1.cell? ⟨w.heap.size, 0, none⟩ = some x ∧ w1.cell? ⟨w.heap.size, 1, none⟩ = some y) ∧ w1.cell? ⟨w.heap.size + 1, 0, none⟩ = some x' ∧ w1.cell? ⟨w.heap.size + 1, 1, none⟩ = some y' := by
  have e : w1.heap[w.heap.size]? = some (.cells #[x, y] t (0, 0)) := (h.block w.heap.size (by show _ < ((w.alloc _).alloc _).heap.size; simp; omega) hS).trans (heap_alloc2_old w _ _)
  have e' : w1.heap[w.heap.size + 1]? = some (.cells #[x', y'] t' (0, 0)) := (h.block (w.heap.size + 1) (by show _ < ((w.alloc _).alloc _).heap.size; simp) hS').trans (heap_alloc2_new w _ _)
  refine ⟨⟨?_, ?_⟩, ?_, ?_⟩
  · rw [cell_of_row _ _ _ _ _ _ e]; rfl
  · rw [cell_of_row _ _ _ _ _ _ e]; rfl
  · rw [cell_of_row _ _ _ _ _ _ e']; rfl
  · rw [cell_of_row _ _ _ _ _ _ e']; rfl

end Go.Proofs.YtkkmfpllgjoceaaGreat.Rq

namespace Go.Proofs.YtkkmfpllgjoceaaGreat.Rq
open Go.RowKit Rk
set_option linter.unusedVariables false
set_option maxRecDepth 100000

/-- an append whose run is known, as one step of a region that draws -/
theorem step_append_eq {P : Program} {ops : Array Oper} {o : Oper} {a : Act} {w w' : World} {K : Act → World → Prop} {Q : Exit → Act → World → Prop} {E : Prop}
    (hg : o.guard = none) (s x : Operand) (t : TypeId) (hop : o.op = Op.call { callee := Callee.builtin Builtin.append, args := #[s, x], argTypes := #[t, t] })
    (sv xv v' : Value) (hs : a.eval s = sv) (hx : a.eval x = xv) (hrun : (Builtin.append_ #[t, t] o.type #[sv, xv]).run P w = .ok v' w') (hK : K (a.put o.dst v') w') :
    if Region.wanted o (yielded ops a.tmps) = true then Oper.wp P o a w K Q else E := by
  have hw : Region.wanted o (yielded ops a.tmps) = true := by simp [Region.wanted, hg]
  rw [if_pos hw]
  unfold Oper.wp
  simp [execOp, hop, resolve, invoke, builtin, hs, hx, hrun, Result.andThen]
  exact hK

theorem info59 : (Tryz.prog.info? 196).map (fun i => (i.zero, i.size, i.bytes)) = some (some (.agg #[.int .i64 0, .int .i64 0]), 2, 16) := by kernel_rfl

/-- what is heaped: with entries, or with none so far -/
def HN (w : World) (hb g n : Nat) (f : Nat → En) (pl : Int → Int) (v : Value) : Prop :=
  (∃ cap, v = .slice (some ⟨g, 0, none⟩) n cap ∧ HM w hb g cap n f pl) ∨ (n = 0 ∧ g = hb ∧ v = .slice none 0 0 ∧ PL w hb (.slice none 0 0) pl)
theorem HN.P {w : World} {hb g n : Nat} {f : Nat → En} {pl : Int → Int} {v : Value} (h : HN w hb g n f pl v) : PL w hb v pl := by
  rcases h with ⟨cap, rfl, h⟩ | ⟨_, _, rfl, h⟩
  · exact h.P
  · exact h
theorem HN.keep {w w' : World} {hb g n : Nat} {f : Nat → En} {pl : Int → Int} {v : Value} (h : HN w hb g n f pl v) (e1 : w'.heap[hb]? = w.heap[hb]?) (e2 : w'.heap[g]? = w.heap[g]?) : HN w' hb g n f pl v := by
  rcases h with ⟨cap, hv, h⟩ | ⟨h1, h2, hv, h⟩
  · exact Or.inl ⟨cap, hv, h.keep e1 e2⟩
  · exact Or.inr ⟨h1, h2, hv, h.keep e1⟩
theorem HN.ltg {w : World} {hb g n : Nat} {f : Nat → En} {pl : Int → Int} {v : Value} (h : HN w hb g n f pl v) : g < w.heap.size := by
  rcases h with ⟨cap, hv, h⟩ | ⟨h1, h2, hv, h⟩
  · exact h.E.lt
  · rw [h2]; exact h.lt
theorem HN.only {S : Nat → Prop} {w w' : World} {hb g n : Nat} {f : Nat → En} {pl : Int → Int} {v : Value} (h : HN w hb g n f pl v) (o : Only S w w') (h1 : ¬ S hb) (h2 : ¬ S g) : HN w' hb g n f pl v :=
  h.keep (o.block _ h.P.lt h1) (o.block _ h.ltg h2)
theorem HN.below {w w' : World} {hb g n : Nat} {f : Nat → En} {pl : Int → Int} {v : Value} (h : HN w hb g n f pl v) (b : Below w.heap.size w w') : HN w' hb g n f pl v :=
  h.keep (b.block _ h.P.lt) (b.block _ h.ltg)
theorem HN.slice {w : World} {hb g n : Nat} {f : Nat → En} {pl : Int → Int} {v : Value} (h : HN w hb g n f pl v) : ∃ a cap, v = .slice a n cap := by
  rcases h with ⟨cap, rfl, h⟩ | ⟨rfl, h2, rfl, h⟩
  · exact ⟨_, _, rfl⟩
  · exact ⟨_, _, rfl⟩

theorem getE {xs : List Value} {n : Nat} {f : Nat → En} {x : En} (hl : xs.length = n * 2) (hf : ∀ i, i < n → xs[i * 2]? = some (.int .i64 (f i).1) ∧ xs[i * 2 + 1]? = some (.int .i64 (f i).2)) (i : Nat) (hi : i < n + 1) :
    (xs ++ [.int .i64 x.1, .int .i64 x.2])[i * 2]? = some (.int .i64 (up f n x i).1) ∧ (xs ++ [.int .i64 x.1, .int .i64 x.2])[i * 2 + 1]? = some (.int .i64 (up f n x i).2) := by
  by_cases e : i = n
  · subst e
    rw [up_same, List.getElem?_append_right (by omega), List.getElem?_append_right (by omega), hl]
    have e1 : i * 2 - i * 2 = 0 := by omega
    have e2 : i * 2 + 1 - i * 2 = 1 := by omega
    rw [e1, e2]
    exact ⟨rfl, rfl⟩
  · rw [up_other e, List.getElem?_append_left (by omega), List.getElem?_append_left (by omega)]
    exact hf i (by omega)
theorem en_of_own {w : World} {B g cap n : Nat} {ys : List Value} {f : Nat → En} (h : w.ownsRow B 196 2 (.slice (some ⟨g, 0, none⟩) n cap) n ys)
    (hf : ∀ i, i < n → ys[i * 2]? = some (.int .i64 (f i).1) ∧ ys[i * 2 + 1]? = some (.int .i64 (f i).2)) : EN w g cap n f ∧ n ≤ cap ∧ cap ≤ maxLen ∧ B ≤ g := by
  rcases h.2 with ⟨h', _⟩ | ⟨g', cap', cur, h', hb, hg, hnc, hcm, hcs, htake⟩
  · simp at h'
  · simp only [Value.slice.injEq, Option.some.injEq, Addr.mk.injEq, and_true, true_and] at h'
    obtain ⟨rfl, rfl⟩ := h'
    refine ⟨⟨cur, hg, hcs, fun i hi => ?_⟩, hnc, hcm, hb⟩
    have h1 := hf i hi
    rw [← htake, List.getElem?_take, List.getElem?_take, if_pos (by omega), if_pos (by omega)] at h1
    simpa using h1
theorem own_of_hm {w : World} {hb g cap n : Nat} {f : Nat → En} {pl : Int → Int} (h : HM w hb g cap n f pl) : ∃ xs, w.ownsRow 0 196 2 (.slice (some ⟨g, 0, none⟩) n cap) n xs ∧ xs.length = n * 2 ∧
    (∀ i, i < n → xs[i * 2]? = some (.int .i64 (f i).1) ∧ xs[i * 2 + 1]? = some (.int .i64 (f i).2)) ∧ ∀ j u, xs[j]? = some u → w.cell? ⟨g, j, none⟩ = some u := by
  obtain ⟨c, h1, h2, h3⟩ := h.E
  have hl : (c.toList.take (n * 2)).length = n * 2 := by rw [List.length_take, Array.length_toList]; have := h.le; omega
  refine ⟨c.toList.take (n * 2), ⟨hl, Or.inr ⟨g, cap, c, rfl, Nat.zero_le _, h1, h.le, h.max, h2, rfl⟩⟩, hl, fun i hi => ?_, fun j u hj => ?_⟩
  · rw [List.getElem?_take, List.getElem?_take, if_pos (by omega), if_pos (by omega)]
    simpa using h3 i hi
  · rw [List.getElem?_take] at hj
    split at hj
    · rw [cell_of_row w g j c 196 _ h1]; simpa using hj
    · cases hj

/-- an entry appended -/
theorem push_mem {w : World} {hb g n : Nat} {f : Nat → En} {pl : Int → Int} {v : Value} (h : HN w hb g n f pl v) (x : En) (ty : TypeId) (a : Addr) (h0 : w.cell? (a.add 0) = some (.int .i64 x.1)) (h1 : w.cell? (a.add 1) = some (.int .i64 x.2)) (hN : n ≤ 1000000) :
    ∃ g' cap' w', (Builtin.append_ #[187, 187] ty #[v, .slice (some a) 1 1]).run Tryz.prog w = .ok (.slice (some ⟨g', 0, none⟩) (n + 1) cap') w' ∧ EN w' g' cap' (n + 1) (up f n x) ∧ n + 1 ≤ cap' ∧ cap' ≤ maxLen ∧
      ((g' = g ∧ g ≠ hb) ∨ w.heap.size ≤ g') ∧ Only (fun k => k = g ∧ g ≠ hb) w w' := by
  obtain ⟨i0, hi, hz0, hz1, hz2⟩ := info_parts info59
  have hnews : ∀ j u, [Value.int .i64 x.1, .int .i64 x.2][j]? = some u → w.cell? (a.add j) = some u := by
    intro j u hj
    match j, hj with
    | 0, hj => simp only [List.getElem?_cons_zero, Option.some.injEq] at hj; rw [← hj]; exact h0
    | 1, hj => simp only [List.getElem?_cons_succ, List.getElem?_cons_zero, Option.some.injEq] at hj; rw [← hj]; exact h1
    | j + 2, hj => simp at hj
  have hone : ∀ u ∈ [Value.int .i64 x.1, .int .i64 x.2], u.oneCell' = true := by
    intro u hu
    simp only [List.mem_cons, List.not_mem_nil, or_false] at hu
    rcases hu with rfl | rfl <;> rfl
  have form : ∀ {B : Nat} {v' : Value} {w' : World} {ys : List Value}, w'.ownsRow B 196 2 v' (n + 1) ys → ∃ g' cap', v' = .slice (some ⟨g', 0, none⟩) (n + 1) cap' := by
    intro B v' w' ys ho
    rcases ho.2 with ⟨_, h'⟩ | ⟨g', cap', cur, h', _⟩
    · omega
    · exact ⟨g', cap', h'⟩
  rcases h with ⟨cap, rfl, hm⟩ | ⟨rfl, rfl, rfl, hp⟩
  · obtain ⟨xs, hown, hl, hxs, hcl⟩ := own_of_hm hm
    by_cases hroom : n + 1 ≤ cap
    · obtain ⟨w', hrun, ho, hgr⟩ := run_append_fits (P := Tryz.prog) w 0 187 ty 196 i0 2 Tryz.underlying187 hi hz1 g n cap xs hown a 1 1 _ rfl hnews hone hroom
      obtain ⟨e1, e2, e3, _⟩ := en_of_own ho (fun i hi => getE hl hxs i hi)
      exact ⟨g, cap, w', hrun, e1, e2, e3, Or.inl ⟨rfl, Ne.symm hm.ne⟩, ⟨hgr.os, hgr.tape, hgr.output, hgr.size, fun k hk hS => hgr.block k hk (fun e => hS ⟨by simpa using e, Ne.symm hm.ne⟩)⟩⟩
    · obtain ⟨v', w', hrun, ho, hgr⟩ := run_append_arg_grows (P := Tryz.prog) w 187 ty 196 i0 _ 2 16 Tryz.underlying187 hi hz0 hz1 hz2 rfl (by decide) ⟨g, 0, none⟩ n cap xs hl (fun j u hj => by rw [Addr.add_lit, Nat.zero_add]; exact hcl j u hj) a 1 1 _ rfl hnews (by omega) (by unfold maxLen; omega) (by omega)
      obtain ⟨g', cap', rfl⟩ := form ho
      obtain ⟨e1, e2, e3, e4⟩ := en_of_own ho (fun i hi => getE hl hxs i hi)
      exact ⟨g', cap', w', hrun, e1, e2, e3, Or.inr e4, ⟨hgr.os, hgr.tape, hgr.output, hgr.size, fun k hk hS => hgr.block k hk (fun e => by cases e)⟩⟩
  · obtain ⟨v', w', hrun, ho, hgr, _⟩ := run_append_own (P := Tryz.prog) w w.heap.size 187 ty 196 i0 _ 2 16 Tryz.underlying187 hi hz0 hz1 hz2 rfl (by decide) (.slice none 0 0) 0 [] (World.ownsRow_nil w _ 196 2) a 1 1 _ rfl hnews hone (by unfold maxLen; omega) (by omega) (Nat.le_refl _)
    obtain ⟨g', cap', rfl⟩ := form ho
    obtain ⟨e1, e2, e3, e4⟩ := en_of_own ho (fun i hi => getE (xs := []) (n := 0) rfl (fun i hi => by omega) i hi)
    exact ⟨g', cap', w', hrun, e1, e2, e3, Or.inr e4, ⟨hgr.os, hgr.tape, hgr.output, hgr.size, fun k hk hS => hgr.block k hk (fun e => by cases e)⟩⟩

theorem HN.alloc {w : World} {hb g n : Nat} {f : Nat → En} {pl : Int → Int} {v : Value} (h : HN w hb g n f pl v) (o : Obj) : HN (w.alloc o) hb g n f pl v := h.keep (Below.heap_alloc _ _ _ h.P.lt) (Below.heap_alloc _ _ _ h.ltg)
theorem HN.drew {w : World} {hb g n : Nat} {f : Nat → En} {pl : Int → Int} {v : Value} (h : HN w hb g n f pl v) : HN w.drew hb g n f pl v := h.keep rfl rfl
theorem made_cells {w : World} {x y : Value} {t : TypeId} {o : Obj} : (((w.alloc o).alloc (.cells #[x, y] t)).drew.cell? ⟨w.heap.size + 1, 0, none⟩ = some x) ∧ ((w.alloc o).alloc (.cells #[x, y] t)).drew.cell? ⟨w.heap.size + 1, 1, none⟩ = some y :=
  ⟨(cell_of_row _ _ _ _ _ _ (heap_alloc2_new w o (.cells #[x, y] t))).trans rfl, (cell_of_row _ _ _ _ _ _ (heap_alloc2_new w o (.cells #[x, y] t))).trans rfl⟩
theorem made_cells0 {w : World} {x y : Value} {t : TypeId} {o : Obj} : (((w.alloc (.cells #[x, y] t)).alloc o).drew.cell? ⟨w.heap.size, 0, none⟩ = some x) ∧ ((w.alloc (.cells #[x, y] t)).alloc o).drew.cell? ⟨w.heap.size, 1, none⟩ = some y :=
  ⟨(cell_of_row _ _ _ _ _ _ (heap_alloc2_old w (.cells #[x, y] t) o)).trans rfl, (cell_of_row _ _ _ _ _ _ (heap_alloc2_old w (.cells #[x, y] t) o)).trans rfl⟩
theorem up_up (f : Nat → En) (a : Nat) (x : En) : up (up f a x) a x = up f a x := by funext i; unfold up; split <;> rfl

end Go.Proofs.YtkkmfpllgjoceaaGreat.Rq

namespace Go.Proofs.YtkkmfpllgjoceaaGreat.Rq
open Go.RowKit Rk
set_option linter.unusedVariables false
set_option maxRecDepth 100000

def IsB (b : Bool) (w : World) (e : Ending) (w' : World) : Prop := e = .returned (.bool b) ∧ w = w'
theorem mayBe_yes (i : Nat) (w : World) (h : i < 64) : Calls Tryz.prog 192 #[.int .i64 i] w (IsB true w) := by
  have h1 : decide ((i : Int) < 64) = true := by simp; omega
  go_enter Tryz.func192, Tryz.ntmps192
  go_wp2
  go_ret
  exact ⟨rfl, rfl⟩
theorem mayBe_lo (i : Int) (w : World) (h : i < 0) : Calls Tryz.prog 192 #[.int .i64 i] w (IsB false w) := by
  have h1 : decide (0 ≤ i) = false := by simp; omega
  go_enter Tryz.func192, Tryz.ntmps192
  go_wp2
  go_ret
  exact ⟨rfl, rfl⟩
theorem mayBe_hi (i : Int) (w : World) (h : 64 ≤ i) : Calls Tryz.prog 192 #[.int .i64 i] w (IsB false w) := by
  have h1 : decide (i < 64) = false := by simp; omega
  go_enter Tryz.func192, Tryz.ntmps192
  go_wp2
  go_ret
  exact ⟨rfl, rfl⟩

def Plc (r : Int) (b : Bool) (w : World) (e : Ending) (w' : World) : Prop := e = .returned (.tuple #[.int .i64 r, .bool b]) ∧ w = w'
set_option maxHeartbeats 400000 in
theorem place_no (hb : Nat) (v : Value) (pl : Int → Int) (i : Nat) (w : World) (h : PL w hb v pl) (hi : i < 64) (hz : pl (i : Nat) = 0) : Calls Tryz.prog 189 #[.pointer (some ⟨hb, 0, none⟩), .int .i64 i] w (Plc 0 false w) := by
  have hc := h.cell hi
  rw [hz] at hc
  clear h hz
  go_enter Tryz.func189, Tryz.ntmps189
  go_wp2_with (go_at_call 192; refine (mayBe_yes _ _ hi).mono ?_; rintro e w' ⟨rfl, rfl⟩)
  go_ret2
  exact ⟨rfl, rfl⟩
set_option maxHeartbeats 400000 in
theorem place_yes (hb : Nat) (v : Value) (pl : Int → Int) (i p : Nat) (w : World) (h : PL w hb v pl) (hi : i < 64) (hz : pl (i : Nat) = p + 1) (hp : p < 4611686018427387904) : Calls Tryz.prog 189 #[.pointer (some ⟨hb, 0, none⟩), .int .i64 i] w (Plc p true w) := by
  have hc := h.cell hi
  rw [hz] at hc
  clear h hz
  go_enter Tryz.func189, Tryz.ntmps189
  go_wp2_with (go_at_call 192; refine (mayBe_yes _ _ hi).mono ?_; rintro e w' ⟨rfl, rfl⟩)
  go_ret2
  exact ⟨rfl, rfl⟩

def SetP (hb g cap n : Nat) (f : Nat → En) (pl : Int → Int) (w : World) (e : Ending) (w' : World) : Prop := e = .returned (.tuple #[]) ∧ HM w' hb g cap n f pl ∧ Only (Two hb g) w w'
set_option maxHeartbeats 1000000 in
theorem set_any (w : World) (hb g cap n : Nat) (f : Nat → En) (pl : Int → Int) (p i : Nat) (k : Int) (h : HM w hb g cap n f pl) (hp : p < n) (hi : i < 64) :
    Calls Tryz.prog 207 #[.pointer (some ⟨hb, 0, none⟩), .int .i64 p, .agg #[.int .i64 i, .int .i64 k]] w (SetP hb g cap n (up f p (i, k)) (updp pl i (p + 1)) w) := by
  have H := Lib.hid h
  have hle := h.le
  have hmx := h.max
  have hlh := h.P.lt
  have hlg := h.E.lt
  have hne := h.ne
  have c0 := h.P.cell0
  have c1 := h.P.cell hi
  have f1 := h.P.free (1 + i)
  have e1 := h.E.cell1 hp
  have e2 := h.E.cell2 hp
  have f2 := h.E.free (p * 2)
  have f3 := h.E.free (p * 2 + 1)
  unfold maxLen at hmx
  clear h
  go_enter Tryz.func207, Tryz.ntmps207
  go_wp2
  go_region
  go_wp2
  go_region
  go_wp2
  go_end0
  exact ⟨rfl, ((((H.out.set hp (i, k)).setp hi (p + 1)).alloc _).drew).drew, ((((((Only.refl _ _).setCell (Or.inl (Or.inr rfl)) _).setCell (Or.inl (Or.inr rfl)) _).setCell (Or.inl (Or.inl rfl)) _).alloc _).drew).drew⟩

set_option maxHeartbeats 1000000 in
theorem swap_any (w : World) (hb g cap n : Nat) (f : Nat → En) (pl : Int → Int) (a b i j : Nat) (h : HM w hb g cap n f pl) (ha : a < n) (hb' : b < n) (hi : (f a).1 = i) (hj : (f b).1 = j) (hi' : i < 64) (hj' : j < 64) :
    Calls Tryz.prog 203 #[.pointer (some ⟨hb, 0, none⟩), .int .i64 a, .int .i64 b] w (SetP hb g cap n (sw f a b) (updp (updp pl (f b).1 (a + 1)) (f a).1 (b + 1)) w) := by
  have H := Lib.hid h
  have HI := Lib.hid hi
  have HJ := Lib.hid hj
  have hle := h.le
  have hmx := h.max
  have hlh := h.P.lt
  have hlg := h.E.lt
  have hne := h.ne
  have c0 := h.P.cell0
  have e1 := h.E.cell1 ha
  have e2 := h.E.cell2 ha
  have e3 := h.E.cell1 hb'
  have e4 := h.E.cell2 hb'
  rw [hi] at e1
  rw [hj] at e3
  have KA := Lib.hid (rfl : (f a).2 = (f a).2)
  generalize hka : (f a).2 = ka at e2
  generalize hkb : (f b).2 = kb at e4
  have HKA := Lib.hid hka
  have HKB := Lib.hid hkb
  unfold maxLen at hmx
  clear h hi hj hka hkb KA
  go_enter Tryz.func203, Tryz.ntmps203
  go_wp2_with fail
  go_region
  all_goals
    go_wp2_with fail
    refine (set_any _ hb g cap n f pl a j kb (((H.out.alloc _).alloc _).drew) ha hj').mono ?_
    rintro e w1 ⟨rfl, hm1, ho1⟩
    have hkm := keep_made ho1 (by rintro (e | e) <;> omega) (by rintro (e | e) <;> omega)
    have k1 := hkm.1.1
    have k2 := hkm.1.2
    have k3 := hkm.2.1
    have k4 := hkm.2.2
    have HO := Lib.hid ho1
    clear ho1 hkm
    go_wp2_with fail
    refine (set_any _ hb g cap n _ _ b i ka hm1 hb' hi').mono ?_
    rintro e w2 ⟨rfl, hm2, ho2⟩
    have HM2 := Lib.hid hm2
    clear hm2 hm1
    go_wp2_with fail
    go_end0
    refine ⟨rfl, ?_, ((((Only.refl _ _).alloc _).alloc _).drew).trans (HO.out.trans ho2)⟩
    have fa : f a = ((i : Int), ka) := Prod.ext HI.out HKA.out
    have fb : f b = ((j : Int), kb) := Prod.ext HJ.out HKB.out
    have := HM2.out
    rw [← fa, ← fb, sw_up] at this
    rw [HI.out, HJ.out]
    exact this

end Go.Proofs.YtkkmfpllgjoceaaGreat.Rq

namespace Go.Proofs.YtkkmfpllgjoceaaGreat.Rq
open Go.RowKit Rk
set_option linter.unusedVariables false
set_option maxRecDepth 100000

def IsN (n : Int) (w : World) (e : Ending) (w' : World) : Prop := e = .returned (.int .i64 n) ∧ w = w'
/-- one number against another -/
def ci (x y : Int) : Int := if x < y then -1 else if y < x then 1 else 0
theorem nan_any (x : Int) (w : World) : Calls Tryz.prog 223 #[.int .i64 x] w (IsB false w) := by
  have h : (x != x) = false := by simp
  go_enter Tryz.func223, Tryz.ntmps223
  go_wp2
  go_ret
  exact ⟨rfl, rfl⟩
theorem ci_any (x y : Int) (w : World) : Calls Tryz.prog 211 #[.int .i64 x, .int .i64 y] w (IsN (ci x y) w) := by
  unfold ci
  by_cases h1 : x < y
  · rw [if_pos h1]
    go_enter Tryz.func211, Tryz.ntmps211
    go_wp2_with (go_at_call 223; refine (nan_any _ _).mono ?_; rintro e w' ⟨rfl, rfl⟩)
    go_ret
    exact ⟨rfl, rfl⟩
  · rw [if_neg h1]
    have hd1 : decide (x < y) = false := by simpa using h1
    by_cases h2 : y < x
    · rw [if_pos h2]
      clear h1
      go_enter Tryz.func211, Tryz.ntmps211
      go_wp2_with (go_at_call 223; refine (nan_any _ _).mono ?_; rintro e w' ⟨rfl, rfl⟩)
      go_ret
      exact ⟨rfl, rfl⟩
    · rw [if_neg h2]
      have hd2 : decide (y < x) = false := by simpa using h2
      clear h1 h2
      go_enter Tryz.func211, Tryz.ntmps211
      go_wp2_with (go_at_call 223; refine (nan_any _ _).mono ?_; rintro e w' ⟨rfl, rfl⟩)
      go_ret
      exact ⟨rfl, rfl⟩
/-- the first one that is not zero -/
def orI (a b : Int) : Int := if a = 0 then b else a
set_option maxHeartbeats 400000 in
theorem or_any (g : Nat) (a b : Int) (w : World) (h1 : w.cell? ⟨g, 0, none⟩ = some (.int .i64 a)) (h2 : w.cell? ⟨g, 1, none⟩ = some (.int .i64 b)) : Calls Tryz.prog 210 #[.slice (some ⟨g, 0, none⟩) 2 2] w (IsN (orI a b) w) := by
  unfold orI
  have H1 := Lib.hid h1
  have H2 := Lib.hid h2
  by_cases ha : a = 0
  · rw [if_pos ha]
    subst ha
    by_cases hb : b = 0
    · subst hb
      go_enter Tryz.func210, Tryz.ntmps210
      go_wp2
      go_loop [8] (fun i => ∃ k : Nat, k ≤ 2 ∧ i = .int .i64 k) (fun i => 2 - (intOf i).toNat)
      case atStart => exact ⟨0, by omega, rfl⟩
      case round =>
        obtain ⟨k, hk, rfl⟩ := hrel
        by_cases hlt : k < 2
        · have hc : w.cell? ⟨g, k, none⟩ = some (.int .i64 0) := by
            rcases (show k = 0 ∨ k = 1 by omega) with rfl | rfl
            · exact H1.out
            · exact H2.out
          clear h1 h2
          go_wp2
          go_round
          case rel => exact ⟨k + 1, by omega, by go_num⟩
          case measure => simp [intOf]; omega
        · clear h1 h2
          go_wp2
          go_ret
          exact ⟨rfl, rfl⟩
    · have hbd : (b != 0) = true := by simpa using hb
      have hbe : (b == 0) = false := by simpa using hb
      clear hb
      go_enter Tryz.func210, Tryz.ntmps210
      go_wp2
      go_loop [8] (fun i => ∃ k : Nat, k ≤ 1 ∧ i = .int .i64 k) (fun i => 2 - (intOf i).toNat)
      case atStart => exact ⟨0, by omega, rfl⟩
      case round =>
        obtain ⟨k, hk, rfl⟩ := hrel
        by_cases hlt : k = 0
        · subst hlt
          go_wp2
          go_round
          case rel => exact ⟨1, by omega, rfl⟩
          case measure => simp [intOf]
        · obtain rfl : k = 1 := by omega
          go_wp2
          go_ret
          exact ⟨rfl, rfl⟩
  · rw [if_neg ha]
    have hbd : (a != 0) = true := by simpa using ha
    have hbe : (a == 0) = false := by simpa using ha
    clear ha
    go_enter Tryz.func210, Tryz.ntmps210
    go_wp2
    go_loop [8] (fun i => i = .int .i64 0) (fun i => 0)
    case atStart => rfl
    case round =>
      subst hrel
      go_wp2
      go_ret
      exact ⟨rfl, rfl⟩

/-- compare's answer -/
def cf (x y : En) : Int := orI (ci x.2 y.2) (ci x.1 y.1)
/-- draws and new blocks alone -/
def Grw (W w' : World) : Prop := ∃ q os, w' = Sort.grow (W.drewN q) os
theorem Grw.refl (W : World) : Grw W W := ⟨0, #[], by rw [Sort.grow_empty]; rfl⟩
theorem Grw.drew {W w : World} (h : Grw W w) : Grw W w.drew := by obtain ⟨q, os, rfl⟩ := h; exact ⟨q + 1, os, rfl⟩
theorem Grw.alloc {W w : World} (h : Grw W w) (o : Obj) : Grw W (w.alloc o) := by
  obtain ⟨q, os, rfl⟩ := h; exact ⟨q, os ++ #[o], by rw [Sort.alloc_eq_grow, Sort.grow_grow]⟩
theorem Grw.trans {W w w' : World} (h : Grw W w) (k : Grw w w') : Grw W w' := by
  obtain ⟨q, os, rfl⟩ := h; obtain ⟨q', os', rfl⟩ := k
  refine ⟨q + q', os ++ os', ?_⟩
  rw [← Sort.grow_grow]; simp only [Sort.grow, World.drewN, Nat.add_assoc]
theorem Grw.below {W w : World} (h : Grw W w) : Below W.heap.size W w := by
  obtain ⟨q, os, rfl⟩ := h
  refine ⟨rfl, rfl, rfl, ?_, fun k hk => ?_⟩
  · rw [Sort.size_grow]; exact Nat.le_add_right _ _
  · exact Sort.heap_grow_old (W.drewN q) os hk
def CmpP (x : Int) (w : World) (e : Ending) (w' : World) : Prop := e = .returned (.int .i64 x) ∧ Grw w w'

theorem ci_fit (x y n : Int) (w : World) (h : ci x y = n) : Calls Tryz.prog 211 #[.int .i64 x, .int .i64 y] w (IsN n w) := by subst h; exact ci_any x y w
/-- what is kept through the region: four cells, and how the world came about -/
def CS (W : World) (k : Nat) (a b c d : Int) (w' : World) : Prop :=
  w'.cell? ⟨k, 0, none⟩ = some (.int .i64 a) ∧ w'.cell? ⟨k, 1, none⟩ = some (.int .i64 b) ∧ w'.cell? ⟨k + 1, 0, none⟩ = some (.int .i64 c) ∧ w'.cell? ⟨k + 1, 1, none⟩ = some (.int .i64 d) ∧ Grw W w'
theorem CS.drew {W : World} {k : Nat} {a b c d : Int} {w' : World} (h : CS W k a b c d w') : CS W k a b c d w'.drew := ⟨h.1, h.2.1, h.2.2.1, h.2.2.2.1, h.2.2.2.2.drew⟩
theorem CS.alloc {W : World} {k : Nat} {a b c d : Int} {w' : World} (h : CS W k a b c d w') (o : Obj) : CS W k a b c d (w'.alloc o) :=
  ⟨by rw [World.cell?_alloc_lt _ _ _ (World.block_lt_of_cell? w' _ h.1)]; exact h.1, by rw [World.cell?_alloc_lt _ _ _ (World.block_lt_of_cell? w' _ h.2.1)]; exact h.2.1,
   by rw [World.cell?_alloc_lt _ _ _ (World.block_lt_of_cell? w' _ h.2.2.1)]; exact h.2.2.1, by rw [World.cell?_alloc_lt _ _ _ (World.block_lt_of_cell? w' _ h.2.2.2.1)]; exact h.2.2.2.1, h.2.2.2.2.alloc o⟩
theorem CS.made (w : World) (a b c d : Int) (t : TypeId) : CS w w.heap.size a b c d ((w.alloc (.cells #[.int .i64 a, .int .i64 b] t)).alloc (.cells #[.int .i64 c, .int .i64 d] t)) := by
  have e := heap_alloc2_old w (.cells #[.int .i64 a, .int .i64 b] t) (.cells #[.int .i64 c, .int .i64 d] t)
  have e' := heap_alloc2_new w (.cells #[.int .i64 a, .int .i64 b] t) (.cells #[.int .i64 c, .int .i64 d] t)
  exact ⟨by rw [cell_of_row _ _ _ _ _ _ e]; rfl, by rw [cell_of_row _ _ _ _ _ _ e]; rfl, by rw [cell_of_row _ _ _ _ _ _ e']; rfl, by rw [cell_of_row _ _ _ _ _ _ e']; rfl, ((Grw.refl w).alloc _).alloc _⟩

set_option maxHeartbeats 1000000 in
theorem cmp_any (x y : En) (w : World) : Calls Tryz.prog 197 #[.agg #[.int .i64 x.1, .int .i64 x.2], .agg #[.int .i64 y.1, .int .i64 y.2]] w (CmpP (cf x y) w) := by
  obtain ⟨a, b⟩ := x
  obtain ⟨c, d⟩ := y
  unfold cf
  dsimp only
  generalize hr : ci b d = r
  generalize hs : ci a c = s
  have HR := Lib.hid hr
  have HS := Lib.hid hs
  clear hr hs
  go_enter Tryz.func197, Tryz.ntmps197
  go_wp2_with fail
  have mixed : Tryz.prog.follows .mixedOrders = true := by kernel_rfl
  have hss := CS.made w a b c d 196
  generalize (w.alloc (Obj.cells #[Value.int IntKind.i64 a, Value.int IntKind.i64 b] 196)).alloc (Obj.cells #[Value.int IntKind.i64 c, Value.int IntKind.i64 d] 196) = W at hss ⊢
  refine wp_region_still_tail 10 mixed (by kernel_rfl) ?_
  simp only [List.take_succ_cons, List.take_zero, List.drop_succ_cons, List.drop_zero]
  change wpStill _ _ W.drew _ _ _
  have hs2 := hss.drew
  generalize W.drew = V at hs2 ⊢
  have hgW := hss.2.2.2.2
  clear hss mixed
  obtain ⟨c1, c2, c3, c4, hg⟩ := hs2
  repeat still_step
  still_call ((ci_fit _ _ _ _ HR.out).mono fun _ _ h => ⟨h.1, h.2.symm⟩)
  repeat still_step
  still_call ((ci_fit _ _ _ _ HS.out).mono fun _ _ h => ⟨h.1, h.2.symm⟩)
  refine wpStill_nil ?_
  have h1 : (W.alloc (.cells #[.int .i64 r, .int .i64 s] 3)).drew.cell? ⟨W.heap.size, 0, none⟩ = some (.int .i64 r) := (cell_of_row _ _ _ _ _ _ (heap_alloc_new W _)).trans rfl
  have h2 : (W.alloc (.cells #[.int .i64 r, .int .i64 s] 3)).drew.cell? ⟨W.heap.size, 1, none⟩ = some (.int .i64 s) := (cell_of_row _ _ _ _ _ _ (heap_alloc_new W _)).trans rfl
  have H1 := Lib.hid h1
  have H2 := Lib.hid h2
  clear h1 h2 c1 c2 c3 c4
  go_wp2_with fail
  refine (or_any _ _ _ _ H1.out H2.out).mono ?_
  rintro e w' ⟨rfl, rfl⟩
  go_wp2_with fail
  go_ret
  exact ⟨rfl, (hgW.alloc _).drew⟩

theorem cf_lt (x y : En) : decide (cf x y < 0) = decide (lt x y) := by
  unfold cf orI ci lt
  by_cases h1 : x.2 < y.2
  · simp [h1]
  · by_cases h2 : y.2 < x.2
    · have : ¬ (x.2 = y.2) := by omega
      simp [h1, h2, this]
    · have e : x.2 = y.2 := by omega
      by_cases h3 : x.1 < y.1
      · simp [h3, e]
      · by_cases h4 : y.1 < x.1 <;> simp [h3, h4, e]

def AhP (v : Bool) (w : World) (e : Ending) (w' : World) : Prop := e = .returned (.bool v) ∧ Below w.heap.size w w'
set_option maxHeartbeats 1000000 in
theorem ahead_any (w : World) (hb g cap n : Nat) (f : Nat → En) (pl : Int → Int) (a b : Nat) (v : Bool) (h : HM w hb g cap n f pl) (ha : a < n) (hb' : b < n) (hv : decide (lt (f a) (f b)) = v) :
    Calls Tryz.prog 212 #[.pointer (some ⟨hb, 0, none⟩), .int .i64 a, .int .i64 b] w (AhP v w) := by
  have HC := fun w' => cmp_any (f a) (f b) w'
  rw [← cf_lt] at hv
  have hle := h.le
  have hmx := h.max
  have hlh := h.P.lt
  have hlg := h.E.lt
  have c0 := h.P.cell0
  have e1 := h.E.cell1 ha
  have e2 := h.E.cell2 ha
  have e3 := h.E.cell1 hb'
  have e4 := h.E.cell2 hb'
  generalize f a = x at *
  generalize f b = y at *
  obtain ⟨x1, x2⟩ := x
  obtain ⟨y1, y2⟩ := y
  generalize cf (x1, x2) (y1, y2) = r at *
  have HV := Lib.hid hv
  unfold maxLen at hmx
  dsimp only at *
  have C0 := fun n os => cell_grown (w := w) (a := ⟨hb, 0, none⟩) hlh c0 n os
  have E1 := fun n os => cell_grown (w := w) (a := ⟨g, a * 2, none⟩) hlg e1 n os
  have E2 := fun n os => cell_grown (w := w) (a := ⟨g, a * 2 + 1, none⟩) hlg e2 n os
  have E3 := fun n os => cell_grown (w := w) (a := ⟨g, b * 2, none⟩) hlg e3 n os
  have E4 := fun n os => cell_grown (w := w) (a := ⟨g, b * 2 + 1, none⟩) hlg e4 n os
  have mixed : Tryz.prog.follows .mixedOrders = true := by kernel_rfl
  clear h hv c0 e1 e2 e3 e4
  go_enter Tryz.func212, Tryz.ntmps212
  go_wp2_with fail
  go_quiet_grown ((go_at_call 197; refine Calls.grown_of ((HC _).mono fun _ _ h => h)))
  clear C0 E1 E2 E3 E4 HC mixed
  go_wp2_with fail
  go_ret
  exact ⟨by rw [HV.out]; rfl, Grw.below ⟨nq, osq, rfl⟩⟩

/-- a swap, with what the entries stand for -/
def SwP (hb g cap n : Nat) (f : Nat → En) (m : Mp) (w : World) (e : Ending) (w' : World) : Prop := e = .returned (.tuple #[]) ∧ (∃ pl, HM w' hb g cap n f pl ∧ Rep f n pl m) ∧ Only (Two hb g) w w'
theorem rep_nat {f : Nat → En} {n : Nat} {pl : Int → Int} {m : Mp} (h : Rep f n pl m) {i : Nat} (hi : i < n) : ∃ j : Nat, (f i).1 = j ∧ j < 64 := by
  obtain ⟨x1, x2, _⟩ := h.ent i hi
  exact ⟨(f i).1.toNat, by omega, by omega⟩
theorem swap_rep (w : World) (hb g cap n : Nat) (f : Nat → En) (pl : Int → Int) (m : Mp) (a b : Nat) (h : HM w hb g cap n f pl) (r : Rep f n pl m) (ha : a < n) (hb' : b < n) :
    Calls Tryz.prog 203 #[.pointer (some ⟨hb, 0, none⟩), .int .i64 a, .int .i64 b] w (SwP hb g cap n (sw f a b) m w) := by
  obtain ⟨i, hi, hi'⟩ := rep_nat r ha
  obtain ⟨j, hj, hj'⟩ := rep_nat r hb'
  exact (swap_any w hb g cap n f pl a b i j h ha hb' hi hj hi' hj').mono fun e w' ⟨he, hm, ho⟩ => ⟨he, ⟨_, hm, r.swap ha hb'⟩, ho⟩

end Go.Proofs.YtkkmfpllgjoceaaGreat.Rq

namespace Go.Proofs.YtkkmfpllgjoceaaGreat.Rq
open Go.RowKit Rk
set_option linter.unusedVariables false
set_option maxRecDepth 100000

def RiseP (hb g cap n : Nat) (f : Nat → En) (m : Mp) (p : Nat) (w : World) (e : Ending) (w' : World) : Prop :=
  e = .returned (.tuple #[]) ∧ (∃ f' pl', HM w' hb g cap n f' pl' ∧ Rep f' n pl' m ∧ HX f' n p ∧ Up f' n p ∧ (Dn f n p → Heap f' n)) ∧ Only (Two hb g) w w'
/-- at the head of a round -/
def RiseI (hb g cap n : Nat) (f : Nat → En) (m : Mp) (p0 p : Nat) (w wr : World) : Prop :=
  (∃ f' pl', HM wr hb g cap n f' pl' ∧ Rep f' n pl' m ∧ HX f' n p ∧ p < n ∧ ((p = p0 ∧ f' = f) ∨ Dn f' n p)) ∧ Only (Two hb g) w wr
theorem RiseI.start {w : World} {hb g cap n : Nat} {f : Nat → En} {pl : Int → Int} {m : Mp} {p0 : Nat} (h : HM w hb g cap n f pl) (r : Rep f n pl m) (x : HX f n p0) (hp : p0 < n) : Hid (RiseI hb g cap n f m p0 p0 w w) :=
  ⟨⟨f, pl, h, r, x, hp, Or.inl ⟨rfl, rfl⟩⟩, Only.refl _ _⟩
theorem rise_end {hb g cap n : Nat} {f f' : Nat → En} {pl' : Int → Int} {m : Mp} {p0 p : Nat} {w wr : World} (hp0 : p0 < n) (h : HM wr hb g cap n f' pl') (r : Rep f' n pl' m) (x : HX f' n p) (o : (p = p0 ∧ f' = f) ∨ Dn f' n p) (u : Up f' n p) (ho : Only (Two hb g) w wr) :
    RiseP hb g cap n f m p0 w (.returned (.tuple #[])) wr := by
  refine ⟨rfl, ⟨f', pl', h, r, ?_⟩, ho⟩
  rcases o with ⟨rfl, rfl⟩ | d
  · exact ⟨x, u, fun d => heap_of x u d⟩
  · have hh := heap_of x u d
    exact ⟨heap_hx hh hp0, heap_up hh hp0, fun _ => hh⟩

set_option maxHeartbeats 1000000 in
theorem rise_any (w : World) (hb g cap n : Nat) (f : Nat → En) (pl : Int → Int) (m : Mp) (p0 : Nat) (h : HM w hb g cap n f pl) (r : Rep f n pl m) (x : HX f n p0) (hp : p0 < n) :
    Calls Tryz.prog 204 #[.pointer (some ⟨hb, 0, none⟩), .int .i64 p0] w (RiseP hb g cap n f m p0 w) := by
  have hI := RiseI.start h r x hp
  have hcap : n ≤ 9223372036854775807 := by have := h.le; have := h.max; unfold maxLen at this; omega
  clear h r x
  go_enter Tryz.func204, Tryz.ntmps204
  go_wp2_with fail
  go_loopw [1] (fun i wr => ∃ p : Nat, i = .int .i64 p ∧ Hid (RiseI hb g cap n f m p0 p w wr)) (fun i _ => (intOf i).toNat)
  case atStart => exact ⟨p0, rfl, hI⟩
  case round =>
    clear hI
    obtain ⟨p, rfl, HI⟩ := hrel
    obtain ⟨⟨f', pl', hm, hr, hx, hpn, hor⟩, ho⟩ := HI.out
    have HM' := Lib.hid hm
    have HR := Lib.hid hr
    have HX' := Lib.hid hx
    have HO := Lib.hid ho
    have HOr := Lib.hid hor
    clear HI hm hr hx ho hor
    by_cases h0 : 0 < p
    · obtain ⟨q, hq⟩ : ∃ q, q = (p - 1) / 2 := ⟨_, rfl⟩
      have hqn : q < n := by omega
      have hqp : q < p := by omega
      have hqi : ((p : Int) - 1) / 2 = (q : Int) := by omega
      have HQ := Lib.hid hq
      clear hq
      cases hv : decide (lt (f' p) (f' q)) with
      | false =>
        have HV := Lib.hid hv
        clear hv
        go_wp2_with fail
        refine (ahead_any _ _ _ _ _ _ _ _ _ _ HM'.out hpn hqn HV.out).mono ?_
        rintro e w1 ⟨rfl, hb1⟩
        go_wp2_with fail
        go_end0
        exact rise_end hp (HM'.out.below hb1) HR.out HX'.out HOr.out (fun _ => by have := HV.out; rw [HQ.out] at this; exact of_decide_eq_false this) (HO.out.trans (Only.of_below hb1))
      | true =>
        have HV := Lib.hid hv
        clear hv
        go_wp2_with fail
        refine (ahead_any _ _ _ _ _ _ _ _ _ _ HM'.out hpn hqn HV.out).mono ?_
        rintro e w1 ⟨rfl, hb1⟩
        go_wp2_with fail
        refine (swap_rep _ _ _ _ _ _ _ _ _ _ (HM'.out.below hb1) HR.out hpn hqn).mono ?_
        rintro e w2 ⟨rfl, ⟨pl2, hm2, hr2⟩, ho2⟩
        have HF : Hid (RiseI hb g cap n f m p0 q w w2) := by
          have st := rise_step HX'.out h0 hpn (by have := HV.out; rw [HQ.out] at this; simpa using this)
          rw [← HQ.out] at st
          exact ⟨⟨_, pl2, hm2, hr2, st.1, hqn, Or.inr st.2⟩, (HO.out.trans (Only.of_below hb1)).trans ho2⟩
        clear hm2 hr2 ho2
        go_wp2_with fail
        go_roundw
        case rel => exact ⟨q, rfl, HF⟩
        case measure => simp [intOf]; omega
    · obtain rfl : p = 0 := by omega
      go_wp2_with fail
      go_end0
      exact rise_end hp HM'.out HR.out HX'.out HOr.out (fun h => absurd h (by omega)) HO.out

/-- sink: a heap behind it -/
def SinkP (hb g cap n : Nat) (m : Mp) (w : World) (e : Ending) (w' : World) : Prop :=
  e = .returned (.tuple #[]) ∧ (∃ f' pl', HM w' hb g cap n f' pl' ∧ Rep f' n pl' m ∧ Heap f' n) ∧ Only (Two hb g) w w'
def SinkI (hb g cap n : Nat) (m : Mp) (p : Nat) (w wr : World) : Prop :=
  (∃ f' pl', HM wr hb g cap n f' pl' ∧ Rep f' n pl' m ∧ HX f' n p ∧ Up f' n p ∧ p < n) ∧ Only (Two hb g) w wr
theorem SinkI.start {w : World} {hb g cap n : Nat} {f : Nat → En} {pl : Int → Int} {m : Mp} {p0 : Nat} (h : HM w hb g cap n f pl) (r : Rep f n pl m) (x : HX f n p0) (u : Up f n p0) (hp : p0 < n) : Hid (SinkI hb g cap n m p0 w w) :=
  ⟨⟨f, pl, h, r, x, u, hp⟩, Only.refl _ _⟩
/-- the inner round: c comes ahead of all below p that were looked at -/
def Best (f : Nat → En) (n p b c : Nat) : Prop := c < n ∧ (c = p ∨ (0 < c ∧ (c - 1) / 2 = p ∧ lt (f c) (f p))) ∧ ∀ d, 0 < d → d < n → d < b → (d - 1) / 2 = p → le (f c) (f d)
theorem Best.start {f : Nat → En} {n p : Nat} (hp : p < n) : Best f n p (2 * p + 1) p := ⟨hp, Or.inl rfl, fun d h0 _ h1 h2 => by omega⟩
theorem Best.yes {f : Nat → En} {n p b c : Nat} (h : Best f n p b c) (hb : b < n) (h0 : 2 * p + 1 ≤ b) (h1 : b ≤ 2 * p + 2) (hl : lt (f b) (f c)) : Best f n p (b + 1) b := by
  refine ⟨hb, Or.inr ⟨by omega, by omega, ?_⟩, fun d d0 d1 d2 d3 => ?_⟩
  · rcases h.2.1 with rfl | ⟨_, _, h3⟩
    · exact hl
    · exact lt_trans hl h3
  · by_cases e : d = b
    · subst e; exact le_refl _
    · exact le_trans (le_of_lt hl) (h.2.2 d d0 d1 (by omega) d3)
theorem Best.no {f : Nat → En} {n p b c : Nat} (h : Best f n p b c) (hl : ¬ lt (f b) (f c)) : Best f n p (b + 1) c := by
  refine ⟨h.1, h.2.1, fun d d0 d1 d2 d3 => ?_⟩
  by_cases e : d = b
  · subst e; exact hl
  · exact h.2.2 d d0 d1 (by omega) d3
theorem Best.stay {f : Nat → En} {n p b : Nat} (h : Best f n p b p) (hb : ¬ (b ≤ 2 * p + 2 ∧ b < n)) : Dn f n p := fun c c0 c1 c2 => h.2.2 c c0 c1 (by omega) c2
theorem Best.go {f : Nat → En} {n p b c : Nat} (h : Best f n p b c) (hb : ¬ (b ≤ 2 * p + 2 ∧ b < n)) (hc : c ≠ p) (x : HX f n p) (u : Up f n p) : HX (sw f p c) n c ∧ Up (sw f p c) n c := by
  rcases h.2.1 with e | ⟨h0, h1, h2⟩
  · exact (hc e).elim
  · exact sink_step x u h0 h.1 h1 h2 fun d d0 d1 d2 => h.2.2 d d0 d1 (by omega) d2

set_option maxHeartbeats 2000000 in
theorem sink_any (w : World) (hb g cap n : Nat) (f : Nat → En) (pl : Int → Int) (m : Mp) (p0 : Nat) (h : HM w hb g cap n f pl) (r : Rep f n pl m) (x : HX f n p0) (u : Up f n p0) (hp : p0 < n) (hN : n ≤ 1000000) :
    Calls Tryz.prog 205 #[.pointer (some ⟨hb, 0, none⟩), .int .i64 p0] w (SinkP hb g cap n m w) := by
  have hI := SinkI.start h r x u hp
  clear h r x u
  go_enter Tryz.func205, Tryz.ntmps205
  go_wp2_with fail
  go_loopw [1] (fun i wr => ∃ p : Nat, i = .int .i64 p ∧ p < n ∧ Hid (SinkI hb g cap n m p w wr)) (fun i _ => n - (intOf i).toNat)
  case atStart => exact ⟨p0, rfl, hp, hI⟩
  case round =>
    clear hI hp
    obtain ⟨p, rfl, hp, HI⟩ := hrel
    obtain ⟨⟨f', pl', hm, hr, hx, hu, hpn⟩, ho⟩ := HI.out
    have HM' := Lib.hid hm
    have HR := Lib.hid hr
    have HX' := Lib.hid hx
    have HU := Lib.hid hu
    have HO := Lib.hid ho
    clear HI hm hr hx hu ho
    obtain ⟨wo, rfl⟩ : ∃ wo : World, wo = wr := ⟨_, rfl⟩
    go_wp2_with fail
    go_loopw [4, 5] (fun c b wr => ∃ c' b' : Nat, c = .int .i64 c' ∧ b = .int .i64 b' ∧ 2 * p + 1 ≤ b' ∧ b' ≤ 2 * p + 3 ∧ Hid (Best f' n p b' c') ∧ Hid (Below wo.heap.size wo wr)) (fun _ b _ => 2 * p + 3 - (intOf b).toNat)
    case atStart => exact ⟨p, 2 * p + 1, rfl, by go_num, by omega, by omega, Best.start hpn, Below.refl _ _⟩
    case round =>
      obtain ⟨c, b, rfl, rfl, hb1, hb2, HB, HW⟩ := hrel
      have hcn : c < n := HB.out.1
      have HM1 := Lib.hid (HM'.out.below HW.out)
      have c0 := HM1.out.P.cell0
      by_cases hc1 : b ≤ 2 * p + 2
      · by_cases hc2 : b < n
        · cases hv : decide (lt (f' b) (f' c)) with
          | true =>
            have HF : Hid (Best f' n p (b + 1) b) := HB.out.yes hc2 hb1 hc1 (of_decide_eq_true hv)
            have HV := Lib.hid hv
            clear hv
            go_wp2_with fail
            refine (ahead_any _ _ _ _ _ _ _ _ _ _ HM1.out hc2 hcn HV.out).mono ?_
            rintro e w1 ⟨rfl, hb1'⟩
            have HW1 : Hid (Below wo.heap.size wo w1) := HW.out.trans (hb1'.mono HW.out.size)
            clear hb1'
            go_wp2_with fail
            go_roundw
            case rel => exact ⟨b, b + 1, rfl, by go_num, by omega, by omega, HF, HW1⟩
            case measure => simp [intOf]; omega
          | false =>
            have HF : Hid (Best f' n p (b + 1) c) := HB.out.no (of_decide_eq_false hv)
            have HV := Lib.hid hv
            clear hv
            go_wp2_with fail
            refine (ahead_any _ _ _ _ _ _ _ _ _ _ HM1.out hc2 hcn HV.out).mono ?_
            rintro e w1 ⟨rfl, hb1'⟩
            have HW1 : Hid (Below wo.heap.size wo w1) := HW.out.trans (hb1'.mono HW.out.size)
            clear hb1'
            go_wp2_with fail
            go_roundw
            case rel => exact ⟨c, b + 1, rfl, by go_num, by omega, by omega, HF, HW1⟩
            case measure => simp [intOf]; omega
        · have hd : decide ((b : Int) < (n : Int)) = false := by simp; omega
          by_cases hcp : c = p
          · subst hcp
            have HD : Hid (Dn f' n c) := HB.out.stay (by omega)
            go_wp2_with fail
            go_end0
            exact ⟨rfl, ⟨f', pl', HM1.out, HR.out, heap_of HX'.out HU.out HD.out⟩, HO.out.trans (Only.of_below HW.out)⟩
          · have hne : ((c : Int) == (p : Int)) = false := by simp; omega
            have HG : Hid (HX (sw f' p c) n c ∧ Up (sw f' p c) n c) := HB.out.go (by omega) hcp HX'.out HU.out
            have hpc : p < c := by rcases HB.out.2.1 with e | ⟨h0, h1, _⟩; · exact (hcp e).elim
                                   · omega
            clear hcp
            go_wp2_with fail
            refine (swap_rep _ _ _ _ _ _ _ _ _ _ HM1.out HR.out hpn hcn).mono ?_
            rintro e w2 ⟨rfl, ⟨pl2, hm2, hr2⟩, ho2⟩
            have HF : Hid (SinkI hb g cap n m c w w2) := ⟨⟨_, pl2, hm2, hr2, HG.out.1, HG.out.2, hcn⟩, (HO.out.trans (Only.of_below HW.out)).trans ho2⟩
            clear hm2 hr2 ho2
            go_wp2_with fail
            go_roundw
            case rel => exact ⟨c, rfl, hcn, HF⟩
            case measure => simp [intOf]; omega
      · have hd : decide ((b : Int) ≤ 2 * (p : Int) + 2) = false := by simp; omega
        by_cases hcp : c = p
        · subst hcp
          have HD : Hid (Dn f' n c) := HB.out.stay (by omega)
          go_wp2_with fail
          go_end0
          exact ⟨rfl, ⟨f', pl', HM1.out, HR.out, heap_of HX'.out HU.out HD.out⟩, HO.out.trans (Only.of_below HW.out)⟩
        · have hne : ((c : Int) == (p : Int)) = false := by simp; omega
          have HG : Hid (HX (sw f' p c) n c ∧ Up (sw f' p c) n c) := HB.out.go (by omega) hcp HX'.out HU.out
          have hpc : p < c := by rcases HB.out.2.1 with e | ⟨h0, h1, _⟩; · exact (hcp e).elim
                                 · omega
          clear hcp
          go_wp2_with fail
          refine (swap_rep _ _ _ _ _ _ _ _ _ _ HM1.out HR.out hpn hcn).mono ?_
          rintro e w2 ⟨rfl, ⟨pl2, hm2, hr2⟩, ho2⟩
          have HF : Hid (SinkI hb g cap n m c w w2) := ⟨⟨_, pl2, hm2, hr2, HG.out.1, HG.out.2, hcn⟩, (HO.out.trans (Only.of_below HW.out)).trans ho2⟩
          clear hm2 hr2 ho2
          go_wp2_with fail
          go_roundw
          case rel => exact ⟨c, rfl, hcn, HF⟩
          case measure => simp [intOf]; omega

end Go.Proofs.YtkkmfpllgjoceaaGreat.Rq

namespace Go.Proofs.YtkkmfpllgjoceaaGreat.Rq
open Go.RowKit Rk
set_option linter.unusedVariables false
set_option maxRecDepth 100000

def PushP (hb g n : Nat) (m : Mp) (w : World) (e : Ending) (w' : World) : Prop :=
  e = .returned (.tuple #[]) ∧ (∃ g' cap f pl, HM w' hb g' cap n f pl ∧ Rep f n pl m ∧ Heap f n ∧ (g' = g ∨ w.heap.size ≤ g')) ∧ Only (Two hb g) w w'

set_option maxHeartbeats 2000000 in
theorem push_any (w : World) (hb g n : Nat) (f : Nat → En) (pl : Int → Int) (v : Value) (m : Mp) (i : Nat) (k : Int) (h : HN w hb g n f pl v) (r : Rep f n pl m) (hh : Heap f n) (hi : i < 64) (hm : m i = none) (hN : n ≤ 100000) :
    Calls Tryz.prog 193 #[.pointer (some ⟨hb, 0, none⟩), .agg #[.int .i64 i, .int .i64 k]] w (PushP hb g (n + 1) (upd m i (some k)) w) := by
  have hlh := h.P.lt
  have hlg := h.ltg
  obtain ⟨a, cap, hv⟩ := h.slice
  have c0 := h.P.cell0
  rw [hv] at c0
  have H := Lib.hid h
  have HR := Lib.hid r
  have HH := Lib.hid hh
  have HM0 := Lib.hid hm
  have mc := made_cells (w := w) (x := .int .i64 i) (y := .int .i64 k) (t := 196) (o := .cells #[.int .i64 i, .int .i64 k] 196)
  have mc0 := made_cells0 (w := w) (x := .int .i64 i) (y := .int .i64 k) (t := 196) (o := .cells #[.int .i64 i, .int .i64 k] 196)
  have hW : HN ((w.alloc (.cells #[.int .i64 i, .int .i64 k] 196)).alloc (.cells #[.int .i64 i, .int .i64 k] 196)).drew hb g n f pl v := ((h.alloc _).alloc _).drew
  obtain ⟨g', cap', w1, hrun, hE, hle, hmx, hg', hO⟩ := push_mem hW ((i : Int), k) 187 ⟨w.heap.size + 1, 0, none⟩ (by rw [Addr.add_lit]; exact mc.1) (by rw [Addr.add_lit]; exact mc.2) (by omega)
  have hS : ¬ (fun q => q = g ∧ g ≠ hb) hb := fun e => e.2 e.1.symm
  have hP1 : PL w1 hb v pl := hW.P.keep (hO.block _ hW.P.lt hS)
  have k1 : w1.cell? ⟨w.heap.size, 0, none⟩ = some (.int .i64 i) := (hO.cell (by show _ < ((w.alloc _).alloc _).heap.size; simp; omega) (fun e => by have := e.1; simp only at this; omega)).trans mc0.1
  have k2 : w1.cell? ⟨w.heap.size, 1, none⟩ = some (.int .i64 k) := (hO.cell (by show _ < ((w.alloc _).alloc _).heap.size; simp; omega) (fun e => by have := e.1; simp only at this; omega)).trans mc0.2
  have d0 := hP1.cell0
  rw [hv] at d0
  have d1 := hP1.free 0
  rw [hv] at hrun
  have hsz : w.heap.size + 2 ≤ w1.heap.size := by have := hO.size; simp [World.drew] at this; omega
  have HRUN := Lib.hid hrun
  have HP1 := Lib.hid hP1
  have HE := Lib.hid hE
  have HO := Lib.hid hO
  have HG := Lib.hid hg'
  have HV := Lib.hid hv
  have HMX := Lib.hid hmx
  clear h r hh hm mc mc0 hW hrun hE hg' hO hS hP1 hv hmx
  go_enter Tryz.func193, Tryz.ntmps193
  go_wp2_with fail
  go_region_law (refine step_append_eq rfl (.tmp 14) (.tmp 16) 187 rfl _ _ _ (by simp [Act.eval]) (by simp [Act.eval]) HRUN.out ?_)
  all_goals
    go_wp2_with fail
    have hg1 : (g' = g ∧ g ≠ hb) ∨ w.heap.size + 2 ≤ g' := by have := HG.out; simp [World.drew] at this; omega
    have hne : hb ≠ g' := by omega
    have hgg : g' = g ∨ w.heap.size ≤ g' := by omega
    have HM3 : Hid (HM (w1.setCell ⟨hb, 0, none⟩ (.slice (some ⟨g', 0, none⟩) (n + 1) cap')) hb g' cap' (n + 1) (up f n (i, k)) pl) := ⟨hne, hle, HMX.out, HP1.out.set0 _, HE.out.other (Ne.symm hne) _⟩
    refine (set_any _ hb g' cap' (n + 1) _ pl n i k HM3.out (Nat.lt_succ_self n) hi).mono ?_
    rintro e w2 ⟨rfl, hm2, ho2⟩
    rw [up_up] at hm2
    have HM2 := Lib.hid hm2
    have HO2 := Lib.hid ho2
    clear hm2 ho2
    go_wp2_with fail
    have hx := put_hx (x := ((i : Int), k)) HH.out
    refine (rise_any _ hb g' cap' (n + 1) _ _ (upd m i (some k)) n HM2.out (HR.out.put (by omega) (by omega) HM0.out) hx.1 (Nat.lt_succ_self n)).mono ?_
    rintro e w3 ⟨rfl, ⟨f3, pl3, hm3, hr3, _, _, hh3⟩, ho3⟩
    have HF : Hid (PushP hb g (n + 1) (upd m i (some k)) w (.returned (.tuple #[])) w3) := by
      refine ⟨rfl, ⟨g', cap', f3, pl3, hm3, hr3, hh3 hx.2, hgg⟩, ?_⟩
      have t1 : Only (Two hb g) w w1 := ((((Only.refl _ w).alloc _).alloc _).drew).trans' (HO.out) (fun j hj e => Or.inr e.1)
      have t2 : Only (Two hb g) w (w1.setCell ⟨hb, 0, none⟩ (.slice (some ⟨g', 0, none⟩) (n + 1) cap')) := t1.setCell (Or.inl (Or.inl rfl)) _
      have t3 := t2.trans' (HO2.out.trans ho3) (fun j hj e => by
        rcases e with e | e
        · exact Or.inl e
        · exact Or.inr (by omega))
      exact t3
    clear hm3 hr3 ho3 hh3 hx
    go_wp2_with fail
    go_end0
    exact HF

/-- what is heaped, behind a change that leaves its blocks -/
def HpP (hb g cap n : Nat) (m : Mp) (w : World) (e : Ending) (w' : World) : Prop :=
  e = .returned (.tuple #[]) ∧ (∃ f pl, HM w' hb g cap n f pl ∧ Rep f n pl m ∧ Heap f n) ∧ Only (Two hb g) w w'

set_option maxHeartbeats 2000000 in
theorem take_any (w : World) (hb g cap n : Nat) (f : Nat → En) (pl : Int → Int) (m : Mp) (p : Nat) (h : HM w hb g cap (n + 1) f pl) (r : Rep f (n + 1) pl m) (hh : Heap f (n + 1)) (hp : p < n + 1) (hN : n ≤ 100000) :
    Calls Tryz.prog 190 #[.pointer (some ⟨hb, 0, none⟩), .int .i64 p] w (HpP hb g cap n (upd m (f p).1 none) w) := by
  have c0 := h.P.cell0
  have H := Lib.hid h
  have HR := Lib.hid r
  have HH := Lib.hid hh
  clear h r hh
  go_enter Tryz.func190, Tryz.ntmps190
  go_wp2_with fail
  refine (swap_rep _ _ _ _ _ _ _ _ _ _ H.out HR.out hp (Nat.lt_succ_self n)).mono ?_
  rintro e w1 ⟨rfl, ⟨pl1, hm1, hr1⟩, ho1⟩
  obtain ⟨i, hi, hi'⟩ := rep_nat hr1 (Nat.lt_succ_self n)
  have hfp : (sw f p n n).1 = (f p).1 := by rw [sw_right]
  have HI := Lib.hid hi
  have HFP := Lib.hid hfp
  have hle := hm1.le
  have hmx := hm1.max
  have hlh := hm1.P.lt
  have hlg := hm1.E.lt
  have hne := hm1.ne
  have d0 := hm1.P.cell0
  have d1 := hm1.P.free 0
  have d2 := hm1.P.free (1 + i)
  have d3 := hm1.P.cell hi'
  have e1 := hm1.E.cell1 (Nat.lt_succ_self n)
  rw [hi] at e1
  have HM1 := Lib.hid hm1
  have HR1 := Lib.hid hr1
  have HO1 := Lib.hid ho1
  have HM2 : Hid (HM ((w1.setCell ⟨hb, 1 + i, none⟩ (.int .i64 0)).setCell ⟨hb, 0, none⟩ (.slice (some ⟨g, 0, none⟩) n cap)).drew hb g cap n (sw f p n) (updp pl1 i 0)) :=
    ⟨hne, by omega, hmx, ((hm1.P.setp hi' 0).set0 _).drew, (((hm1.E.other (Ne.symm hne) _).other (Ne.symm hne) _).less (Nat.le_succ n)).drew⟩
  have HR2 : Hid (Rep (sw f p n) n (updp pl1 i 0) (upd m (f p).1 none)) := by have := hr1.cut; rw [hfp] at this; rw [← hi, hfp]; exact this
  have HO2 : Hid (Only (Two hb g) w ((w1.setCell ⟨hb, 1 + i, none⟩ (.int .i64 0)).setCell ⟨hb, 0, none⟩ (.slice (some ⟨g, 0, none⟩) n cap)).drew) := ((ho1.setCell (Or.inl (Or.inl rfl)) _).setCell (Or.inl (Or.inl rfl)) _).drew
  unfold maxLen at hmx
  clear hi hfp hm1 hr1 ho1 c0
  by_cases hpn : p < n
  · have HX1 := Lib.hid (cut_hx HH.out hpn)
    go_wp2_with fail
    go_region
    all_goals
      go_wp2_with fail
      refine (rise_any _ hb g cap n _ _ _ p HM2.out HR2.out HX1.out hpn).mono ?_
      rintro e w3 ⟨rfl, ⟨f3, pl3, hm3, hr3, hx3, hu3, _⟩, ho3⟩
      have HM3 := Lib.hid hm3
      have HR3 := Lib.hid hr3
      have HX3 := Lib.hid hx3
      have HU3 := Lib.hid hu3
      have HO3 := Lib.hid ho3
      clear hm3 hr3 hx3 hu3 ho3
      go_wp2_with fail
      refine (sink_any _ hb g cap n _ _ _ p HM3.out HR3.out HX3.out HU3.out hpn (by omega)).mono ?_
      rintro e w4 ⟨rfl, h4, ho4⟩
      have HF : Hid (HpP hb g cap n (upd m (f p).1 none) w (.returned (.tuple #[])) w4) := ⟨rfl, h4, (HO2.out.trans HO3.out).trans ho4⟩
      clear h4 ho4
      go_wp2_with fail
      go_end0
      exact HF
  · obtain rfl : p = n := by omega
    have HF : Hid (HpP hb g cap p (upd m (f p).1 none) w (.returned (.tuple #[])) ((w1.setCell ⟨hb, 1 + i, none⟩ (.int .i64 0)).setCell ⟨hb, 0, none⟩ (.slice (some ⟨g, 0, none⟩) p cap)).drew) :=
      ⟨rfl, ⟨_, _, HM2.out, HR2.out, cut_last HH.out⟩, HO2.out⟩
    go_wp2_with fail
    go_region
    all_goals
      go_wp2_with fail
      go_end0
      exact HF

end Go.Proofs.YtkkmfpllgjoceaaGreat.Rq

namespace Go.Proofs.YtkkmfpllgjoceaaGreat.Rq
open Go.RowKit Rk
set_option linter.unusedVariables false
set_option maxRecDepth 100000

theorem below_drewN {B : Nat} {a w : World} (h : Below B a w) (n : Nat) : Below B a (w.drewN n) := ⟨h.os, h.tape, h.output, h.size, h.block⟩
/-- a rank at block rb stands for n ids with keys -/
structure RK (w : World) (rb hb g n : Nat) (m : Mp) : Prop where
  R : w.heap[rb]? = some (.cells #[.pointer (some ⟨hb, 0, none⟩)] 192 (0, 0))
  n1 : rb ≠ hb
  n2 : rb ≠ g
  S : ∃ f pl v, HN w hb g n f pl v ∧ Rep f n pl m ∧ Heap f n
def Three (rb hb g : Nat) (k : Nat) : Prop := k = rb ∨ k = hb ∨ k = g
theorem RK.keep {w w' : World} {rb hb g n : Nat} {m : Mp} (h : RK w rb hb g n m) (e0 : w'.heap[rb]? = w.heap[rb]?) (e1 : w'.heap[hb]? = w.heap[hb]?) (e2 : w'.heap[g]? = w.heap[g]?) : RK w' rb hb g n m := by
  obtain ⟨f, pl, v, h1, h2, h3⟩ := h.S
  exact ⟨e0.trans h.R, h.n1, h.n2, f, pl, v, h1.keep e1 e2, h2, h3⟩
theorem RK.lt0 {w : World} {rb hb g n : Nat} {m : Mp} (h : RK w rb hb g n m) : rb < w.heap.size := lt_of_heap h.R
theorem RK.lt1 {w : World} {rb hb g n : Nat} {m : Mp} (h : RK w rb hb g n m) : hb < w.heap.size := by obtain ⟨f, pl, v, h1, _⟩ := h.S; exact h1.P.lt
theorem RK.lt2 {w : World} {rb hb g n : Nat} {m : Mp} (h : RK w rb hb g n m) : g < w.heap.size := by obtain ⟨f, pl, v, h1, _⟩ := h.S; exact h1.ltg
theorem RK.only {S : Nat → Prop} {w w' : World} {rb hb g n : Nat} {m : Mp} (h : RK w rb hb g n m) (o : Only S w w') (h0 : ¬ S rb) (h1 : ¬ S hb) (h2 : ¬ S g) : RK w' rb hb g n m :=
  h.keep (o.block _ h.lt0 h0) (o.block _ h.lt1 h1) (o.block _ h.lt2 h2)
theorem RK.below {w w' : World} {rb hb g n : Nat} {m : Mp} (h : RK w rb hb g n m) (b : Below w.heap.size w w') : RK w' rb hb g n m :=
  h.keep (b.block _ h.lt0) (b.block _ h.lt1) (b.block _ h.lt2)
theorem RK.cell {w : World} {rb hb g n : Nat} {m : Mp} (h : RK w rb hb g n m) : w.cell? ⟨rb, 0, none⟩ = some (.pointer (some ⟨hb, 0, none⟩)) := cell_of_one h.R

/-- a call of a rank -/
def OpP (v : Value) (rb hb g n : Nat) (m : Mp) (w : World) (e : Ending) (w' : World) : Prop :=
  e = .returned v ∧ (∃ g', RK w' rb hb g' n m ∧ (g' = g ∨ w.heap.size ≤ g')) ∧ Only (Two hb g) w w'
theorem OpP.same {v : Value} {rb hb g n : Nat} {m : Mp} {w : World} (h : RK w rb hb g n m) : OpP v rb hb g n m w (.returned v) w := ⟨rfl, ⟨g, h, Or.inl rfl⟩, Only.refl _ _⟩
theorem OpP.of_below {v : Value} {rb hb g n : Nat} {m : Mp} {w w' : World} (h : RK w rb hb g n m) (b : Below w.heap.size w w') : OpP v rb hb g n m w (.returned v) w' := ⟨rfl, ⟨g, h.below b, Or.inl rfl⟩, Only.of_below b⟩
theorem RK.hpp {e : Ending} {rb hb g cap n n0 : Nat} {m m0 : Mp} {w w' : World} (h : RK w rb hb g n0 m0) (x : HpP hb g cap n m w e w') : OpP (.tuple #[]) rb hb g n m w e w' := by
  obtain ⟨he, ⟨f, pl, h1, h2, h3⟩, ho⟩ := x
  have e0 : w'.heap[rb]? = w.heap[rb]? := ho.block _ h.lt0 (by rintro (e | e); · exact h.n1 e
                                                               · exact h.n2 e)
  exact ⟨he, ⟨g, ⟨e0.trans h.R, h.n1, h.n2, f, pl, _, Or.inl ⟨cap, rfl, h1⟩, h2, h3⟩, Or.inl rfl⟩, ho⟩
theorem RK.pushp {e : Ending} {rb hb g n n0 : Nat} {m m0 : Mp} {w w' : World} (h : RK w rb hb g n0 m0) (x : PushP hb g n m w e w') : OpP (.tuple #[]) rb hb g n m w e w' := by
  obtain ⟨he, ⟨g', cap, f, pl, h1, h2, h3, hg⟩, ho⟩ := x
  have e0 : w'.heap[rb]? = w.heap[rb]? := ho.block _ h.lt0 (by rintro (e | e); · exact h.n1 e
                                                               · exact h.n2 e)
  refine ⟨he, ⟨g', ⟨e0.trans h.R, h.n1, ?_, f, pl, _, Or.inl ⟨cap, rfl, h1⟩, h2, h3⟩, hg⟩, ho⟩
  rcases hg with e | e
  · rw [e]; exact h.n2
  · have := h.lt0; omega
theorem OpP.val {v u : Value} {rb hb g n : Nat} {m : Mp} {w w' : World} {e : Ending} (h : OpP v rb hb g n m w e w') : OpP u rb hb g n m w (.returned u) w' := ⟨rfl, h.2.1, h.2.2⟩

/-- the zero of what is heaped: the same whether the program was loaded in parts or whole -/
def zheap : Array Value := #[.slice none 0 0] ++ Array.replicate 64 (.int .i64 0)
theorem zv_heap (w : World) : (zeroValue 190).run Tryz.prog w = .ok (.agg zheap) w := by kernel_rfl
theorem zheap_size : zheap.size = 65 := by kernel_rfl
theorem zheap_ne : ¬ zheap = #[] := by intro h; have := zheap_size; rw [h] at this; cases this
theorem pl_new (w : World) (o : Obj) (c : Array Value) (hc : c = #[.slice none 0 0] ++ Array.replicate 64 (.int .i64 0)) : PL ((w.alloc (.cells c 190)).alloc o) w.heap.size (.slice none 0 0) (fun _ => 0) := by
  refine ⟨_, heap_alloc2_old w _ _, ?_, ?_, fun i hi => ?_⟩
  · rw [hc]; simp
  · rw [hc]; rfl
  · rw [hc, Array.getElem?_append_right (by simp)]
    have : 1 + i - #[Value.slice none 0 0].size = i := by simp
    rw [this, Array.getElem?_replicate, if_pos hi]
theorem rk_new (w : World) (c : Array Value) (hc : c = #[.slice none 0 0] ++ Array.replicate 64 (.int .i64 0)) : RK ((w.alloc (.cells c 190)).alloc (.cells #[.pointer (some ⟨w.heap.size, 0, none⟩)] 192)) (w.heap.size + 1) w.heap.size w.heap.size 0 (fun _ => none) :=
  ⟨heap_alloc2_new w _ _, by omega, by omega, _, _, _, Or.inr ⟨rfl, rfl, rfl, pl_new w _ c hc⟩, Rep.zero, fun i h0 h1 => by omega⟩
set_option maxRecDepth 100000 in
set_option maxHeartbeats 1000000 in
theorem new_any (w : World) : Calls Tryz.prog 99 #[] w (fun e w' => e = .returned (.pointer (some ⟨w.heap.size + 1, 0, none⟩)) ∧ Hid (RK w' (w.heap.size + 1) w.heap.size w.heap.size 0 (fun _ => none)) ∧ Hid (Below w.heap.size w w')) := by
  have hz1 := zv_heap
  have hz2 := zheap_size
  have hz3 := zheap_ne
  go_enter Tryz.func99, Tryz.ntmps99
  go_wp2_with fail
  go_ret
  exact ⟨rfl, rk_new w _ (by kernel_rfl), ((Below.refl _ _).alloc (Nat.le_refl _) _).alloc (by simp) _⟩

theorem isNone_any (w : World) (rb hb : Nat) (hc : w.cell? ⟨rb, 0, none⟩ = some (.pointer (some ⟨hb, 0, none⟩))) : Calls Tryz.prog 188 #[.pointer (some ⟨rb, 0, none⟩)] w (IsB false w) := by
  go_enter Tryz.func188, Tryz.ntmps188
  go_wp2
  go_ret
  exact ⟨rfl, rfl⟩

def putE (m : Mp) (id : Int) : Int := if id < 0 ∨ 63 < id then 9 else if (m id).isSome then 141 else 0
def putM (m : Mp) (id k : Int) : Mp := if putE m id = 0 then upd m id (some k) else m
def putN (m : Mp) (id : Int) (n : Nat) : Nat := if putE m id = 0 then n + 1 else n
theorem put_bad {m : Mp} {id : Int} (k : Int) (n : Nat) (h : id < 0 ∨ 63 < id) : putE m id = 9 ∧ putM m id k = m ∧ putN m id n = n := by
  have : putE m id = 9 := if_pos h
  simp [putM, putN, this]
theorem put_busy {m : Mp} {id : Int} (k : Int) (n : Nat) {k0 : Int} (h : 0 ≤ id ∧ id ≤ 63) (hm : m id = some k0) : putE m id = 141 ∧ putM m id k = m ∧ putN m id n = n := by
  have : putE m id = 141 := by unfold putE; rw [if_neg (by omega), hm]; rfl
  simp [putM, putN, this]
theorem put_ok {m : Mp} {id : Int} (k : Int) (n : Nat) (h : 0 ≤ id ∧ id ≤ 63) (hm : m id = none) : putE m id = 0 ∧ putM m id k = upd m id (some k) ∧ putN m id n = n + 1 := by
  have : putE m id = 0 := by unfold putE; rw [if_neg (by omega), hm]; rfl
  simp [putM, putN, this]

set_option maxHeartbeats 1000000 in
theorem put_any (w : World) (rb hb g n : Nat) (m : Mp) (id k : Int) (h : RK w rb hb g n m) (hN : n ≤ 100000) :
    Calls Tryz.prog 154 #[.pointer (some ⟨rb, 0, none⟩), .int .i64 id, .int .i64 k] w (OpP (.int .i64 (putE m id)) rb hb g (putN m id n) (putM m id k) w) := by
  have c0 := h.cell
  have hlr := h.lt0
  have H := Lib.hid h
  obtain ⟨f, pl, v, hn, hr, hh⟩ := h.S
  have HN' := Lib.hid hn
  have HR := Lib.hid hr
  have HH := Lib.hid hh
  clear h hn hr hh
  have HNone := Lib.hid (isNone_any w rb hb c0)
  by_cases hid : 0 ≤ id ∧ id ≤ 63
  · obtain ⟨i, rfl⟩ : ∃ i : Nat, id = i := ⟨id.toNat, by omega⟩
    have hi : i < 64 := by omega
    cases hm : m i with
    | some k0 =>
      obtain ⟨e1, e2, e3⟩ := put_busy (m := m) k n hid hm
      rw [e1, e2, e3]
      obtain ⟨p, hp, _, hpl⟩ := HR.out.place hm
      have HP := Lib.hid (place_yes hb v pl i p w HN'.out.P hi hpl (by omega))
      clear e1 e2 e3 hm hpl hid
      go_enter Tryz.func154, Tryz.ntmps154
      go_wp2_with fail
      refine HNone.out.mono ?_
      rintro e w' ⟨rfl, rfl⟩
      go_wp2_with fail
      refine (mayBe_yes _ _ hi).mono ?_
      rintro e w' ⟨rfl, rfl⟩
      go_wp2_with fail
      refine HP.out.mono ?_
      rintro e w' ⟨rfl, rfl⟩
      go_wp2_with fail
      go_ret
      exact OpP.same H.out
    | none =>
      obtain ⟨e1, e2, e3⟩ := put_ok (m := m) k n hid hm
      rw [e1, e2, e3]
      have HP := Lib.hid (place_no hb v pl i w HN'.out.P hi (HR.out.non _ (by omega) (by omega) hm))
      have HM' := Lib.hid hm
      clear e1 e2 e3 hm hid
      go_enter Tryz.func154, Tryz.ntmps154
      go_wp2_with fail
      refine HNone.out.mono ?_
      rintro e w' ⟨rfl, rfl⟩
      go_wp2_with fail
      refine (mayBe_yes _ _ hi).mono ?_
      rintro e w' ⟨rfl, rfl⟩
      go_wp2_with fail
      refine HP.out.mono ?_
      rintro e w' ⟨rfl, rfl⟩
      go_wp2_with fail
      refine (push_any w hb g n f pl v m i k HN'.out HR.out HH.out hi HM'.out hN).mono ?_
      intro e w' hpp
      have HF := Lib.hid (H.out.pushp hpp)
      obtain ⟨rfl, _⟩ := hpp
      go_wp2_with fail
      go_ret
      exact HF.out.val
  · obtain ⟨e1, e2, e3⟩ := put_bad (m := m) (id := id) k n (by omega)
    rw [e1, e2, e3]
    have HB : Hid (Calls Tryz.prog 192 #[.int .i64 id] w (IsB false w)) := by
      by_cases h0 : id < 0
      · exact mayBe_lo _ _ h0
      · exact mayBe_hi _ _ (by omega)
    clear e1 e2 e3 hid
    go_enter Tryz.func154, Tryz.ntmps154
    go_wp2_with fail
    refine HNone.out.mono ?_
    rintro e w' ⟨rfl, rfl⟩
    go_wp2_with fail
    refine HB.out.mono ?_
    rintro e w' ⟨rfl, rfl⟩
    go_wp2_with fail
    go_ret
    exact OpP.same H.out


def lowE (m : Mp) (id k : Int) : Int := if id < 0 ∨ 63 < id then 9 else match m id with | none => 8 | some k0 => if k0 < k then 2 else 0
def lowM (m : Mp) (id k : Int) : Mp := if lowE m id k = 0 then upd m id (some k) else m
theorem low_bad {m : Mp} {id : Int} (k : Int) (h : id < 0 ∨ 63 < id) : lowE m id k = 9 ∧ lowM m id k = m := by
  have : lowE m id k = 9 := if_pos h
  simp [lowM, this]
theorem low_none {m : Mp} {id : Int} (k : Int) (h : 0 ≤ id ∧ id ≤ 63) (hm : m id = none) : lowE m id k = 8 ∧ lowM m id k = m := by
  have : lowE m id k = 8 := by unfold lowE; rw [if_neg (by omega), hm]
  simp [lowM, this]
theorem low_hi {m : Mp} {id k k0 : Int} (h : 0 ≤ id ∧ id ≤ 63) (hm : m id = some k0) (hk : k0 < k) : lowE m id k = 2 ∧ lowM m id k = m := by
  have : lowE m id k = 2 := by unfold lowE; rw [if_neg (by omega), hm]; exact if_pos hk
  simp [lowM, this]
theorem low_ok {m : Mp} {id k k0 : Int} (h : 0 ≤ id ∧ id ≤ 63) (hm : m id = some k0) (hk : k ≤ k0) : lowE m id k = 0 ∧ lowM m id k = upd m id (some k) := by
  have : lowE m id k = 0 := by unfold lowE; rw [if_neg (by omega), hm]; exact if_neg (by omega)
  simp [lowM, this]
theorem Rk.Rep.pos {f : Nat → En} {n : Nat} {pl : Int → Int} {m : Mp} (h : Rep f n pl m) {id k : Int} (hm : m id = some k) : 0 < n := by obtain ⟨_, _, i, hi, _⟩ := h.has id k hm; omega
theorem HN.hm {w : World} {hb g n : Nat} {f : Nat → En} {pl : Int → Int} {v : Value} (h : HN w hb g n f pl v) (hn : 0 < n) : ∃ cap, v = .slice (some ⟨g, 0, none⟩) n cap ∧ HM w hb g cap n f pl := by
  rcases h with h | ⟨h, _⟩
  · exact h
  · omega

theorem bad_mayBe {id : Int} (w : World) (h : ¬ (0 ≤ id ∧ id ≤ 63)) : Calls Tryz.prog 192 #[.int .i64 id] w (IsB false w) := by
  by_cases h0 : id < 0
  · exact mayBe_lo _ _ h0
  · exact mayBe_hi _ _ (by omega)
theorem place_bad (hb : Nat) (id : Int) (w : World) (h : ¬ (0 ≤ id ∧ id ≤ 63)) : Calls Tryz.prog 189 #[.pointer (some ⟨hb, 0, none⟩), .int .i64 id] w (Plc 0 false w) := by
  have HB := Lib.hid (bad_mayBe w h)
  clear h
  go_enter Tryz.func189, Tryz.ntmps189
  go_wp2_with fail
  refine HB.out.mono ?_
  rintro e w' ⟨rfl, rfl⟩
  go_wp2_with fail
  go_ret2
  exact ⟨rfl, rfl⟩
theorem Rk.Rep.bad {f : Nat → En} {n : Nat} {pl : Int → Int} {m : Mp} (h : Rep f n pl m) {id : Int} (hid : ¬ (0 ≤ id ∧ id ≤ 63)) : m id = Option.none := by
  cases hm : m id with
  | none => rfl
  | some k => have := h.has id k hm; omega

def remN (m : Mp) (id : Int) (n : Nat) : Nat := if (m id).isSome then n - 1 else n
theorem upd_none {m : Mp} {id : Int} (h : m id = none) : upd m id none = m := by
  funext j; unfold upd; split
  · rename_i e; rw [e, h]
  · rfl
set_option maxHeartbeats 1000000 in
theorem rem_any (w : World) (rb hb g n : Nat) (m : Mp) (id : Int) (h : RK w rb hb g n m) (hN : n ≤ 100000) :
    Calls Tryz.prog 149 #[.pointer (some ⟨rb, 0, none⟩), .int .i64 id] w (OpP (.bool (m id).isSome) rb hb g (remN m id n) (upd m id none) w) := by
  have c0 := h.cell
  have hlr := h.lt0
  have H := Lib.hid h
  obtain ⟨f, pl, v, hn, hr, hh⟩ := h.S
  have HN' := Lib.hid hn
  have HR := Lib.hid hr
  have HH := Lib.hid hh
  clear h hn hr hh
  have HNone := Lib.hid (isNone_any w rb hb c0)
  by_cases hid : 0 ≤ id ∧ id ≤ 63
  · obtain ⟨i, rfl⟩ : ∃ i : Nat, id = i := ⟨id.toNat, by omega⟩
    have hi : i < 64 := by omega
    cases hm : m i with
    | none =>
      have en : remN m i n = n := by unfold remN; rw [hm]; rfl
      rw [en, upd_none hm]
      have HP := Lib.hid (place_no hb v pl i w HN'.out.P hi (HR.out.non _ (by omega) (by omega) hm))
      clear en hm hid
      go_enter Tryz.func149, Tryz.ntmps149
      go_wp2_with fail
      refine HNone.out.mono ?_
      rintro e w' ⟨rfl, rfl⟩
      go_wp2_with fail
      refine HP.out.mono ?_
      rintro e w' ⟨rfl, rfl⟩
      go_wp2_with fail
      go_ret
      exact OpP.same H.out
    | some k0 =>
      obtain ⟨p, hp, hf, hpl⟩ := HR.out.place hm
      obtain ⟨cap, hv, hH⟩ := HN'.out.hm (by omega)
      obtain ⟨n', rfl⟩ : ∃ n', n = n' + 1 := ⟨n - 1, by omega⟩
      have en : remN m i (n' + 1) = n' := by unfold remN; rw [hm]; rfl
      rw [en]
      have HP := Lib.hid (place_yes hb v pl i p w HN'.out.P hi hpl (by omega))
      have HT := Lib.hid (take_any w hb g cap n' f pl m p hH HR.out HH.out hp (by omega))
      rw [hf] at HT
      clear hf hv hH hpl en hm hid
      go_enter Tryz.func149, Tryz.ntmps149
      go_wp2_with fail
      refine HNone.out.mono ?_
      rintro e w' ⟨rfl, rfl⟩
      go_wp2_with fail
      refine HP.out.mono ?_
      rintro e w' ⟨rfl, rfl⟩
      go_wp2_with fail
      refine HT.out.mono ?_
      intro e w' hpp
      have HF := Lib.hid (H.out.hpp hpp)
      obtain ⟨rfl, _⟩ := hpp
      go_wp2_with fail
      go_ret
      exact HF.out.val
  · have hm : m id = none := HR.out.bad hid
    have en : remN m id n = n := by unfold remN; rw [hm]; rfl
    rw [en, upd_none hm, hm]
    have HP := Lib.hid (place_bad hb id w hid)
    clear en hm hid
    go_enter Tryz.func149, Tryz.ntmps149
    go_wp2_with fail
    refine HNone.out.mono ?_
    rintro e w' ⟨rfl, rfl⟩
    go_wp2_with fail
    refine HP.out.mono ?_
    rintro e w' ⟨rfl, rfl⟩
    go_wp2_with fail
    go_ret
    exact OpP.same H.out

set_option maxHeartbeats 400000 in
theorem len_any (w : World) (rb hb g n : Nat) (m : Mp) (h : RK w rb hb g n m) : Calls Tryz.prog 172 #[.pointer (some ⟨rb, 0, none⟩)] w (IsN n w) := by
  have c0 := h.cell
  obtain ⟨f, pl, v, hn, hr, hh⟩ := h.S
  obtain ⟨a, cap, hv⟩ := hn.slice
  have c1 := hn.P.cell0
  rw [hv] at c1
  have HNone := Lib.hid (isNone_any w rb hb c0)
  clear h hn hr hh hv
  go_enter Tryz.func172, Tryz.ntmps172
  go_wp2_with fail
  refine HNone.out.mono ?_
  rintro e w' ⟨rfl, rfl⟩
  go_wp2_with fail
  go_ret
  exact ⟨rfl, rfl⟩

/-- x comes ahead of all others -/
def IsFirst (m : Mp) (x : En) : Prop := m x.1 = some x.2 ∧ ∀ id k, m id = some k → le x (id, k)
def Fst (a b : Int) (c : Bool) (w : World) (e : Ending) (w' : World) : Prop := e = .returned (.tuple #[.int .i64 a, .int .i64 b, .bool c]) ∧ Below w.heap.size w w'
def FstP (x : En) (w : World) (e : Ending) (w' : World) : Prop := Fst x.1 x.2 true w e w'
theorem RK.none {w : World} {rb hb g : Nat} {m : Mp} (h : RK w rb hb g 0 m) (id : Int) : m id = Option.none := by obtain ⟨f, pl, v, hn, hr, hh⟩ := h.S; exact hr.none id
theorem RK.first {w : World} {rb hb g n : Nat} {m : Mp} (h : RK w rb hb g n m) (hn : 0 < n) : ∃ x, IsFirst m x := by obtain ⟨f, pl, v, _, hr, hh⟩ := h.S; exact ⟨_, hr.first hh hn⟩

set_option maxHeartbeats 400000 in
theorem first_none (w : World) (rb hb g : Nat) (m : Mp) (h : RK w rb hb g 0 m) : Calls Tryz.prog 127 #[.pointer (some ⟨rb, 0, none⟩)] w (Fst 0 0 false w) := by
  have HL := Lib.hid (len_any w rb hb g 0 m h)
  clear h
  go_enter Tryz.func127, Tryz.ntmps127
  go_wp2_with fail
  refine HL.out.mono ?_
  rintro e w' ⟨rfl, rfl⟩
  go_wp2_with fail
  go_ret3
  exact ⟨rfl, Below.refl _ _⟩
set_option maxHeartbeats 1000000 in
theorem first_some (w : World) (rb hb g n : Nat) (m : Mp) (x : En) (h : RK w rb hb g n m) (hn : 0 < n) (hx : IsFirst m x) : Calls Tryz.prog 127 #[.pointer (some ⟨rb, 0, none⟩)] w (FstP x w) := by
  have HL := Lib.hid (len_any w rb hb g n m h)
  have c0 := h.cell
  obtain ⟨f, pl, v, hn', hr, hh⟩ := h.S
  obtain ⟨cap, hv, hH⟩ := hn'.hm hn
  have ex : f 0 = x := first_same (hr.first hh hn) hx
  have c1 := hH.P.cell0
  have e1 := hH.E.cell1 hn
  have e2 := hH.E.cell2 hn
  rw [ex] at e1 e2
  obtain ⟨x1, x2⟩ := x
  dsimp only at e1 e2
  have hle := hH.le
  have hmx := hH.max
  have hz : ((n : Int) == 0) = false := by simp; omega
  have hlg := hH.E.lt
  unfold maxLen at hmx
  simp only [Nat.zero_mul, Nat.zero_add] at e1 e2
  clear h hn' hr hh hv hH ex hx
  go_enter Tryz.func127, Tryz.ntmps127
  go_wp2_with fail
  refine HL.out.mono ?_
  rintro e w' ⟨rfl, rfl⟩
  go_wp2_with fail
  go_quiet (fail)
  go_wp2_with fail
  go_ret3
  exact ⟨rfl, below_drewN ((Below.refl _ _).alloc (Nat.le_refl _) _) _⟩

def PopP (x : En) (rb hb g n : Nat) (m : Mp) (w : World) (e : Ending) (w' : World) : Prop := OpP (.tuple #[.int .i64 x.1, .int .i64 x.2, .bool true]) rb hb g n m w e w'
theorem OpP.after {v : Value} {rb hb g n n0 : Nat} {m m0 : Mp} {w w1 w' : World} {e : Ending} (b : Below w.heap.size w w1) (h : OpP v rb hb g n m w1 e w') : OpP v rb hb g n m w e w' := by
  obtain ⟨he, ⟨g', h1, h2⟩, h3⟩ := h
  have := b.size
  exact ⟨he, ⟨g', h1, by omega⟩, (Only.of_below b).trans h3⟩
def KeyP (k : Int) (b : Bool) (w : World) (e : Ending) (w' : World) : Prop := e = .returned (.tuple #[.int .i64 k, .bool b]) ∧ w = w'
def keyN (m : Mp) (id : Int) : Int := (m id).getD 0
end Go.Proofs.YtkkmfpllgjoceaaGreat.Rq

namespace Go.Proofs.YtkkmfpllgjoceaaGreat.Rq
open Go.RowKit Rk Rd
set_option linter.unusedVariables false
set_option maxRecDepth 100000

/-- a queue at block qb, whose rank is at rb, stands for the row L -/
structure QS (w : World) (qb rb hb g : Nat) (L : List Int) : Prop where
  q : w.heap[qb]? = some (.cells #[.pointer (some ⟨rb, 0, none⟩), .int .i64 L.length] 131 (0, 0))
  k : RK w rb hb g (srt L).length (mp L)
  ok : Gd L
  n1 : qb ≠ hb
  n2 : qb ≠ g
theorem QS.c0 {w : World} {qb rb hb g : Nat} {L : List Int} (h : QS w qb rb hb g L) : w.cell? ⟨qb, 0, none⟩ = some (.pointer (some ⟨rb, 0, none⟩)) := cell_of_row _ _ 0 _ _ _ h.q
theorem QS.c1 {w : World} {qb rb hb g : Nat} {L : List Int} (h : QS w qb rb hb g L) : w.cell? ⟨qb, 1, none⟩ = some (.int .i64 L.length) := cell_of_row _ _ 1 _ _ _ h.q
theorem QS.lt {w : World} {qb rb hb g : Nat} {L : List Int} (h : QS w qb rb hb g L) : qb < w.heap.size := lt_of_heap h.q
theorem QS.sz {w : World} {qb rb hb g : Nat} {L : List Int} (h : QS w qb rb hb g L) : (srt L).length ≤ 100000 := by have := srt_len L; have := h.ok.len; omega
theorem QS.keep {w w' : World} {qb rb hb g : Nat} {L : List Int} (h : QS w qb rb hb g L) (e0 : w'.heap[qb]? = w.heap[qb]?) (e1 : w'.heap[rb]? = w.heap[rb]?) (e2 : w'.heap[hb]? = w.heap[hb]?) (e3 : w'.heap[g]? = w.heap[g]?) : QS w' qb rb hb g L :=
  ⟨e0.trans h.q, h.k.keep e1 e2 e3, h.ok, h.n1, h.n2⟩
theorem QS.only {S : Nat → Prop} {w w' : World} {qb rb hb g : Nat} {L : List Int} (h : QS w qb rb hb g L) (o : Only S w w') (h0 : ¬ S qb) (h1 : ¬ S rb) (h2 : ¬ S hb) (h3 : ¬ S g) : QS w' qb rb hb g L :=
  h.keep (o.block _ h.lt h0) (o.block _ h.k.lt0 h1) (o.block _ h.k.lt1 h2) (o.block _ h.k.lt2 h3)
theorem QS.below {w w' : World} {qb rb hb g : Nat} {L : List Int} (h : QS w qb rb hb g L) (b : Below w.heap.size w w') : QS w' qb rb hb g L :=
  h.keep (b.block _ h.lt) (b.block _ h.k.lt0) (b.block _ h.k.lt1) (b.block _ h.k.lt2)
/-- a call of a queue: an answer; the queue behind it -/
def QP (v : Value) (qb rb hb g : Nat) (L : List Int) (w : World) (e : Ending) (w' : World) : Prop :=
  e = .returned v ∧ (∃ g', QS w' qb rb hb g' L ∧ (g' = g ∨ w.heap.size ≤ g')) ∧ Only (Two hb g) w w'
theorem QP.same {v : Value} {qb rb hb g : Nat} {L : List Int} {w : World} (h : QS w qb rb hb g L) : QP v qb rb hb g L w (.returned v) w := ⟨rfl, ⟨g, h, Or.inl rfl⟩, Only.refl _ _⟩
theorem QS.op {v u : Value} {e : Ending} {qb rb hb g : Nat} {L L' : List Int} {w w' : World} (h : QS w qb rb hb g L) (ok : Gd L') (hl : L'.length = L.length) (o : OpP v rb hb g (srt L').length (mp L') w e w') : QP u qb rb hb g L' w (.returned u) w' := by
  obtain ⟨_, ⟨g', h1, h2⟩, h3⟩ := o
  have hlt := h.lt
  refine ⟨rfl, ⟨g', ⟨?_, h1, ok, h.n1, ?_⟩, h2⟩, h3⟩
  · rw [hl]
    exact (h3.block qb hlt (by rintro (e | e); · exact h.n1 e
                               · exact h.n2 e)).trans h.q
  · rcases h2 with rfl | h2
    · exact h.n2
    · omega

/-- a pointer is answered, nothing has turned -/
def IsV (v : Value) (w : World) (e : Ending) (w' : World) : Prop := e = .returned v ∧ w = w'
theorem kept_cell {w : World} {qb : Nat} {v : Value} (c0 : w.cell? ⟨qb, 0, none⟩ = some v) : Calls Tryz.prog 126 #[.pointer (some ⟨qb, 0, none⟩)] w (IsV v w) := by
  go_enter Tryz.func126, Tryz.ntmps126
  go_wp2_with fail
  go_ret
  exact ⟨rfl, rfl⟩
theorem kept_nil (w : World) : Calls Tryz.prog 126 #[.pointer none] w (IsV (.pointer none) w) := by
  go_enter Tryz.func126, Tryz.ntmps126
  go_wp2_with fail
  go_ret
  exact ⟨rfl, rfl⟩

set_option maxHeartbeats 2000000 in
theorem qput_any {w : World} {qb rb hb g : Nat} {L : List Int} (h : QS w qb rb hb g L) (t d : Int) : Calls Tryz.prog 91 #[.pointer (some ⟨qb, 0, none⟩), .int .i64 t, .int .i64 d] w (QP (.int .i64 (qE L t d)) qb rb hb g (qL L t d) w) := by
  have c0 := h.c0
  have c1 := h.c1
  have HK := Lib.hid (kept_cell c0)
  have hlen := h.ok.len
  have H := Lib.hid h
  obtain ⟨N, hN⟩ : ∃ N : Nat, N = L.length := ⟨_, rfl⟩
  have HPUT := Lib.hid (put_any w rb hb g (srt L).length (mp L) t d h.k h.sz)
  rcases qE_cases L t d with ⟨q1, q⟩ | ⟨q1, q2, q3, q⟩ | ⟨q1, q2, q3, q4, q5, q⟩ | ⟨q1, q2, q3, q4, q5, q⟩
  · have e1 : qL L t d = L := if_neg (by rw [q]; decide)
    rw [q, e1]
    rw [← hN] at c1 q1 hlen
    clear h q e1 HPUT
    rcases Int.lt_or_le t 0 with q2 | q2
    · have d1 : decide (t < 0) = true := by simpa using q2
      go_enter Tryz.func91, Tryz.ntmps91
      go_wp2_with fail
      refine HK.out.mono ?_
      rintro e w' ⟨rfl, rfl⟩
      go_wp2_with fail
      go_ret
      exact QP.same H.out
    · have d1 : decide (t < 0) = false := by simpa using q2
      have d2 : decide ((N : Int) ≤ t) = true := by simp; omega
      go_enter Tryz.func91, Tryz.ntmps91
      go_wp2_with fail
      refine HK.out.mono ?_
      rintro e w' ⟨rfl, rfl⟩
      go_wp2_with fail
      go_ret
      exact QP.same H.out
  · have e1 : qL L t d = L := if_neg (by rw [q]; decide)
    rw [q, e1]
    rw [← hN] at c1 q2 hlen
    clear h q e1 HPUT
    have d1 : decide (t < 0) = false := by simpa using q1
    have d2 : decide ((N : Int) ≤ t) = false := by simp; omega
    rcases Int.lt_or_le d 0 with q4 | q4
    · have d3 : decide (d < 0) = true := by simpa using q4
      go_enter Tryz.func91, Tryz.ntmps91
      go_wp2_with fail
      refine HK.out.mono ?_
      rintro e w' ⟨rfl, rfl⟩
      go_wp2_with fail
      go_ret
      exact QP.same H.out
    · have d3 : decide (d < 0) = false := by simpa using q4
      have d4 : decide (1099511627840 < d) = true := by simp; omega
      go_enter Tryz.func91, Tryz.ntmps91
      go_wp2_with fail
      refine HK.out.mono ?_
      rintro e w' ⟨rfl, rfl⟩
      go_wp2_with fail
      go_ret
      exact QP.same H.out
  · have e1 : qL L t d = L := if_neg (by rw [q]; decide)
    obtain ⟨p1, p2, p3⟩ := put_busy (m := mp L) (id := t) d (srt L).length (by omega) (mp_some q5)
    rw [p1, p2, p3] at HPUT
    rw [q, e1]
    rw [← hN] at c1 q2 hlen
    have d1 : decide (t < 0) = false := by simpa using q1
    have d2 : decide ((N : Int) ≤ t) = false := by simp; omega
    have d3 : decide (d < 0) = false := by simpa using q3
    have d4 : decide (1099511627840 < d) = false := by simpa using q4
    clear h q e1 p1 p2 p3 q5
    go_enter Tryz.func91, Tryz.ntmps91
    go_wp2_with fail
    refine HK.out.mono ?_
    rintro e w' ⟨rfl, rfl⟩
    go_wp2_with fail
    refine HPUT.out.mono ?_
    intro e w' hpp
    have HF := Lib.hid hpp
    obtain ⟨rfl, _⟩ := hpp
    go_wp2_with fail
    go_ret
    exact H.out.op H.out.ok rfl HF.out
  · have e1 : qL L t d = L.set t.toNat d := if_pos q
    obtain ⟨p1, p2, p3⟩ := put_ok (m := mp L) (id := t) d (srt L).length (by omega) (mp_none q5)
    rw [p1, p2, p3, ← mp_set q1 q2 q3, ← len_put q1 q2 q3 q5] at HPUT
    have HG := Lib.hid (h.ok.put t d)
    rw [e1] at HG
    rw [q, e1]
    rw [← hN] at c1 q2 hlen
    have d1 : decide (t < 0) = false := by simpa using q1
    have d2 : decide ((N : Int) ≤ t) = false := by simp; omega
    have d3 : decide (d < 0) = false := by simpa using q3
    have d4 : decide (1099511627840 < d) = false := by simpa using q4
    clear h q e1 p1 p2 p3 q5
    go_enter Tryz.func91, Tryz.ntmps91
    go_wp2_with fail
    refine HK.out.mono ?_
    rintro e w' ⟨rfl, rfl⟩
    go_wp2_with fail
    refine HPUT.out.mono ?_
    intro e w' hpp
    have HF := Lib.hid hpp
    obtain ⟨rfl, _⟩ := hpp
    go_wp2_with fail
    go_ret
    exact H.out.op HG.out (by simp) HF.out
theorem qrem_any {w : World} {qb rb hb g : Nat} {L : List Int} (h : QS w qb rb hb g L) (t : Int) : Calls Tryz.prog 87 #[.pointer (some ⟨qb, 0, none⟩), .int .i64 t] w (QP (.bool (decide (0 ≤ dl L t))) qb rb hb g (rmL L t) w) := by
  have HK := Lib.hid (kept_cell h.c0)
  have HR := Lib.hid (rem_any w rb hb g (srt L).length (mp L) t h.k h.sz)
  rw [mp_isSome, ← mp_rm] at HR
  have e1 : remN (mp L) t (srt L).length = (srt (rmL L t)).length := by
    unfold remN
    rw [mp_isSome]
    by_cases q : 0 ≤ dl L t
    · rw [if_pos (by simpa using q)]
      have := len_rm q
      omega
    · rw [if_neg (by simpa using q)]
      unfold rmL
      rw [if_neg q]
  rw [e1] at HR
  have HG := Lib.hid (h.ok.rm t)
  have H := Lib.hid h
  generalize decide (0 ≤ dl L t) = b at *
  clear h e1
  go_enter Tryz.func87, Tryz.ntmps87
  go_wp2_with fail
  refine HK.out.mono ?_
  rintro e w' ⟨rfl, rfl⟩
  go_wp2_with fail
  refine HR.out.mono ?_
  intro e w' hpp
  have HF := Lib.hid hpp
  obtain ⟨rfl, _⟩ := hpp
  go_wp2_with fail
  go_ret
  exact H.out.op HG.out (rmL_len L t) HF.out
theorem qfirst_any {w : World} {qb rb hb g : Nat} {L : List Int} (h : QS w qb rb hb g L) : Calls Tryz.prog 74 #[.pointer (some ⟨qb, 0, none⟩)] w (Fst (fs L).1 (fs L).2 (decide (0 < (srt L).length)) w) := by
  have HK := Lib.hid (kept_cell h.c0)
  have HF : Hid (Calls Tryz.prog 127 #[.pointer (some ⟨rb, 0, none⟩)] w (Fst (fs L).1 (fs L).2 (decide (0 < (srt L).length)) w)) := by
    have hk := h.k
    by_cases h0 : 0 < (srt L).length
    · rw [decide_eq_true h0]
      exact first_some w rb hb g _ _ (fs L) hk h0 (fs_is h0)
    · have h1 : (srt L).length = 0 := by omega
      rw [decide_eq_false h0, fs_none h1]
      rw [h1] at hk
      exact first_none w rb hb g _ hk
  generalize decide (0 < (srt L).length) = b at *
  generalize fs L = x at *
  obtain ⟨x1, x2⟩ := x
  dsimp only at HF ⊢
  clear h
  go_enter Tryz.func74, Tryz.ntmps74
  go_wp2_with fail
  refine HK.out.mono ?_
  rintro e w' ⟨rfl, rfl⟩
  go_wp2_with fail
  refine HF.out.mono ?_
  rintro e w' ⟨rfl, hb'⟩
  have HB := Lib.hid hb'
  clear hb'
  go_wp2_with fail
  go_ret3
  exact ⟨rfl, HB.out⟩
/-- a task's deadline; 0, if it has no job -/
def dk (L : List Int) (t : Int) : Int := if 0 ≤ dl L t then dl L t else 0
theorem qnew_yes (w : World) {n : Nat} (hn : n ≤ 4) : Calls Tryz.prog 37 #[.int .i64 n] w (fun e w' => ∃ qb rb hb g, e = .returned (.tuple #[.pointer (some ⟨qb, 0, none⟩), .int .i64 0]) ∧ QS w' qb rb hb g (noL n) ∧ (w.heap.size ≤ qb ∧ w.heap.size ≤ rb ∧ w.heap.size ≤ hb ∧ w.heap.size ≤ g) ∧ Below w.heap.size w w') := by
  have HN := Lib.hid (new_any w)
  have hn0 : decide ((n : Int) < 0) = false := by simp
  have hn1 : decide (4 < (n : Int)) = false := by simp; omega
  have HS : Hid (∀ w1 : World, RK w1 (w.heap.size + 1) w.heap.size w.heap.size 0 (fun _ => none) → w.heap.size ≤ w1.heap.size → QS (w1.alloc (.cells #[.pointer (some ⟨w.heap.size + 1, 0, none⟩), .int .i64 n] 131)) w1.heap.size (w.heap.size + 1) w.heap.size w.heap.size (noL n)) := by
    intro w1 hk hs
    have h1 := hk.lt1
    refine ⟨?_, ?_, no_good hn, by omega, by omega⟩
    · rw [no_len]; exact heap_alloc_new w1 _
    · rw [no_srt, no_mp]; exact hk.below ((Below.refl _ _).alloc (Nat.le_refl _) _)
  go_enter Tryz.func37, Tryz.ntmps37
  go_wp2_with fail
  refine HN.out.mono ?_
  rintro e w1 ⟨rfl, hk, hb⟩
  have HK := Lib.hid hk
  have HB := Lib.hid hb
  clear hk hb HN
  go_wp2_with fail
  go_ret2
  have hb : Below w.heap.size w w1 := HB.out.out
  have hs := hb.size
  exact ⟨_, _, _, _, rfl, HS.out w1 HK.out.out hs, ⟨hs, by omega, by omega, by omega⟩, hb.alloc hs _⟩
theorem qnew_no (w : World) {n : Int} (hn : n < 0 ∨ 4 < n) : Calls Tryz.prog 37 #[.int .i64 n] w (IsV (.tuple #[.pointer none, .int .i64 2]) w) := by
  rcases Int.lt_or_le n 0 with h | h
  · have d1 : decide (n < 0) = true := by simpa using h
    go_enter Tryz.func37, Tryz.ntmps37
    go_wp2_with fail
    go_ret2
    exact ⟨rfl, rfl⟩
  · have d1 : decide (n < 0) = false := by simpa using h
    have d2 : decide (4 < n) = true := by simp; omega
    go_enter Tryz.func37, Tryz.ntmps37
    go_wp2_with fail
    go_ret2
    exact ⟨rfl, rfl⟩
end Go.Proofs.YtkkmfpllgjoceaaGreat.Rq

namespace Go.Proofs.YtkkmfpllgjoceaaGreat.Rq
open Go.RowKit Rk Rd Go.Sort
set_option linter.unusedVariables false
set_option maxRecDepth 100000

/-- numbers that can be read -/
def IS (w : World) (v : Value) (xs : List Int) : Prop :=
  ∃ a cap, v = .slice a xs.length cap ∧ xs.length ≤ cap ∧ cap ≤ maxLen ∧ (a = none → cap = 0) ∧ (0 < xs.length → ∃ b off, a = some ⟨b, off, none⟩ ∧ ∀ i, i < xs.length → w.cell? ⟨b, off + i, none⟩ = some (.int .i64 (xs.getD i 0)))
theorem IS.nil (w : World) : IS w (.slice none 0 0) [] := ⟨none, 0, rfl, Nat.le_refl _, Nat.zero_le _, fun _ => rfl, fun h => by cases h⟩
theorem IS.slice {w : World} {v : Value} {xs : List Int} (h : IS w v xs) : ∃ a cap, v = .slice a xs.length cap ∧ xs.length ≤ cap ∧ cap ≤ maxLen := by obtain ⟨a, cap, h1, h2, h3, _⟩ := h; exact ⟨a, cap, h1, h2, h3⟩
theorem IS.below {w w' : World} {v : Value} {xs : List Int} (h : IS w v xs) (q : Below w.heap.size w w') : IS w' v xs := by
  obtain ⟨a, cap, h1, h2, h3, h4, h5⟩ := h
  exact ⟨a, cap, h1, h2, h3, h4, fun hn => by obtain ⟨b, off, e, hc⟩ := h5 hn; exact ⟨b, off, e, fun i hi => (q.cell (World.block_lt_of_cell? w _ (hc i hi))).trans (hc i hi)⟩⟩
theorem IS.at {w : World} {n cap : Nat} {a : Option Addr} {xs : List Int} (h : IS w (.slice a n cap) xs) {i : Nat} (hi : i < n) : ∃ b off, a = some ⟨b, off, none⟩ ∧ w.cell? ⟨b, off + i, none⟩ = some (.int .i64 (xs.getD i 0)) := by
  obtain ⟨a', cap', e, h1, h2, h3, h4⟩ := h
  obtain ⟨rfl, rfl, rfl⟩ : a = a' ∧ n = xs.length ∧ cap = cap' := by simpa using e
  obtain ⟨b, off, rfl, hc⟩ := h4 (by omega)
  exact ⟨b, off, rfl, hc i hi⟩
theorem infoI13 : (Tryz.prog.info? 3).map (fun i => (i.zero, i.size, i.bytes)) = some (some (.int .i64 0), 1, 8) := by kernel_rfl
def nums (xs : List Int) : List Value := xs.map (Value.int .i64)
/-- numbers in a row of the call's own -/
def NR (w : World) (C : Nat) (v : Value) (xs : List Int) : Prop := w.ownsRow C 3 1 v xs.length (nums xs)
theorem NR.nil (w : World) (C : Nat) : NR w C (.slice none 0 0) [] := World.ownsRow_nil w C 3 1
theorem nums_at (xs : List Int) (i : Nat) (h : i < xs.length) : (nums xs)[i]? = some (.int .i64 (xs.getD i 0)) := by
  unfold nums
  rw [List.getElem?_map, List.getElem?_eq_getElem h, List.getD_eq_getElem?_getD, List.getElem?_eq_getElem h]
  rfl
theorem NR.is_form {w : World} {C : Nat} {v : Value} {xs : List Int} (h : NR w C v xs) : ∃ a cap, v = .slice a xs.length cap := by
  rcases h.2 with ⟨rfl, h0⟩ | ⟨g, cap, cur, rfl, _⟩
  · exact ⟨none, 0, by rw [h0]⟩
  · exact ⟨_, _, rfl⟩
theorem wpList_append_eq {P : Program} {w : World} {ops : Array Oper} {rest : List Oper} {o : Oper} {a : Act} {Q : Exit → Act → World → Prop} (hgd : o.guard = none) (s x : Operand) (t u : TypeId)
    (ho : o.op = .call { callee := .builtin .append, args := #[s, x], argTypes := #[t, u] })
    (sv xv v' : Value) (w' : World) (hs : a.eval s = sv) (hx : a.eval x = xv) (hrun : (Builtin.append_ #[t, u] o.type #[sv, xv]).run P w = .ok v' w')
    (h : wpList P ops Q rest (a.put o.dst v') w') : wpList P ops Q (o :: rest) a w := by
  refine wpList_plain hgd fun K hK => ?_
  unfold Oper.wp
  simp [execOp, ho, resolve, invoke, builtin, hs, hx, hrun, Result.andThen]
  exact hK _ _ h
/-- a number more -/
theorem app_num {w : World} {C : Nat} {v : Value} {xs : List Int} (h : NR w C v xs) (x : Int) {g : Nat} (hg : w.heap[g]? = some (.cells #[.int .i64 x] 3 (0, 0))) (hB : C ≤ w.heap.size) (hn : xs.length ≤ 1000) (ty : TypeId) :
    ∃ v' w', (Builtin.append_ #[41, 41] ty #[v, .slice (some ⟨g, 0, none⟩) 1 1]).run Tryz.prog w = .ok v' w' ∧ NR w' C v' (xs ++ [x]) ∧ Below C w w' := by
  obtain ⟨i0, hi, hz0, hz1, hz2⟩ := info_parts infoI13
  obtain ⟨v', w', hrun, hown', hgr, _⟩ := run_append_own (P := Tryz.prog) (w := w) C 41 ty 3 i0 (.int .i64 0) 1 8 Tryz.underlying41 hi hz0 hz1 hz2 rfl (by decide) v xs.length _ h ⟨g, 0, none⟩ 1 1 [.int .i64 x] rfl
    (fun j u hj => by rw [Addr.add_lit, Nat.zero_add, cell_of_row _ _ j _ _ _ hg, List.getElem?_toArray]; exact hj) (by intro u hu; simp at hu; subst hu; rfl) (by unfold maxLen; omega) (by omega) hB
  refine ⟨v', w', hrun, ?_, (Below.refl C w).grown hgr hB (fun k e => (World.ownsRow.lt h k e).1)⟩
  unfold NR nums at *
  rw [List.length_append, List.map_append]
  exact hown'
theorem NR.is {w : World} {C : Nat} {v : Value} {xs : List Int} (h : NR w C v xs) : IS w v xs := by
  have hc := fun g => World.ownsRow.cells h (g := g)
  rcases h.2 with ⟨rfl, h0⟩ | ⟨g, cap, cur, rfl, hb, hh, hnc, hcm, _⟩
  · rw [List.eq_nil_of_length_eq_zero h0]; exact IS.nil w
  · refine ⟨_, cap, rfl, hnc, hcm, (fun e => by cases e), fun _ => ⟨g, 0, rfl, fun i hi => ?_⟩⟩
    have q1 := hc g rfl _ _ (nums_at xs i hi)
    rw [Addr.add_lit] at q1
    exact q1
theorem own_base {w : World} {B C e size n : Nat} {v : Value} {xs : List Value} (h : w.ownsRow B e size v n xs) (hC : C ≤ B) : w.ownsRow C e size v n xs := by
  refine ⟨h.1, ?_⟩
  rcases h.2 with hn | ⟨g, cap, cur, rfl, hb, rest⟩
  · exact Or.inl hn
  · exact Or.inr ⟨g, cap, cur, rfl, by omega, rest⟩
/-- a number more: where it was, if there is room, or anew -/
theorem app_num2 {w : World} {B : Nat} {v : Value} {xs : List Int} (ty : TypeId) (x : Int) {g : Nat} (hown : NR w B v xs) (hg : w.heap[g]? = some (.cells #[.int .i64 x] 3 (0, 0))) (hB : B ≤ w.heap.size) (hn : xs.length ≤ 1000) :
    ∃ v' w', (Builtin.append_ #[41, 41] ty #[v, .slice (some ⟨g, 0, none⟩) 1 1]).run Tryz.prog w = .ok v' w' ∧ NR w' B v' (xs ++ [x]) ∧ w.grownBy w' v.ownBlock ∧ (v'.ownBlock = v.ownBlock ∨ ∀ k, v'.ownBlock = some k → w.heap.size ≤ k) := by
  obtain ⟨i0, hi, hz0, hz1, hz2⟩ := info_parts infoI13
  have hnews : ∀ (j : Nat) (u : Value), ([Value.int .i64 x] : List Value)[j]? = some u → w.cell? ((⟨g, 0, none⟩ : Addr).add j) = some u := by
    intro j u hj
    rw [Addr.add_lit, Nat.zero_add, cell_of_row _ _ j _ _ _ hg, List.getElem?_toArray]
    exact hj
  have hone : ∀ u ∈ ([Value.int .i64 x] : List Value), u.oneCell' = true := by
    intro u hu
    simp at hu
    subst hu
    rfl
  have hm1 : xs.length + 1 ≤ maxLen := by unfold maxLen; omega
  have e1 : (xs ++ [x]).length = xs.length + 1 := by simp
  have e2 : nums (xs ++ [x]) = nums xs ++ [.int .i64 x] := by unfold nums; rw [List.map_append]; rfl
  have fin : ∀ {w' : World} {v' : Value} {C : Nat}, B ≤ C → w'.ownsRow C 3 1 v' (xs.length + 1) (nums xs ++ [.int .i64 x]) → NR w' B v' (xs ++ [x]) := fun hC hown => by
    unfold NR; rw [e1, e2]; exact own_base hown hC
  have hlen : (nums xs).length = xs.length * 1 := by unfold nums; simp
  rcases hown.2 with ⟨rfl, h0⟩ | ⟨g0, cap, cur, rfl, hg0, hh, hnc, hcm, hcs, htk⟩
  · have hx0 : xs = [] := List.eq_nil_of_length_eq_zero h0
    subst hx0
    obtain ⟨v', w', hrun, hown', hgr, _⟩ := run_append_own (P := Tryz.prog) w w.heap.size 41 ty 3 i0 _ 1 8 Tryz.underlying41 hi hz0 hz1 hz2 rfl (by decide) (.slice none 0 0) 0 [] (World.ownsRow_nil w w.heap.size 3 1) ⟨g, 0, none⟩ 1 1 _ rfl hnews hone hm1 (by simp) (Nat.le_refl _)
    exact ⟨v', w', hrun, fin hB hown', hgr, Or.inr fun k hk => (hown'.lt k hk).1⟩
  · by_cases hroom : xs.length + 1 ≤ cap
    · obtain ⟨w', hrun, hown', hgr⟩ := run_append_fits (P := Tryz.prog) w B 41 ty 3 i0 1 Tryz.underlying41 hi hz1 g0 xs.length cap _ hown ⟨g, 0, none⟩ 1 1 _ rfl hnews hone hroom
      exact ⟨_, w', hrun, fin (Nat.le_refl _) hown', hgr, Or.inl rfl⟩
    · obtain ⟨v', w', hrun, hown', hgr⟩ := run_append_arg_grows (P := Tryz.prog) w 41 ty 3 i0 _ 1 8 Tryz.underlying41 hi hz0 hz1 hz2 rfl (by decide) ⟨g0, 0, none⟩ xs.length cap _ hlen (fun j u hj => World.ownsRow.cells hown (g := g0) rfl j u hj) ⟨g, 0, none⟩ 1 1 _ rfl hnews (by omega) hm1 (by omega)
      exact ⟨v', w', hrun, fin hB hown', ⟨hgr.os, hgr.tape, hgr.output, hgr.size, fun k hk _ => hgr.block k hk (by simp)⟩, Or.inr fun k hk => (hown'.lt k hk).1⟩
/-- numbers behind numbers -/
theorem app_nums {w : World} {C : Nat} {v u : Value} {xs ys : List Int} (h : NR w C v xs) (hu : IS w u ys) (hB : C ≤ w.heap.size) (hn : xs.length + ys.length ≤ 1000) (ty : TypeId) :
    ∃ v' w', (Builtin.append_ #[41, 41] ty #[v, u]).run Tryz.prog w = .ok v' w' ∧ NR w' C v' (xs ++ ys) ∧ Below C w w' := by
  obtain ⟨i0, hi, hz0, hz1, hz2⟩ := info_parts infoI13
  obtain ⟨a, cap, rfl, h1, h2, h3, h4⟩ := hu
  have e1 : (xs ++ ys).length = xs.length + ys.length := List.length_append
  have e2 : nums (xs ++ ys) = nums xs ++ nums ys := List.map_append
  have hone : ∀ u ∈ nums ys, u.oneCell' = true := fun u hu => by
    obtain ⟨x, _, rfl⟩ := List.mem_map.mp hu; rfl
  have hlen : (nums ys).length = ys.length * 1 := by unfold nums; simp
  by_cases h0 : ys = []
  · subst h0
    obtain ⟨va, vc, rfl⟩ := h.is_form
    have hle : xs.length ≤ vc := by obtain ⟨_, _, e, q, _⟩ := h.is; simp at e; omega
    have hs : Src Tryz.prog 1 41 (.slice a 0 cap) 0 [] w := by
      cases a with
      | none => exact Src.ofNil w Tryz.underlying41 cap
      | some ad => exact Src.ofSlice w Tryz.underlying41 ad 0 cap [] rfl (by intro j u hj; simp at hj) (by intro u hu; cases hu)
    exact ⟨_, w, run_append_nothing w _ _ ty 3 i0 Tryz.underlying41 hi va xs.length vc hle _ (by rw [hz1]; exact hs), by rw [List.append_nil]; exact h, Below.refl _ _⟩
  · obtain ⟨b, off, rfl, hc⟩ := h4 (List.length_pos_iff.mpr h0)
    obtain ⟨v', w', hrun, hown', hgr, _⟩ := run_append_own (P := Tryz.prog) w C 41 ty 3 i0 _ 1 8 Tryz.underlying41 hi hz0 hz1 hz2 rfl (by decide) v xs.length _ h ⟨b, off, none⟩ ys.length cap (nums ys) hlen
      (fun j u hj => by
        have hl : j < ys.length := by have := (List.getElem?_eq_some_iff.1 hj).1; unfold nums at this; simpa using this
        rw [nums_at ys j hl] at hj
        rw [Addr.add_lit, hc j hl]
        exact hj) hone (by unfold maxLen; omega) (by omega) hB
    refine ⟨v', w', hrun, ?_, (Below.refl C w).grown hgr hB (fun k e => (World.ownsRow.lt h k e).1)⟩
    unfold NR
    rw [e1, e2]
    exact hown'
/-- a number, brought into 0 .. n - 1 -/
def bring (a n : Int) : Int := if a.tmod n < 0 then a.tmod n + n else a.tmod n
theorem bring_range (a : Int) {n : Int} (h : 1 ≤ n) : 0 ≤ bring a n ∧ bring a n < n := by
  have h1 := Int.lt_tmod_of_pos a (by omega : 0 < n)
  have h2 := Int.tmod_lt_of_pos a (by omega : 0 < n)
  unfold bring; split <;> omega
theorem bring_any (a n : Int) (w : World) (h : 1 ≤ n) (hn : n ≤ 9007199254740992) : Calls Tryz.prog 10 #[.int .i64 a, .int .i64 n] w (fun e w' => e = .returned (.int .i64 (bring a n)) ∧ w' = w) := by
  unfold bring
  have h1 := Int.lt_tmod_of_pos a (by omega : 0 < n)
  have h2 := Int.tmod_lt_of_pos a (by omega : 0 < n)
  have hz : (n == 0) = false := by simp; omega
  have hw64 : wrap64 (a.tmod n) = a.tmod n := by unfold wrap64; omega
  by_cases hr : a.tmod n < 0
  · rw [if_pos hr]
    have hd : decide (a.tmod n < 0) = true := by simpa using hr
    have hw2 : wrap64 (a.tmod n + n) = a.tmod n + n := by unfold wrap64; omega
    go_enter Tryz.func10, Tryz.ntmps10
    go_wp2
    go_ret
    exact ⟨rfl, rfl⟩
  · rw [if_neg hr]
    have hd : decide (a.tmod n < 0) = false := by simpa using hr
    go_enter Tryz.func10, Tryz.ntmps10
    go_wp2
    go_ret
    exact ⟨rfl, rfl⟩
/-- Bring, as a region that draws takes it -/
theorem bring_q (a n : Int) (h : 1 ≤ n) (hn : n ≤ 100000) (w : World) : Calls Tryz.prog 10 #[.int .i64 a, .int .i64 n] w (fun e w' => e = .returned (.int .i64 (bring a n)) ∧ w' = w) := bring_any a n w h (by omega)
/-- the answer true; what was there is as it was -/
def TrueB (w : World) (e : Ending) (w' : World) : Prop := e = .returned (.bool true) ∧ Below w.heap.size w w'
/-- the same numbers are the same -/
theorem eqs_any {w : World} {u v : Value} {xs : List Int} (hu : IS w u xs) (hv : IS w v xs) (hl : xs.length ≤ 100000) : Calls Tryz.prog 33 #[u, v] w (TrueB w) := by
  obtain ⟨a, cap, rfl, hn1, hn2⟩ := hu.slice
  obtain ⟨b, cap', rfl, hn3, hn4⟩ := hv.slice
  have HU := Lib.hid hu
  have HV := Lib.hid hv
  obtain ⟨m, hm⟩ : ∃ m, m = xs.length := ⟨_, rfl⟩
  rw [← hm] at hl hn1 hn3 HU HV ⊢
  clear hu hv hm
  have mixed : Tryz.prog.follows .mixedOrders = true := by kernel_rfl
  go_enter Tryz.func33, Tryz.ntmps33
  go_wp2_with fail
  go_loopw [5] (fun i wr => ∃ k : Nat, k ≤ m ∧ i = .int .i64 k ∧ Hid (Below w.heap.size w wr)) (fun i _ => m - (intOf i).toNat)
  case atStart => exact ⟨0, Nat.zero_le _, rfl, Below.refl _ _⟩
  case round =>
    obtain ⟨k, hk, rfl, HB⟩ := hrel
    by_cases hlt : k < m
    · obtain ⟨b1, o1, rfl, e1⟩ := (HU.out.below HB.out).at hlt
      obtain ⟨b2, o2, rfl, e2⟩ := (HV.out.below HB.out).at hlt
      generalize xs.getD k 0 = q at *
      have hki : (k : Int) < (m : Int) := by omega
      have hk0 : (0 : Int) ≤ k := by omega
      go_wp2_with fail
      go_quiet (fail)
      go_wp2_with fail
      go_roundw
      case rel => exact ⟨k + 1, by omega, by go_num, below_drewN HB.out _⟩
      case measure => simp [intOf]; omega
    · obtain rfl : k = m := by omega
      go_wp2_with fail
      go_ret
      exact ⟨rfl, HB.out⟩
end Go.Proofs.YtkkmfpllgjoceaaGreat.Rq

namespace Go.Proofs.YtkkmfpllgjoceaaGreat.Rq
open Go.RowKit Rk Rd Go.Sort
set_option linter.unusedVariables false
set_option maxRecDepth 100000

/-- the document's queue: its row is the call's own -/
structure DQ (w : World) (mb C : Nat) (L : List Int) (lv : Value) : Prop where
  ob : w.heap[mb]? = some (.cells #[lv] 138 (0, 0))
  ow : NR w C lv L
  ne : lv.ownBlock ≠ some mb
section
variable {w w' : World} {mb C : Nat} {L : List Int} {lv : Value}
theorem DQ.lt (h : DQ w mb C L lv) : mb < w.heap.size := lt_of_heap h.ob
theorem DQ.c0 (h : DQ w mb C L lv) : w.cell? ⟨mb, 0, none⟩ = some lv := cell_of_row _ _ 0 _ _ _ h.ob
theorem DQ.only {S : Nat → Prop} (h : DQ w mb C L lv) (o : Only S w w') (h0 : ¬ S mb) (h1 : ∀ k, lv.ownBlock = some k → ¬ S k) : DQ w' mb C L lv := by
  refine ⟨(o.block _ h.lt h0).trans h.ob, ⟨h.ow.1, ?_⟩, h.ne⟩
  rcases h.ow.2 with q | ⟨g, cap, cur, rfl, hb, hg, rest⟩
  · exact Or.inl q
  · exact Or.inr ⟨g, cap, cur, rfl, hb, (o.block g (lt_of_heap hg) (h1 g rfl)).trans hg, rest⟩
theorem DQ.below (h : DQ w mb C L lv) (q : Below w.heap.size w w') : DQ w' mb C L lv := h.only (S := fun _ => False) ⟨q.os, q.tape, q.output, q.size, fun k hk _ => q.block k hk⟩ (fun e => e) (fun _ _ e => e)
theorem DQ.form (h : DQ w mb C L lv) : ∃ a cap, lv = .slice a L.length cap := h.ow.is_form
theorem DQ.at {a : Option Addr} {n cap : Nat} (h : DQ w mb C L (.slice a n cap)) {i : Nat} (hi : i < L.length) : ∃ g, a = some ⟨g, 0, none⟩ ∧ w.cell? ⟨g, i, none⟩ = some (.int .i64 (L.getD i (-1))) ∧ w.frozen? ⟨g, i, none⟩ = false ∧ n = L.length ∧ n ≤ cap ∧ cap ≤ maxLen := by
  have hw := h.ow
  rcases hw.2 with ⟨_, q⟩ | ⟨g, cap', cur, e, hb, hg, hc1, hc2, _⟩
  · omega
  · injection e with e1 e2 e3
    subst e1; subst e2; subst e3
    refine ⟨g, rfl, ?_, World.ownsRow.frozenAt hw i, rfl, hc1, hc2⟩
    rw [World.ownsRow.cellAt hw i (by omega), nums_at L i hi]
    rw [List.getD_eq_getElem?_getD, List.getD_eq_getElem?_getD, List.getElem?_eq_getElem hi]; rfl
/-- a number of the row is set -/
theorem DQ.set {g n cap : Nat} (h : DQ w mb C L (.slice (some ⟨g, 0, none⟩) n cap)) (hn : n = L.length) (i : Nat) (x : Int) :
    DQ (w.setCell ⟨g, i, none⟩ (.int .i64 x)) mb C (L.set i x) (.slice (some ⟨g, 0, none⟩) n cap) ∧ Only (fun k => k = g) w (w.setCell ⟨g, i, none⟩ (.int .i64 x)) := by
  subst hn
  have hne : mb ≠ g := fun e => h.ne (by rw [e]; rfl)
  refine ⟨⟨(heap_set_other hne).trans h.ob, ?_, h.ne⟩, Only.setCell (S := fun k => k = g) (Only.refl _ w) (Or.inl rfl) _⟩
  have h1 := (World.ownsRow.stored h.ow i (.int .i64 x)).1
  have e1 : nums (L.set i x) = (nums L).set i (.int .i64 x) := by unfold nums; rw [List.map_set]
  unfold NR
  rw [List.length_set, e1]
  exact h1
end
/-- an answer; the queue behind it -/
def DP (v : Value) (mb C : Nat) (L : List Int) (lv : Value) (w : World) (e : Ending) (w' : World) : Prop := e = .returned v ∧ DQ w' mb C L lv ∧ Only (fun k => lv.ownBlock = some k) w w'
theorem DP.same {v : Value} {mb C : Nat} {L : List Int} {lv : Value} {w : World} (h : DQ w mb C L lv) : DP v mb C L lv w (.returned v) w := ⟨rfl, h, Only.refl _ _⟩
theorem has_any {w : World} {mb C : Nat} {L : List Int} {lv : Value} (h : DQ w mb C L lv) (ok : Gd L) (t : Int) : Calls Tryz.prog 116 #[.pointer (some ⟨mb, 0, none⟩), .int .i64 t] w (IsB (decide (0 ≤ dl L t)) w) := by
  obtain ⟨a, cap, rfl⟩ := h.form
  have c0 := h.c0
  by_cases h0 : 0 ≤ t
  · by_cases h1 : (L.length : Int) ≤ t
    · have e : decide (0 ≤ dl L t) = false := by rw [dl_out h1]; rfl
      rw [e]
      have d1 : decide (0 ≤ t) = true := by simpa using h0
      have d2 : decide (t < (L.length : Int)) = false := by simpa using h1
      clear h e
      generalize L.length = N at *
      go_enter Tryz.func116, Tryz.ntmps116
      go_wp2_with fail
      go_ret
      exact ⟨rfl, rfl⟩
    · obtain ⟨i, rfl⟩ : ∃ i : Nat, t = i := ⟨t.toNat, by omega⟩
      obtain ⟨g, rfl, c1, _, hn, hc1, hc2⟩ := h.at (show i < L.length by omega)
      have hr := getD_rng ok i
      rw [dl_nat]
      have d2 : decide ((i : Int) < (L.length : Int)) = true := by simp; omega
      have hi : (i : Int) < (L.length : Int) := by omega
      have hl := ok.len
      have hm : cap ≤ 9223372036854775807 := by unfold maxLen at hc2; omega
      clear h hn ok hc2
      generalize L.getD i (-1) = x at *
      generalize L.length = N at *
      go_enter Tryz.func116, Tryz.ntmps116
      go_wp2_with fail
      go_ret
      exact ⟨rfl, rfl⟩
  · have e : decide (0 ≤ dl L t) = false := by rw [dl_neg (by omega)]; rfl
    rw [e]
    have d1 : decide (0 ≤ t) = false := by simpa using h0
    clear h e
    go_enter Tryz.func116, Tryz.ntmps116
    go_wp2_with fail
    go_ret
    exact ⟨rfl, rfl⟩
set_option maxHeartbeats 2000000 in
theorem rput_any {w : World} {mb C : Nat} {L : List Int} {lv : Value} (h : DQ w mb C L lv) (ok : Gd L) (t d : Int) : Calls Tryz.prog 105 #[.pointer (some ⟨mb, 0, none⟩), .int .i64 t, .int .i64 d] w (DP (.int .i64 (qE L t d)) mb C (qL L t d) lv w) := by
  obtain ⟨a, cap, rfl⟩ := h.form
  have c0 := h.c0
  have HH := Lib.hid (has_any h ok t)
  have hlen := ok.len
  have H := Lib.hid h
  obtain ⟨N, hN⟩ : ∃ N : Nat, N = L.length := ⟨_, rfl⟩
  rcases qE_cases L t d with ⟨q1, q⟩ | ⟨q1, q2, q3, q⟩ | ⟨q1, q2, q3, q4, q5, q⟩ | ⟨q1, q2, q3, q4, q5, q⟩
  · have e1 : qL L t d = L := if_neg (by rw [q]; decide)
    rw [q, e1]
    rw [← hN] at c0 q1 hlen H ⊢
    clear h q e1 HH hN
    rcases Int.lt_or_le t 0 with q2 | q2
    · have d1 : decide (t < 0) = true := by simpa using q2
      go_enter Tryz.func105, Tryz.ntmps105
      go_wp2_with fail
      go_ret
      exact DP.same H.out
    · have d1 : decide (t < 0) = false := by simpa using q2
      have d2 : decide ((N : Int) ≤ t) = true := by simp; omega
      go_enter Tryz.func105, Tryz.ntmps105
      go_wp2_with fail
      go_ret
      exact DP.same H.out
  · have e1 : qL L t d = L := if_neg (by rw [q]; decide)
    rw [q, e1]
    rw [← hN] at c0 q2 hlen H ⊢
    clear h q e1 HH hN
    have d1 : decide (t < 0) = false := by simpa using q1
    have d2 : decide ((N : Int) ≤ t) = false := by simp; omega
    rcases Int.lt_or_le d 0 with q4 | q4
    · have d3 : decide (d < 0) = true := by simpa using q4
      go_enter Tryz.func105, Tryz.ntmps105
      go_wp2_with fail
      go_ret
      exact DP.same H.out
    · have d3 : decide (d < 0) = false := by simpa using q4
      have d4 : decide (1099511627840 < d) = true := by simp; omega
      go_enter Tryz.func105, Tryz.ntmps105
      go_wp2_with fail
      go_ret
      exact DP.same H.out
  · have e1 : qL L t d = L := if_neg (by rw [q]; decide)
    rw [decide_eq_true q5] at HH
    rw [q, e1]
    rw [← hN] at c0 q2 hlen H ⊢
    have d1 : decide (t < 0) = false := by simpa using q1
    have d2 : decide ((N : Int) ≤ t) = false := by simp; omega
    have d3 : decide (d < 0) = false := by simpa using q3
    have d4 : decide (1099511627840 < d) = false := by simpa using q4
    clear h q e1 q5 hN
    go_enter Tryz.func105, Tryz.ntmps105
    go_wp2_with fail
    refine HH.out.mono ?_
    rintro e w' ⟨rfl, rfl⟩
    go_wp2_with fail
    go_ret
    exact DP.same H.out
  · have e1 : qL L t d = L.set t.toNat d := if_pos q
    rw [decide_eq_false (show ¬ 0 ≤ dl L t by omega)] at HH
    obtain ⟨i, rfl⟩ : ∃ i : Nat, t = i := ⟨t.toNat, by omega⟩
    obtain ⟨g, rfl, c1, c2, hn, hc1, hc2⟩ := h.at (show i < L.length by omega)
    have HF := Lib.hid (h.set rfl i d)
    rw [q, e1]
    simp only [Int.toNat_natCast]
    rw [← hN] at c0 q2 hlen H hc1 HF ⊢
    have d1 : decide ((i : Int) < 0) = false := by simp
    have d2 : decide ((N : Int) ≤ (i : Int)) = false := by simp; omega
    have d3 : decide (d < 0) = false := by simpa using q3
    have d4 : decide (1099511627840 < d) = false := by simpa using q4
    have hm : cap ≤ 9223372036854775807 := by unfold maxLen at hc2; omega
    clear h q e1 q5 hN hn hc2
    go_enter Tryz.func105, Tryz.ntmps105
    go_wp2_with fail
    refine HH.out.mono ?_
    rintro e w' ⟨rfl, rfl⟩
    go_wp2_with fail
    go_ret
    exact ⟨rfl, HF.out.1, HF.out.2.mono fun k _ e => by rw [e]; rfl⟩
set_option maxHeartbeats 1000000 in
theorem rrem_any {w : World} {mb C : Nat} {L : List Int} {lv : Value} (h : DQ w mb C L lv) (ok : Gd L) (t : Int) : Calls Tryz.prog 114 #[.pointer (some ⟨mb, 0, none⟩), .int .i64 t] w (DP (.bool (decide (0 ≤ dl L t))) mb C (rmL L t) lv w) := by
  obtain ⟨a, cap, rfl⟩ := h.form
  have c0 := h.c0
  have HH := Lib.hid (has_any h ok t)
  have hlen := ok.len
  have H := Lib.hid h
  obtain ⟨N, hN⟩ : ∃ N : Nat, N = L.length := ⟨_, rfl⟩
  by_cases q : 0 ≤ dl L t
  · have e1 : rmL L t = L.set t.toNat (-1) := if_pos q
    obtain ⟨q1, q2⟩ := dl_in q
    rw [decide_eq_true q] at HH ⊢
    obtain ⟨i, rfl⟩ : ∃ i : Nat, t = i := ⟨t.toNat, by omega⟩
    obtain ⟨g, rfl, c1, c2, hn, hc1, hc2⟩ := h.at (show i < L.length by omega)
    have HF := Lib.hid (h.set rfl i (-1))
    rw [e1]
    simp only [Int.toNat_natCast]
    rw [← hN] at c0 q2 hlen H hc1 HF ⊢
    have hm : cap ≤ 9223372036854775807 := by unfold maxLen at hc2; omega
    clear h q e1 hN hn hc2
    go_enter Tryz.func114, Tryz.ntmps114
    go_wp2_with fail
    refine HH.out.mono ?_
    rintro e w' ⟨rfl, rfl⟩
    go_wp2_with fail
    go_ret
    exact ⟨rfl, HF.out.1, HF.out.2.mono fun k _ e => by rw [e]; rfl⟩
  · have e1 : rmL L t = L := if_neg q
    rw [decide_eq_false q] at HH ⊢
    rw [e1]
    clear h q e1
    go_enter Tryz.func114, Tryz.ntmps114
    go_wp2_with fail
    refine HH.out.mono ?_
    rintro e w' ⟨rfl, rfl⟩
    go_wp2_with fail
    go_ret
    exact DP.same H.out
theorem no_succ (k : Nat) : noL (k + 1) = noL k ++ [-1] := List.replicate_succ'
/-- a number more: the row, and the field -/
theorem DQ.put {w w1 : World} {mb C : Nat} {L : List Int} {lv v' : Value} (h : DQ w mb C L lv) {x : Int} (hown : NR w1 C v' (L ++ [x])) (hgr : w.grownBy w1 lv.ownBlock) (hb : v'.ownBlock = lv.ownBlock ∨ ∀ k, v'.ownBlock = some k → w.heap.size ≤ k) :
    DQ (w1.setCell ⟨mb, 0, none⟩ v') mb C (L ++ [x]) v' := by
  have hml := h.lt
  have hob : w1.heap[mb]? = some (.cells #[lv] 138 (0, 0)) := (hgr.block mb hml (fun e => h.ne e.symm)).trans h.ob
  have hne : v'.ownBlock ≠ some mb := fun e => by
    rcases hb with q | q
    · exact h.ne (q.symm.trans e)
    · have := q mb e; omega
  refine ⟨heap_setCell_same w1 mb 0 _ _ v' hob, ?_, hne⟩
  exact World.ownsRow.kept (row := some mb) hown ⟨rfl, rfl, rfl, by simp [World.setCell], fun k hk hn => Below.heap_setCell _ _ _ _ (fun e => hn (by rw [e]))⟩ (Or.inr hne)
/-- a queue is answered, without jobs -/
def NewP (n : Nat) (w : World) (e : Ending) (w' : World) : Prop := ∃ mb lv, e = .returned (.tuple #[.pointer (some ⟨mb, 0, none⟩), .int .i64 0]) ∧ DQ w' mb w.heap.size (noL n) lv ∧ w.heap.size ≤ mb ∧ Below w.heap.size w w'
set_option maxRecDepth 100000 in
set_option maxHeartbeats 2000000 in
theorem rnew_yes (w : World) {n : Nat} (hn : n ≤ 4) : Calls Tryz.prog 42 #[.int .i64 n] w (NewP n w) := by
  have hn0 : decide ((n : Int) < 0) = false := by simp
  have hn1 : decide (4 < (n : Int)) = false := by simp; omega
  have HD : Hid (DQ ((w.alloc (.cells #[] 3)).alloc (.cells #[.slice (some ⟨w.heap.size, 0, none⟩) 0 0] 138)) (w.heap.size + 1) w.heap.size (noL 0) (.slice (some ⟨w.heap.size, 0, none⟩) 0 0)) := by
    refine ⟨heap_alloc2_new w _ _, ?_, ?_⟩
    · exact World.ownsRow.alloc (World.ownsRow_made w #[] 0 (Nat.le_refl _) (Nat.zero_le _) rfl) _
    · intro e
      simp [Value.ownBlock] at e
  have HB : Hid (Below w.heap.size w ((w.alloc (.cells #[] 3)).alloc (.cells #[.slice (some ⟨w.heap.size, 0, none⟩) 0 0] 138))) := ((Below.refl _ _).alloc (Nat.le_refl _) _).alloc (by simp) _
  obtain ⟨mb, hmb⟩ : ∃ mb, w.heap.size + 1 = mb := ⟨_, rfl⟩
  have hms : w.heap.size ≤ mb := by omega
  rw [hmb] at HD
  go_enter Tryz.func42, Tryz.ntmps42
  go_wp2_with fail
  clear hmb
  go_loopw [5] (fun i wr => ∃ k : Nat, k ≤ n ∧ i = .int .i64 k ∧ Hid (∃ lv, DQ wr mb w.heap.size (noL k) lv) ∧ Hid (Below w.heap.size w wr)) (fun i _ => n - (intOf i).toNat)
  case atStart => exact ⟨0, Nat.zero_le _, rfl, ⟨_, HD.out⟩, HB.out⟩
  case round =>
    clear HD HB
    obtain ⟨k, hk, rfl, HD, HB⟩ := hrel
    obtain ⟨lv, hd⟩ := HD.out
    by_cases hkn : k < n
    · have c0 := hd.c0
      have h' := hd.below ((Below.refl _ _).alloc (Nat.le_refl _) (.cells #[.int .i64 (-1)] 3))
      obtain ⟨v', w1, hrun, hown, hgr, hb⟩ := app_num2 (w := wr.alloc (.cells #[.int .i64 (-1)] 3)) 41 (-1) h'.ow (g := wr.heap.size) (heap_alloc_new wr _) (Nat.le_trans HB.out.size (by simp)) (by rw [no_len]; omega)
      have hput := h'.put hown hgr hb
      rw [← no_succ] at hput
      have HPUT := Lib.hid hput
      have HRUN := Lib.hid hrun
      have hob : w1.heap[mb]? = some (.cells #[lv] 138 (0, 0)) := (hgr.block mb h'.lt (fun e => h'.ne e.symm)).trans h'.ob
      have s1 : w1.cell? ⟨mb, 0, none⟩ = some lv := cell_of_row _ _ 0 _ _ _ hob
      have s2 : w1.frozen? ⟨mb, 0, none⟩ = false := frozen_of_row _ _ _ _ _ hob
      have HB2 : Hid (Below w.heap.size w (w1.setCell ⟨mb, 0, none⟩ v')) := by
        have q := HB.out.alloc HB.out.size (.cells #[.int .i64 (-1)] 3)
        have q2 : Below w.heap.size w w1 := q.grown hgr q.size (fun j e => (World.ownsRow.lt h'.ow j e).1)
        exact q2.setCell hms _
      obtain ⟨va, vcap, rfl⟩ := hown.is_form
      generalize (noL k ++ [-1]).length = vn at *
      clear hput hrun hob hgr hb hown h' hd HD HB
      go_wp2_with (at_builtin; refine wpList_append_eq rfl (.tmp 24) (.tmp 25) 41 41 rfl _ _ _ _ rfl rfl HRUN.out ?_)
      go_roundw
      case rel => exact ⟨k + 1, by omega, by go_num, ⟨_, HPUT.out⟩, HB2.out⟩
      case measure => simp [intOf]; omega
    · obtain rfl : k = n := by omega
      have HD2 := Lib.hid hd
      clear hd HD
      go_wp2_with fail
      go_ret2
      exact ⟨_, lv, rfl, HD2.out, hms, HB.out⟩
theorem rnew_no (w : World) {n : Int} (hn : n < 0 ∨ 4 < n) : Calls Tryz.prog 42 #[.int .i64 n] w (IsV (.tuple #[.pointer none, .int .i64 2]) w) := by
  rcases Int.lt_or_le n 0 with h | h
  · have d1 : decide (n < 0) = true := by simpa using h
    go_enter Tryz.func42, Tryz.ntmps42
    go_wp2_with fail
    go_ret2
    exact ⟨rfl, rfl⟩
  · have d1 : decide (n < 0) = false := by simpa using h
    have d2 : decide (4 < n) = true := by simp; omega
    go_enter Tryz.func42, Tryz.ntmps42
    go_wp2_with fail
    go_ret2
    exact ⟨rfl, rfl⟩
end Go.Proofs.YtkkmfpllgjoceaaGreat.Rq

namespace Go.Proofs.YtkkmfpllgjoceaaGreat.Rq
open Go.RowKit Rk Rd Go.Sort
set_option linter.unusedVariables false
set_option maxRecDepth 100000

/-- numbers are answered, in a row of their own -/
def NumsP (w : World) (xs : List Int) (e : Ending) (w' : World) : Prop := ∃ r, e = .returned r ∧ NR w' w.heap.size r xs ∧ Below w.heap.size w w'
/-- the first j of them -/
theorem IS.take {w : World} {a : Option Addr} {n cap j : Nat} {xs : List Int} (h : IS w (.slice a n cap) xs) (hj : j ≤ xs.length) : IS w (.slice a j cap) (xs.take j) := by
  obtain ⟨a', cap', e, h1, h2, h3, h4⟩ := h
  obtain ⟨rfl, rfl, rfl⟩ : a = a' ∧ n = xs.length ∧ cap = cap' := by simpa using e
  have hl : (xs.take j).length = j := by rw [List.length_take]; omega
  refine ⟨a, cap, by rw [hl], by omega, h2, h3, fun h0 => ?_⟩
  rw [hl] at h0 ⊢
  obtain ⟨b, off, rfl, hc⟩ := h4 (by omega)
  refine ⟨b, off, rfl, fun i hi => (hc i (by omega)).trans ?_⟩
  rw [List.getD_eq_getElem?_getD, List.getD_eq_getElem?_getD, List.getElem?_take, if_pos hi]
/-- those from the j-th on -/
theorem IS.drop {w : World} {b off n cap j : Nat} {xs : List Int} (h : IS w (.slice (some ⟨b, off, none⟩) n cap) xs) (hj : j ≤ xs.length) : IS w (.slice (some ⟨b, off + j, none⟩) (n - j) (cap - j)) (xs.drop j) := by
  obtain ⟨a', cap', e, h1, h2, h3, h4⟩ := h
  obtain ⟨rfl, rfl, rfl⟩ : some (⟨b, off, none⟩ : Addr) = a' ∧ n = xs.length ∧ cap = cap' := by simpa using e
  have hl : (xs.drop j).length = xs.length - j := List.length_drop
  refine ⟨_, cap - j, by rw [hl], by omega, by omega, (fun e => by cases e), fun h0 => ?_⟩
  rw [hl] at h0
  obtain ⟨b', off', e', hc⟩ := h4 (by omega)
  injection e' with e'
  injection e' with e1 e2 _
  subst e1; subst e2
  refine ⟨_, _, rfl, fun i hi => ?_⟩
  rw [hl] at hi
  rw [Nat.add_assoc]
  refine (hc (j + i) (by omega)).trans ?_
  rw [List.getD_eq_getElem?_getD, List.getD_eq_getElem?_getD, List.getElem?_drop]
theorem IS.drop0 {w : World} {b n cap j : Nat} {xs : List Int} (h : IS w (.slice (some ⟨b, 0, none⟩) n cap) xs) (hj : j ≤ xs.length) : IS w (.slice (some ⟨b, j, none⟩) (n - j) (cap - j)) (xs.drop j) := by
  have := h.drop hj
  rwa [Nat.zero_add] at this
theorem NR.at {w : World} {C n cap : Nat} {a : Option Addr} {xs : List Int} (h : NR w C (.slice a n cap) xs) {j : Nat} (hj : j < xs.length) : ∃ g, a = some ⟨g, 0, none⟩ ∧ w.cell? ⟨g, j, none⟩ = some (.int .i64 (xs.getD j 0)) := by
  rcases h.2 with ⟨_, q⟩ | ⟨g, cap', cur, e, _⟩
  · omega
  · injection e with e1 e2 e3
    subst e1; subst e2; subst e3
    refine ⟨g, rfl, ?_⟩
    rw [World.ownsRow.cellAt h j (by omega)]
    exact nums_at xs j hj
theorem NR.cap0 {w : World} {C n cap : Nat} {xs : List Int} (h : NR w C (.slice none n cap) xs) : cap = 0 := by
  rcases h.2 with ⟨e, _⟩ | ⟨g, cap', cur, e, _⟩
  · simp at e; exact e.2
  · simp at e
theorem NR.off0 {w : World} {C n cap b o : Nat} {s : Option Nat} {xs : List Int} (h : NR w C (.slice (some ⟨b, o, s⟩) n cap) xs) : o = 0 ∧ s = Option.none := by
  rcases h.2 with ⟨e, _⟩ | ⟨g, cap', cur, e, _⟩
  · simp at e
  · simp at e; exact ⟨e.1.2.1, e.1.2.2⟩
/-- of nothing nothing -/
theorem IS.none {w : World} (a : Option Addr) (cap : Nat) (hc : cap ≤ maxLen) (h : a = Option.none → cap = 0) : IS w (.slice a 0 cap) [] := ⟨a, cap, rfl, Nat.zero_le _, hc, h, fun h => by cases h⟩
theorem jobs_rng (L : List Int) (k : Nat) : ∀ x ∈ jobs L k, 0 ≤ x.1 ∧ x.1 < k ∧ x.2 = L.getD x.1.toNat (-1) := by
  induction k with
  | zero => intro x hx; cases hx
  | succ k ih =>
    intro x hx
    unfold jobs at hx
    split at hx
    · rcases (mem_ins _ _ _).1 hx with e | hx
      · subst e; exact ⟨by simp, by simp; omega, by simp⟩
      · obtain ⟨h1, h2, h3⟩ := ih x hx; exact ⟨h1, by omega, h3⟩
    · obtain ⟨h1, h2, h3⟩ := ih x hx; exact ⟨h1, by omega, h3⟩
theorem jobs_at {L : List Int} {k j : Nat} (hj : j < (jobs L k).length) : ∃ q : Nat, q < k ∧ ((jobs L k).getD j (0, 0)) = ((q : Int), L.getD q (-1)) := by
  obtain ⟨h1, h2, h3⟩ := jobs_rng L k _ (Rd.getD_mem hj)
  refine ⟨((jobs L k).getD j (0, 0)).1.toNat, by omega, ?_⟩
  rw [← h3]
  exact Prod.ext (Int.toNat_of_nonneg h1).symm rfl
/-- where a job belongs: behind those whose deadline is at most its own -/
theorem jobs_ins {L : List Int} {k j : Nat} (h : 0 ≤ L.getD k (-1)) (hj : j ≤ (jobs L k).length) (h1 : ∀ i, i < j → ((jobs L k).getD i (0, 0)).2 ≤ L.getD k (-1)) (h2 : j < (jobs L k).length → L.getD k (-1) < ((jobs L k).getD j (0, 0)).2) :
    ids (jobs L (k + 1)) = (ids (jobs L k)).take j ++ [(k : Int)] ++ (ids (jobs L k)).drop j := by
  have e : jobs L (k + 1) = ins ((k : Int), L.getD k (-1)) (jobs L k) := by conv => lhs; unfold jobs
                                                                            exact if_pos h
  rw [e, ins_at hj (fun i hi => ?_) (fun hl => ?_)]
  · unfold ids
    rw [List.map_append, List.map_cons, List.map_take, List.map_drop, List.append_assoc]
    rfl
  · obtain ⟨q, hq, eq⟩ := jobs_at (L := L) (k := k) (j := i) (by omega)
    have := h1 i hi
    rw [eq] at this ⊢
    unfold lt
    simp only at this ⊢
    omega
  · have := h2 hl
    unfold lt
    simp only
    omega
theorem jobs_no {L : List Int} {k : Nat} (h : ¬ 0 ≤ L.getD k (-1)) : jobs L (k + 1) = jobs L k := by
  conv => lhs; unfold jobs
  exact if_neg h

set_option maxRecDepth 100000 in
set_option maxHeartbeats 8000000 in
theorem rjobs_any {w : World} {mb C : Nat} {L : List Int} {lv : Value} (h : DQ w mb C L lv) (ok : Gd L) : Calls Tryz.prog 58 #[.pointer (some ⟨mb, 0, none⟩)] w (NumsP w (ids (srt L))) := by
  obtain ⟨a, cap, rfl⟩ := h.form
  have H := Lib.hid h
  have OK := Lib.hid ok
  have hlen := ok.len
  obtain ⟨m, hm⟩ : ∃ m, m = L.length := ⟨_, rfl⟩
  have HM := Lib.hid hm
  rw [← hm] at hlen H
  clear h hm ok
  go_enter Tryz.func58, Tryz.ntmps58
  go_wp2_with fail
  go_loopw [3, 4] (fun o i wr => ∃ k : Nat, k ≤ m ∧ i = .int .i64 k ∧ Hid (NR wr w.heap.size o (ids (jobs L k))) ∧ Hid (Below w.heap.size w wr)) (fun _ i _ => m - (intOf i).toNat)
  case atStart => exact ⟨0, Nat.zero_le _, rfl, NR.nil _ _, Below.refl _ _⟩
  case round =>
    rename_i o _
    obtain ⟨k, hk, rfl, HO, HB⟩ := hrel
    have HD := Lib.hid (H.out.below HB.out)
    have c0 := HD.out.c0
    by_cases hkm : k < m
    · obtain ⟨g, rfl, c1, -, -, hc1, hc2⟩ := HD.out.at (show k < L.length by rw [← HM.out]; exact hkm)
      have HH := Lib.hid (has_any HD.out OK.out k)
      rw [dl_nat] at HH
      have hki : (k : Int) < (m : Int) := by omega
      have hk0 : (0 : Int) ≤ k := by omega
      have hm9 : cap ≤ 9223372036854775807 := by unfold maxLen at hc2; omega
      clear hc2
      by_cases hx : 0 ≤ L.getD k (-1)
      · rw [decide_eq_true hx] at HH
        have HX := Lib.hid hx
        obtain ⟨D, hD⟩ : ∃ D, D = L.getD k (-1) := ⟨_, rfl⟩
        have HDD := Lib.hid hD
        rw [← hD] at c1
        obtain ⟨ws, rfl⟩ : ∃ ws, ws = wr := ⟨_, rfl⟩
        obtain ⟨N, hN⟩ : ∃ N, N = (jobs L k).length := ⟨_, rfl⟩
        have hNk : N ≤ 4 := by have := jobs_len L k; omega
        have HNN := Lib.hid hN
        obtain ⟨oa, oc, rfl⟩ := HO.out.is_form
        have eN : (ids (jobs L k)).length = N := by rw [ids_len, ← hN]
        rw [eN] at HO ⊢
        obtain ⟨_, _, eS, hoc1, hoc2⟩ := HO.out.is.slice
        rw [eN] at eS hoc1
        injection eS with eS1 _ eS2
        subst eS1; subst eS2
        have hm8 : oc ≤ 9223372036854775807 := by unfold maxLen at hoc2; omega
        have HEN := Lib.hid eN
        clear hx hD eN hN
        go_wp2_with fail
        refine HH.out.mono ?_
        rintro e w1 ⟨rfl, rfl⟩
        clear HH
        go_wp2_with fail
        go_loopw [5] (fun x wi => ∃ j : Nat, j ≤ N ∧ x = .int .i64 j ∧ Hid (∀ i, i < j → ((jobs L k).getD i (0, 0)).2 ≤ L.getD k (-1)) ∧ Hid (NR wi w.heap.size (.slice oa N oc) (ids (jobs L k))) ∧ Hid (Below w.heap.size w wi)) (fun x _ => N - (intOf x).toNat)
        case atStart => exact ⟨0, Nat.zero_le _, rfl, (fun i hi => by omega), HO.out, HB.out⟩
        case round =>
          clear HO HB HD c0 c1
          obtain ⟨j, hj, rfl, HL, HO, HB⟩ := hrel
          have HD := Lib.hid (H.out.below HB.out)
          have c0 := HD.out.c0
          obtain ⟨_, eg, c1, -, -, -, -⟩ := HD.out.at (show k < L.length by rw [← HM.out]; exact hkm)
          injection eg with eg
          injection eg with eg _ _
          subst eg
          rw [← HDD.out] at c1
          by_cases hjN : j < N
          · obtain ⟨b, rfl, d1⟩ := HO.out.at (j := j) (by rw [HEN.out]; exact hjN)
            obtain ⟨q, hq, eq⟩ := jobs_at (L := L) (k := k) (j := j) (by rw [← HNN.out]; exact hjN)
            rw [ids_getD, eq] at d1
            dsimp only at d1
            obtain ⟨_, eg, d2, -, -, -, -⟩ := HD.out.at (show q < L.length by rw [← HM.out]; omega)
            injection eg with eg
            injection eg with eg _ _
            subst eg
            have HEQ := Lib.hid eq
            have hjI : (j : Int) < (N : Int) := by omega
            have hj0 : (0 : Int) ≤ j := by omega
            have hqm : (q : Int) < (m : Int) := by omega
            have hq0 : (0 : Int) ≤ q := by omega
            obtain ⟨X, hX⟩ : ∃ X, X = L.getD q (-1) := ⟨_, rfl⟩
            have HXX := Lib.hid hX
            rw [← hX] at d2
            clear eq hX
            by_cases hle : X ≤ D
            · have hd : decide (X ≤ D) = true := by simpa using hle
              have HL2 : Hid (∀ i, i < j + 1 → ((jobs L k).getD i (0, 0)).2 ≤ L.getD k (-1)) := fun i hi => by
                by_cases e : i = j
                · subst e; rw [HEQ.out, ← HDD.out]; simp only; rw [← HXX.out]; exact hle
                · exact HL.out i (by omega)
              go_wp2_with fail
              go_quiet (fail)
              go_wp2_with fail
              go_roundw
              case rel => exact ⟨j + 1, by omega, by go_num, HL2.out, HO.out, below_drewN HB.out _⟩
              case measure => simp [intOf]; omega
            · have hd : decide (X ≤ D) = false := by simpa using hle
              have HG : Hid (j < (jobs L k).length → L.getD k (-1) < ((jobs L k).getD j (0, 0)).2) := fun _ => by rw [HEQ.out, ← HDD.out]; simp only; rw [← HXX.out]; omega
              have hjc : j < oc := by omega
              have hjc2 : (j : Int) ≤ (oc : Int) := by omega
              have hjN2 : (j : Int) ≤ (N : Int) := by omega
              have hcc : ¬ oc = j := by omega
              have HJI := Lib.hid (jobs_ins (L := L) (k := k) (j := j) HX.out (by rw [← HNN.out]; exact hj) HL.out HG.out)
              have hlT : ((ids (jobs L k)).take j).length = j := by rw [List.length_take, HEN.out]; omega
              have hlD : ((ids (jobs L k)).drop j).length = N - j := by rw [List.length_drop, HEN.out]
              go_wp2_with fail
              go_quiet (fail)
              rename_i nq _
              have HOq : Hid (NR (wr.drewN nq) w.heap.size (.slice (some ⟨b, 0, none⟩) N oc) (ids (jobs L k))) := HO.out
              have HBq : Hid (Below w.heap.size w (wr.drewN nq)) := below_drewN HB.out nq
              clear HO HB HD c0 c1 HL HG d1 d2 hd hle
              generalize wr.drewN nq = wd at *
              have IO := Lib.hid (IS.take (j := j) HOq.out.is (by rw [HEN.out]; exact hj))
              obtain ⟨v1, w1, run1, nr1, b1⟩ := app_nums (w := wd) (C := wd.heap.size) (NR.nil wd _) IO.out (Nat.le_refl _) (by rw [hlT]; simp; omega) 41
              rw [List.nil_append] at nr1
              have HR1 := Lib.hid run1
              have hbx : Below wd.heap.size wd (w1.alloc (.cells #[.int .i64 k] 3)) := b1.alloc b1.size _
              obtain ⟨v2, w2, run2, nr2, b2⟩ := app_num (w := w1.alloc (.cells #[.int .i64 k] 3)) (World.ownsRow.alloc nr1 _) k (g := w1.heap.size) (heap_alloc_new w1 _) hbx.size (by rw [hlT]; omega) 41
              have HR2 := Lib.hid run2
              have hb2 := hbx.trans b2
              have IO2 : Hid (IS w2 (.slice (some ⟨b, 0, none⟩) N oc) (ids (jobs L k))) := HOq.out.is.below hb2
              have ID : IS w2 (.slice (some ⟨b, j, none⟩) (N - j) (oc - j)) ((ids (jobs L k)).drop j) := IO2.out.drop0 (by rw [HEN.out]; exact hj)
              obtain ⟨v3, w3, run3, nr3, b3⟩ := app_nums (w := w2) nr2 ID hb2.size (by rw [List.length_append, hlT, hlD]; simp; omega) 41
              have HR3 := Lib.hid run3
              have HN3 : Hid (NR w3 w.heap.size v3 (ids (jobs L (k + 1)))) := by
                unfold Hid
                rw [HJI.out]
                exact own_base nr3 HBq.out.size
              have HB3 : Hid (Below w.heap.size w w3) := HBq.out.trans ((hb2.trans b3).mono HBq.out.size)
              clear run1 nr1 b1 hbx run2 nr2 b2 hb2 run3 nr3 b3 ID hlT hlD HJI HOq HBq IO IO2
              go_wp2_with (first
                | (at_builtin; refine wpList_append_eq rfl (.tmp 46) (.tmp 49) 41 41 rfl _ _ _ _ rfl rfl HR1.out ?_)
                | (at_builtin; refine wpList_append_eq rfl (.tmp 51) (.tmp 53) 41 41 rfl _ _ _ _ rfl rfl HR2.out ?_)
                | (at_builtin; refine wpList_append_eq rfl (.tmp 55) (.tmp 58) 41 41 rfl _ _ _ _ rfl rfl HR3.out ?_))
              go_roundw
              case rel => exact ⟨k + 1, by omega, by go_num, HN3.out, HB3.out⟩
              case measure => simp [intOf]; omega
          · have hd : decide ((j : Int) < (N : Int)) = false := by simp; omega
            have HG : Hid (j < (jobs L k).length → L.getD k (-1) < ((jobs L k).getD j (0, 0)).2) := fun hh => by rw [← HNN.out] at hh; omega
            have hj0 : (0 : Int) ≤ j := by omega
            have hjN2 : (j : Int) ≤ (N : Int) := by omega
            have hjc2 : (j : Int) ≤ (oc : Int) := by omega
            have hjc : j ≤ oc := by omega
            rcases oa with _ | ⟨b, o, s⟩
            · obtain rfl : oc = 0 := HO.out.cap0
              have HJI := Lib.hid (jobs_ins (L := L) (k := k) (j := j) HX.out (by rw [← HNN.out]; exact hj) HL.out HG.out)
              have hlT : ((ids (jobs L k)).take j).length = j := by rw [List.length_take, HEN.out]; omega
              have hlD : ((ids (jobs L k)).drop j).length = N - j := by rw [List.length_drop, HEN.out]
              go_wp2_with fail
              go_quiet (fail)
              rename_i nq _
              have HOq : Hid (NR (wr.drewN nq) w.heap.size (.slice none N 0) (ids (jobs L k))) := HO.out
              have HBq : Hid (Below w.heap.size w (wr.drewN nq)) := below_drewN HB.out nq
              clear HO HB HD c0 c1 HL HG hd
              generalize wr.drewN nq = wd at *
              have hnil : (ids (jobs L k)).take j = [] := List.eq_nil_of_length_eq_zero (by rw [hlT]; omega)
              have IO : Hid (IS wd (.slice none 0 0) ((ids (jobs L k)).take j)) := by unfold Hid; rw [hnil]; exact IS.none _ 0 (Nat.zero_le _) (fun _ => rfl)
              obtain ⟨v1, w1, run1, nr1, b1⟩ := app_nums (w := wd) (C := wd.heap.size) (NR.nil wd _) IO.out (Nat.le_refl _) (by rw [hlT]; simp; omega) 41
              rw [List.nil_append] at nr1
              have HR1 := Lib.hid run1
              have hbx : Below wd.heap.size wd (w1.alloc (.cells #[.int .i64 k] 3)) := b1.alloc b1.size _
              obtain ⟨v2, w2, run2, nr2, b2⟩ := app_num (w := w1.alloc (.cells #[.int .i64 k] 3)) (World.ownsRow.alloc nr1 _) k (g := w1.heap.size) (heap_alloc_new w1 _) hbx.size (by rw [hlT]; omega) 41
              have HR2 := Lib.hid run2
              have hb2 := hbx.trans b2
              have IO2 : Hid (IS w2 (.slice none N 0) (ids (jobs L k))) := HOq.out.is.below hb2
              have ID : IS w2 (.slice none (N - j) 0) ((ids (jobs L k)).drop j) := by
                have e0 : N - j = 0 := by omega
                rw [List.eq_nil_of_length_eq_zero (hlD.trans e0), e0]
                exact IS.none _ 0 (Nat.zero_le _) (fun _ => rfl)
              obtain ⟨v3, w3, run3, nr3, b3⟩ := app_nums (w := w2) nr2 ID hb2.size (by rw [List.length_append, hlT, hlD]; simp; omega) 41
              have HR3 := Lib.hid run3
              have HN3 : Hid (NR w3 w.heap.size v3 (ids (jobs L (k + 1)))) := by
                unfold Hid
                rw [HJI.out]
                exact own_base nr3 HBq.out.size
              have HB3 : Hid (Below w.heap.size w w3) := HBq.out.trans ((hb2.trans b3).mono HBq.out.size)
              clear run1 nr1 b1 hbx run2 nr2 b2 hb2 run3 nr3 b3 ID hlT hlD HJI HOq HBq IO IO2
              go_wp2_with (first
                | (at_builtin; refine wpList_append_eq rfl (.tmp 46) (.tmp 49) 41 41 rfl _ _ _ _ rfl rfl HR1.out ?_)
                | (at_builtin; refine wpList_append_eq rfl (.tmp 51) (.tmp 53) 41 41 rfl _ _ _ _ rfl rfl HR2.out ?_)
                | (at_builtin; refine wpList_append_eq rfl (.tmp 55) (.tmp 58) 41 41 rfl _ _ _ _ rfl rfl HR3.out ?_))
              go_roundw
              case rel => exact ⟨k + 1, by omega, by go_num, HN3.out, HB3.out⟩
              case measure => simp [intOf]; omega
            · obtain ⟨rfl, rfl⟩ : o = 0 ∧ s = none := HO.out.off0
              by_cases hcc : oc = j
              · have HJI := Lib.hid (jobs_ins (L := L) (k := k) (j := j) HX.out (by rw [← HNN.out]; exact hj) HL.out HG.out)
                have hlT : ((ids (jobs L k)).take j).length = j := by rw [List.length_take, HEN.out]; omega
                have hlD : ((ids (jobs L k)).drop j).length = N - j := by rw [List.length_drop, HEN.out]
                go_wp2_with fail
                go_quiet (fail)
                rename_i nq _
                have HOq : Hid (NR (wr.drewN nq) w.heap.size (.slice (some ⟨b, 0, none⟩) N oc) (ids (jobs L k))) := HO.out
                have HBq : Hid (Below w.heap.size w (wr.drewN nq)) := below_drewN HB.out nq
                clear HO HB HD c0 c1 HL HG hd
                generalize wr.drewN nq = wd at *
                have IO := Lib.hid (IS.take (j := j) HOq.out.is (by rw [HEN.out]; exact hj))
                obtain ⟨v1, w1, run1, nr1, b1⟩ := app_nums (w := wd) (C := wd.heap.size) (NR.nil wd _) IO.out (Nat.le_refl _) (by rw [hlT]; simp; omega) 41
                rw [List.nil_append] at nr1
                have HR1 := Lib.hid run1
                have hbx : Below wd.heap.size wd (w1.alloc (.cells #[.int .i64 k] 3)) := b1.alloc b1.size _
                obtain ⟨v2, w2, run2, nr2, b2⟩ := app_num (w := w1.alloc (.cells #[.int .i64 k] 3)) (World.ownsRow.alloc nr1 _) k (g := w1.heap.size) (heap_alloc_new w1 _) hbx.size (by rw [hlT]; omega) 41
                have HR2 := Lib.hid run2
                have hb2 := hbx.trans b2
                have IO2 : Hid (IS w2 (.slice (some ⟨b, 0, none⟩) N oc) (ids (jobs L k))) := HOq.out.is.below hb2
                have ID : IS w2 (.slice (some ⟨b, 0, none⟩) (N - j) 0) ((ids (jobs L k)).drop j) := by
                  have e0 : N - j = 0 := by omega
                  rw [List.eq_nil_of_length_eq_zero (hlD.trans e0), e0]
                  exact IS.none _ 0 (Nat.zero_le _) (fun _ => rfl)
                obtain ⟨v3, w3, run3, nr3, b3⟩ := app_nums (w := w2) nr2 ID hb2.size (by rw [List.length_append, hlT, hlD]; simp; omega) 41
                have HR3 := Lib.hid run3
                have HN3 : Hid (NR w3 w.heap.size v3 (ids (jobs L (k + 1)))) := by
                  unfold Hid
                  rw [HJI.out]
                  exact own_base nr3 HBq.out.size
                have HB3 : Hid (Below w.heap.size w w3) := HBq.out.trans ((hb2.trans b3).mono HBq.out.size)
                clear run1 nr1 b1 hbx run2 nr2 b2 hb2 run3 nr3 b3 ID hlT hlD HJI HOq HBq IO IO2
                go_wp2_with (first
                  | (at_builtin; refine wpList_append_eq rfl (.tmp 46) (.tmp 49) 41 41 rfl _ _ _ _ rfl rfl HR1.out ?_)
                  | (at_builtin; refine wpList_append_eq rfl (.tmp 51) (.tmp 53) 41 41 rfl _ _ _ _ rfl rfl HR2.out ?_)
                  | (at_builtin; refine wpList_append_eq rfl (.tmp 55) (.tmp 58) 41 41 rfl _ _ _ _ rfl rfl HR3.out ?_))
                go_roundw
                case rel => exact ⟨k + 1, by omega, by go_num, HN3.out, HB3.out⟩
                case measure => simp [intOf]; omega
              · have HJI := Lib.hid (jobs_ins (L := L) (k := k) (j := j) HX.out (by rw [← HNN.out]; exact hj) HL.out HG.out)
                have hlT : ((ids (jobs L k)).take j).length = j := by rw [List.length_take, HEN.out]; omega
                have hlD : ((ids (jobs L k)).drop j).length = N - j := by rw [List.length_drop, HEN.out]
                go_wp2_with fail
                go_quiet (fail)
                rename_i nq _
                have HOq : Hid (NR (wr.drewN nq) w.heap.size (.slice (some ⟨b, 0, none⟩) N oc) (ids (jobs L k))) := HO.out
                have HBq : Hid (Below w.heap.size w (wr.drewN nq)) := below_drewN HB.out nq
                clear HO HB HD c0 c1 HL HG hd
                generalize wr.drewN nq = wd at *
                have IO := Lib.hid (IS.take (j := j) HOq.out.is (by rw [HEN.out]; exact hj))
                obtain ⟨v1, w1, run1, nr1, b1⟩ := app_nums (w := wd) (C := wd.heap.size) (NR.nil wd _) IO.out (Nat.le_refl _) (by rw [hlT]; simp; omega) 41
                rw [List.nil_append] at nr1
                have HR1 := Lib.hid run1
                have hbx : Below wd.heap.size wd (w1.alloc (.cells #[.int .i64 k] 3)) := b1.alloc b1.size _
                obtain ⟨v2, w2, run2, nr2, b2⟩ := app_num (w := w1.alloc (.cells #[.int .i64 k] 3)) (World.ownsRow.alloc nr1 _) k (g := w1.heap.size) (heap_alloc_new w1 _) hbx.size (by rw [hlT]; omega) 41
                have HR2 := Lib.hid run2
                have hb2 := hbx.trans b2
                have IO2 : Hid (IS w2 (.slice (some ⟨b, 0, none⟩) N oc) (ids (jobs L k))) := HOq.out.is.below hb2
                have ID : IS w2 (.slice (some ⟨b, j, none⟩) (N - j) (oc - j)) ((ids (jobs L k)).drop j) := IO2.out.drop0 (by rw [HEN.out]; exact hj)
                obtain ⟨v3, w3, run3, nr3, b3⟩ := app_nums (w := w2) nr2 ID hb2.size (by rw [List.length_append, hlT, hlD]; simp; omega) 41
                have HR3 := Lib.hid run3
                have HN3 : Hid (NR w3 w.heap.size v3 (ids (jobs L (k + 1)))) := by
                  unfold Hid
                  rw [HJI.out]
                  exact own_base nr3 HBq.out.size
                have HB3 : Hid (Below w.heap.size w w3) := HBq.out.trans ((hb2.trans b3).mono HBq.out.size)
                clear run1 nr1 b1 hbx run2 nr2 b2 hb2 run3 nr3 b3 ID hlT hlD HJI HOq HBq IO IO2
                go_wp2_with (first
                  | (at_builtin; refine wpList_append_eq rfl (.tmp 46) (.tmp 49) 41 41 rfl _ _ _ _ rfl rfl HR1.out ?_)
                  | (at_builtin; refine wpList_append_eq rfl (.tmp 51) (.tmp 53) 41 41 rfl _ _ _ _ rfl rfl HR2.out ?_)
                  | (at_builtin; refine wpList_append_eq rfl (.tmp 55) (.tmp 58) 41 41 rfl _ _ _ _ rfl rfl HR3.out ?_))
                go_roundw
                case rel => exact ⟨k + 1, by omega, by go_num, HN3.out, HB3.out⟩
                case measure => simp [intOf]; omega
      · rw [decide_eq_false hx] at HH
        have HE := Lib.hid (jobs_no hx)
        clear c1 hx
        go_wp2_with fail
        refine HH.out.mono ?_
        rintro e w1 ⟨rfl, rfl⟩
        clear HH
        go_wp2_with fail
        go_roundw
        case rel => exact ⟨k + 1, by omega, by go_num, by rw [HE.out]; exact HO.out, HB.out⟩
        case measure => simp [intOf]; omega
    · obtain rfl : k = m := by omega
      have HE : Hid (ids (jobs L k) = ids (srt L)) := by unfold Hid srt; rw [← HM.out]
      go_wp2_with fail
      go_ret
      exact ⟨_, rfl, by rw [← HE.out]; exact HO.out, HB.out⟩
end Go.Proofs.YtkkmfpllgjoceaaGreat.Rq

namespace Go.Proofs.YtkkmfpllgjoceaaGreat.Rq
open Go.RowKit Rk Rd Go.Sort
set_option linter.unusedVariables false
set_option maxRecDepth 100000

/-- the tasks of the first k jobs whose deadline is at most n -/
def lateTo (L : List Int) (n : Int) (k : Nat) : List Int := ids (((srt L).take k).filter fun x => decide (x.2 ≤ n))
theorem lateTo_yes {L : List Int} {n : Int} {k : Nat} (h : k < (srt L).length) (hx : ((srt L).getD k (0, 0)).2 ≤ n) : lateTo L n (k + 1) = lateTo L n k ++ [((srt L).getD k (0, 0)).1] := by
  unfold lateTo
  rw [late_step _ _ _ h, if_pos hx]
  unfold ids
  rw [List.map_append]; rfl
theorem lateTo_no {L : List Int} {n : Int} {k : Nat} (h : k < (srt L).length) (hx : ¬ ((srt L).getD k (0, 0)).2 ≤ n) : lateTo L n (k + 1) = lateTo L n k := by
  unfold lateTo
  rw [late_step _ _ _ h, if_neg hx]
theorem lateTo_len (L : List Int) (n : Int) (k : Nat) : (lateTo L n k).length ≤ k := by
  unfold lateTo
  rw [ids_len]
  have h1 := List.length_filter_le (fun x : En => decide (x.2 ≤ n)) ((srt L).take k)
  have h2 : ((srt L).take k).length ≤ k := by rw [List.length_take]; omega
  omega
theorem lateTo_all (L : List Int) (n : Int) : lateTo L n (srt L).length = ids (lateL L n) := by
  unfold lateTo lateL
  rw [List.take_length]
/-- a job, by its number: its task, and that task's deadline -/
theorem srt_at {L : List Int} {k : Nat} (h : k < (srt L).length) : ∃ q : Nat, q < L.length ∧ (srt L).getD k (0, 0) = ((q : Int), L.getD q (-1)) := jobs_at h

set_option maxRecDepth 100000 in
set_option maxHeartbeats 4000000 in
theorem rfirst_any {w : World} {mb C : Nat} {L : List Int} {lv : Value} (h : DQ w mb C L lv) (ok : Gd L) : Calls Tryz.prog 45 #[.pointer (some ⟨mb, 0, none⟩)] w (Fst (fs L).1 (fs L).2 (decide (0 < (srt L).length)) w) := by
  obtain ⟨a, cap, rfl⟩ := h.form
  have H := Lib.hid h
  have HJ := Lib.hid (rjobs_any h ok)
  have hlen := ok.len
  obtain ⟨m, hm⟩ : ∃ m, m = L.length := ⟨_, rfl⟩
  have HM := Lib.hid hm
  rw [← hm] at hlen H
  obtain ⟨N, hN⟩ : ∃ N, N = (srt L).length := ⟨_, rfl⟩
  have hNm : N ≤ m := by rw [hN, hm]; exact srt_len L
  have HN := Lib.hid hN
  have eN : (ids (srt L)).length = N := by rw [ids_len, ← hN]
  have HEN := Lib.hid eN
  rw [← hN]
  clear h hm ok hN eN
  by_cases h0 : N = 0
  · have hf : fs L = (0, 0) := fs_none (by rw [← HN.out]; exact h0)
    have hz : ((N : Int) == 0) = true := by simp [h0]
    have hd : decide (0 < N) = false := by simp [h0]
    rw [hf, hd]
    clear hf hd
    go_enter Tryz.func45, Tryz.ntmps45
    go_wp2_with fail
    refine HJ.out.mono ?_
    rintro e w1 ⟨r, rfl, hnr, hb1⟩
    obtain ⟨ra, rcap, rfl⟩ := hnr.is_form
    rw [HEN.out]
    have HB1 := Lib.hid hb1
    clear hnr hb1 HJ
    go_wp2_with fail
    go_ret3
    exact ⟨rfl, HB1.out⟩
  · have hN0 : 0 < N := by omega
    have hNI : (0 : Int) < (N : Int) := by omega
    have hz : ((N : Int) == 0) = false := by simp; omega
    obtain ⟨q, hq, eq⟩ := srt_at (L := L) (k := 0) (by rw [← HN.out]; exact hN0)
    rw [decide_eq_true hN0, fs_eq, eq]
    dsimp only
    have HEQ := Lib.hid eq
    obtain ⟨X, hX⟩ : ∃ X, X = L.getD q (-1) := ⟨_, rfl⟩
    have HXX := Lib.hid hX
    rw [← hX]
    have HQ := Lib.hid hq
    have hqm : (q : Int) < (m : Int) := by rw [HM.out]; omega
    have hq0 : (0 : Int) ≤ q := by omega
    clear eq hX hq
    go_enter Tryz.func45, Tryz.ntmps45
    go_wp2_with fail
    refine HJ.out.mono ?_
    rintro e w1 ⟨r, rfl, hnr, hb1⟩
    obtain ⟨ra, rcap, rfl⟩ := hnr.is_form
    rw [HEN.out] at hnr ⊢
    obtain ⟨b, rfl, d1⟩ := hnr.at (j := 0) (by rw [HEN.out]; exact hN0)
    rw [ids_getD, HEQ.out] at d1
    dsimp only at d1
    have HD := Lib.hid (H.out.below hb1)
    obtain ⟨g, rfl, d2, -, -, hc1, hc2⟩ := HD.out.at (i := q) HQ.out
    rw [← HXX.out] at d2
    have c0 := HD.out.c0
    have HB1 := Lib.hid hb1
    have hm9 : cap ≤ 9223372036854775807 := by unfold maxLen at hc2; omega
    clear hnr hb1 HJ hc2
    go_wp2_with fail
    go_quiet (fail)
    go_wp2_with fail
    go_ret3
    exact ⟨rfl, below_drewN HB1.out _⟩
end Go.Proofs.YtkkmfpllgjoceaaGreat.Rq
