/- How a rank lies in memory, and how that is kept while other blocks are written. -/
import Derived.Test.YtfjeoefnpcgnnaaRows
import Derived.Test.YtfjeoefnpcgnnaaRkPlainA
import Derived.WalkKit
import Derived.WalkSpells
import Derived.WalkLawsBesides
import Derived.Lib.Hide
import Derived.Deep.QuietTactic
import Derived.BigQuiet
import Derived.Below
import Derived.OneCell
import Derived.Laws.OwnMore
import Derived.RegionTactic
import Derived.ChangeAlike
namespace Go.Proofs.Ytfjeoefnpcgnnaa.Rq
open Go.RowKit Rk
set_option linter.unusedVariables false
set_option maxRecDepth 100000

/-- of what was there nothing has turned but blocks of S -/
structure Only (S : Nat → Prop) (w w' : World) : Prop where
  os : w'.os = w.os
  tape : w'.tape = w.tape
  output : w'.output = w.output
  size : w.heap.size ≤ w'.heap.size
  block : ∀ k, k < w.heap.size → ¬ S k → w'.heap[k]? = w.heap[k]?
theorem Only.refl (S : Nat → Prop) (w : World) : Only S w w := ⟨rfl, rfl, rfl, Nat.le_refl _, fun _ _ _ => rfl⟩
theorem Only.trans' {S T : Nat → Prop} {a b c : World} (h : Only S a b) (k : Only T b c) (hs : ∀ j, j < a.heap.size → T j → S j) : Only S a c :=
  ⟨k.os.trans h.os, k.tape.trans h.tape, k.output.trans h.output, Nat.le_trans h.size k.size, fun j hj hS => (k.block j (Nat.lt_of_lt_of_le hj h.size) (fun t => hS (hs j hj t))).trans (h.block j hj hS)⟩
theorem Only.trans {S : Nat → Prop} {a b c : World} (h : Only S a b) (k : Only S b c) : Only S a c := h.trans' k fun _ _ t => t
theorem Only.mono {S T : Nat → Prop} {a b : World} (h : Only S a b) (hs : ∀ j, j < a.heap.size → S j → T j) : Only T a b := (Only.refl T a).trans' h hs
theorem Only.drew {S : Nat → Prop} {a b : World} (h : Only S a b) : Only S a b.drew := ⟨h.os, h.tape, h.output, h.size, h.block⟩
theorem Only.drewN {S : Nat → Prop} {a b : World} (h : Only S a b) (n : Nat) : Only S a (b.drewN n) := ⟨h.os, h.tape, h.output, h.size, h.block⟩
theorem Only.alloc {S : Nat → Prop} {a b : World} (h : Only S a b) (o : Obj) : Only S a (b.alloc o) :=
  h.trans ⟨rfl, rfl, rfl, by simp, fun k hk _ => Below.heap_alloc _ _ _ hk⟩
theorem Only.setCell {S : Nat → Prop} {a b : World} (h : Only S a b) {p : Addr} (hp : S p.block ∨ a.heap.size ≤ p.block) (u : Value) : Only S a (b.setCell p u) :=
  ⟨h.os, h.tape, h.output, by have := h.size; simpa [World.setCell] using this, fun k hk hS => by
    rw [Below.heap_setCell _ _ _ _ (by rintro rfl; rcases hp with h1 | h1; · exact hS h1
                                       · omega)]
    exact h.block k hk hS⟩
theorem Only.below {S : Nat → Prop} {a b : World} {B : Nat} (h : Only S a b) (hB : B ≤ a.heap.size) (hS : ∀ k, k < a.heap.size → S k → B ≤ k) : Below B a b :=
  ⟨h.os, h.tape, h.output, h.size, fun k hk => h.block k (by omega) (fun t => by have := hS k (by omega) t; omega)⟩
theorem Only.of_below {S : Nat → Prop} {a b : World} (h : Below a.heap.size a b) : Only S a b := ⟨h.os, h.tape, h.output, h.size, fun k hk _ => h.block k hk⟩
theorem Only.cell {S : Nat → Prop} {a b : World} (h : Only S a b) {p : Addr} (hp : p.block < a.heap.size) (hS : ¬ S p.block) : b.cell? p = a.cell? p := World.cell?_of_block (h.block _ hp hS)
theorem Only.frozen {S : Nat → Prop} {a b : World} (h : Only S a b) {p : Addr} (hp : p.block < a.heap.size) (hS : ¬ S p.block) : b.frozen? p = a.frozen? p := World.frozen?_of_block (h.block _ hp hS)

theorem heap_set_same {w : World} {b i : Nat} {c : Array Value} {t : TypeId} {v : Value} (h : w.heap[b]? = some (.cells c t (0, 0))) : (w.setCell ⟨b, i, none⟩ v).heap[b]? = some (.cells (c.setIfInBounds i v) t (0, 0)) := heap_setCell_same w b i c t v h
theorem heap_set_other {w : World} {b b' i : Nat} {v : Value} (h : b' ≠ b) : (w.setCell ⟨b, i, none⟩ v).heap[b']? = w.heap[b']? := Below.heap_setCell _ _ _ _ h
theorem lt_of_heap {w : World} {b : Nat} {o : Obj} (h : w.heap[b]? = some o) : b < w.heap.size := lt_of_block h

/-- the block of what is heaped: a slice, and the places -/
def PL (w : World) (hb : Nat) (v : Value) (pl : Int → Int) : Prop :=
  ∃ c, w.heap[hb]? = some (.cells c 102 (0, 0)) ∧ c.size = 65 ∧ c[0]? = some v ∧ ∀ i, i < 64 → c[1 + i]? = some (.int .i64 (pl (i : Nat)))
/-- the block of the entries -/
def EN (w : World) (g cap n : Nat) (f : Nat → En) : Prop :=
  ∃ c, w.heap[g]? = some (.cells c 95 (0, 0)) ∧ c.size = cap * 2 ∧ ∀ i, i < n → c[i * 2]? = some (.int .i64 (f i).1) ∧ c[i * 2 + 1]? = some (.int .i64 (f i).2)

theorem PL.lt {w : World} {hb : Nat} {v : Value} {pl : Int → Int} (h : PL w hb v pl) : hb < w.heap.size := by obtain ⟨c, h1, _⟩ := h; exact lt_of_heap h1
theorem EN.lt {w : World} {g cap n : Nat} {f : Nat → En} (h : EN w g cap n f) : g < w.heap.size := by obtain ⟨c, h1, _⟩ := h; exact lt_of_heap h1
theorem PL.keep {w w' : World} {hb : Nat} {v : Value} {pl : Int → Int} (h : PL w hb v pl) (e : w'.heap[hb]? = w.heap[hb]?) : PL w' hb v pl := by
  obtain ⟨c, h1, h2⟩ := h; exact ⟨c, e.trans h1, h2⟩
theorem EN.keep {w w' : World} {g cap n : Nat} {f : Nat → En} (h : EN w g cap n f) (e : w'.heap[g]? = w.heap[g]?) : EN w' g cap n f := by
  obtain ⟨c, h1, h2⟩ := h; exact ⟨c, e.trans h1, h2⟩
theorem PL.cell0 {w : World} {hb : Nat} {v : Value} {pl : Int → Int} (h : PL w hb v pl) : w.cell? ⟨hb, 0, none⟩ = some v := by
  obtain ⟨c, h1, h2, h3, _⟩ := h; rw [cell_of_row w hb 0 c 102 _ h1]; exact h3
theorem PL.cell {w : World} {hb : Nat} {v : Value} {pl : Int → Int} (h : PL w hb v pl) {i : Nat} (hi : i < 64) : w.cell? ⟨hb, 1 + i, none⟩ = some (.int .i64 (pl (i : Nat))) := by
  obtain ⟨c, h1, h2, _, h3⟩ := h; rw [cell_of_row w hb (1 + i) c 102 _ h1]; exact h3 i hi
theorem PL.free {w : World} {hb : Nat} {v : Value} {pl : Int → Int} (h : PL w hb v pl) (o : Nat) : w.frozen? ⟨hb, o, none⟩ = false := by
  obtain ⟨c, h1, _⟩ := h; exact frozen_of_row w hb o c 102 h1
theorem EN.cell1 {w : World} {g cap n : Nat} {f : Nat → En} (h : EN w g cap n f) {i : Nat} (hi : i < n) : w.cell? ⟨g, i * 2, none⟩ = some (.int .i64 (f i).1) := by
  obtain ⟨c, h1, _, h3⟩ := h; rw [cell_of_row w g (i * 2) c 95 _ h1]; exact (h3 i hi).1
theorem EN.cell2 {w : World} {g cap n : Nat} {f : Nat → En} (h : EN w g cap n f) {i : Nat} (hi : i < n) : w.cell? ⟨g, i * 2 + 1, none⟩ = some (.int .i64 (f i).2) := by
  obtain ⟨c, h1, _, h3⟩ := h; rw [cell_of_row w g (i * 2 + 1) c 95 _ h1]; exact (h3 i hi).2
theorem EN.free {w : World} {g cap n : Nat} {f : Nat → En} (h : EN w g cap n f) (o : Nat) : w.frozen? ⟨g, o, none⟩ = false := by
  obtain ⟨c, h1, _⟩ := h; exact frozen_of_row w g o c 95 h1
theorem PL.alloc {w : World} {hb : Nat} {v : Value} {pl : Int → Int} (h : PL w hb v pl) (o : Obj) : PL (w.alloc o) hb v pl := h.keep (Below.heap_alloc _ _ _ h.lt)
theorem EN.alloc {w : World} {g cap n : Nat} {f : Nat → En} (h : EN w g cap n f) (o : Obj) : EN (w.alloc o) g cap n f := h.keep (Below.heap_alloc _ _ _ h.lt)
theorem PL.other {w : World} {hb : Nat} {v : Value} {pl : Int → Int} (h : PL w hb v pl) {b i : Nat} (hb' : hb ≠ b) (u : Value) : PL (w.setCell ⟨b, i, none⟩ u) hb v pl := h.keep (heap_set_other hb')
theorem EN.other {w : World} {g cap n : Nat} {f : Nat → En} (h : EN w g cap n f) {b i : Nat} (hb' : g ≠ b) (u : Value) : EN (w.setCell ⟨b, i, none⟩ u) g cap n f := h.keep (heap_set_other hb')
theorem PL.set0 {w : World} {hb : Nat} {v : Value} {pl : Int → Int} (h : PL w hb v pl) (u : Value) : PL (w.setCell ⟨hb, 0, none⟩ u) hb u pl := by
  obtain ⟨c, h1, h2, h3, h4⟩ := h
  refine ⟨_, heap_set_same h1, by simpa using h2, ?_, fun i hi => ?_⟩
  · rw [Array.getElem?_setIfInBounds_self_of_lt (by omega)]
  · rw [Array.getElem?_setIfInBounds_ne (by omega)]; exact h4 i hi
theorem PL.setp {w : World} {hb : Nat} {v : Value} {pl : Int → Int} (h : PL w hb v pl) {i : Nat} (hi : i < 64) (x : Int) : PL (w.setCell ⟨hb, 1 + i, none⟩ (.int .i64 x)) hb v (updp pl (i : Nat) x) := by
  obtain ⟨c, h1, h2, h3, h4⟩ := h
  refine ⟨_, heap_set_same h1, by simpa using h2, ?_, fun j hj => ?_⟩
  · rw [Array.getElem?_setIfInBounds_ne (by omega)]; exact h3
  · by_cases e : j = i
    · subst e; rw [Array.getElem?_setIfInBounds_self_of_lt (by omega), updp_same]
    · rw [Array.getElem?_setIfInBounds_ne (by omega), updp_other (by omega)]; exact h4 j hj
theorem EN.set {w : World} {g cap n : Nat} {f : Nat → En} (h : EN w g cap n f) (hn : n ≤ cap) {p : Nat} (hp : p < n) (x : En) :
    EN ((w.setCell ⟨g, p * 2, none⟩ (.int .i64 x.1)).setCell ⟨g, p * 2 + 1, none⟩ (.int .i64 x.2)) g cap n (up f p x) := by
  obtain ⟨c, h1, h2, h3⟩ := h
  refine ⟨_, heap_set_same (heap_set_same h1), by simpa using h2, fun i hi => ?_⟩
  have hb : p * 2 + 1 < c.size := by omega
  by_cases e : i = p
  · subst e
    rw [up_same, Array.getElem?_setIfInBounds_ne (by omega), Array.getElem?_setIfInBounds_self_of_lt (by omega), Array.getElem?_setIfInBounds_self_of_lt (by simp; omega)]
    exact ⟨rfl, rfl⟩
  · rw [up_other e, Array.getElem?_setIfInBounds_ne (by omega), Array.getElem?_setIfInBounds_ne (by omega), Array.getElem?_setIfInBounds_ne (by omega), Array.getElem?_setIfInBounds_ne (by omega)]
    exact h3 i hi
theorem EN.setk {w : World} {g cap n : Nat} {f : Nat → En} (h : EN w g cap n f) (hn : n ≤ cap) {p : Nat} (hp : p < n) (k : Int) :
    EN (w.setCell ⟨g, p * 2 + 1, none⟩ (.int .i64 k)) g cap n (up f p ((f p).1, k)) := by
  obtain ⟨c, h1, h2, h3⟩ := h
  refine ⟨_, heap_set_same h1, by simpa using h2, fun i hi => ?_⟩
  have hb : p * 2 + 1 < c.size := by omega
  by_cases e : i = p
  · subst e
    rw [up_same, Array.getElem?_setIfInBounds_ne (by omega), Array.getElem?_setIfInBounds_self_of_lt (by omega)]
    exact ⟨(h3 i hi).1, rfl⟩
  · rw [up_other e, Array.getElem?_setIfInBounds_ne (by omega), Array.getElem?_setIfInBounds_ne (by omega)]
    exact h3 i hi
theorem EN.less {w : World} {g cap n : Nat} {f : Nat → En} (h : EN w g cap n f) {m : Nat} (hm : m ≤ n) : EN w g cap m f := by
  obtain ⟨c, h1, h2, h3⟩ := h; exact ⟨c, h1, h2, fun i hi => h3 i (by omega)⟩

/-- what is heaped, with its entries -/
structure HM (w : World) (hb g cap n : Nat) (f : Nat → En) (pl : Int → Int) : Prop where
  ne : hb ≠ g
  le : n ≤ cap
  max : cap ≤ maxLen
  P : PL w hb (.slice (some ⟨g, 0, none⟩) n cap) pl
  E : EN w g cap n f
/-- the blocks of what is heaped -/
def Two (hb g : Nat) (k : Nat) : Prop := k = hb ∨ k = g
theorem HM.keep {w w' : World} {hb g cap n : Nat} {f : Nat → En} {pl : Int → Int} (h : HM w hb g cap n f pl) (e1 : w'.heap[hb]? = w.heap[hb]?) (e2 : w'.heap[g]? = w.heap[g]?) : HM w' hb g cap n f pl :=
  ⟨h.ne, h.le, h.max, h.P.keep e1, h.E.keep e2⟩
theorem HM.only {S : Nat → Prop} {w w' : World} {hb g cap n : Nat} {f : Nat → En} {pl : Int → Int} (h : HM w hb g cap n f pl) (o : Only S w w') (h1 : ¬ S hb) (h2 : ¬ S g) : HM w' hb g cap n f pl :=
  h.keep (o.block _ h.P.lt h1) (o.block _ h.E.lt h2)
theorem HM.below {w w' : World} {hb g cap n : Nat} {f : Nat → En} {pl : Int → Int} (h : HM w hb g cap n f pl) (b : Below w.heap.size w w') : HM w' hb g cap n f pl :=
  h.keep (b.block _ h.P.lt) (b.block _ h.E.lt)

theorem PL.drew {w : World} {hb : Nat} {v : Value} {pl : Int → Int} (h : PL w hb v pl) : PL w.drew hb v pl := h
theorem EN.drew {w : World} {g cap n : Nat} {f : Nat → En} (h : EN w g cap n f) : EN w.drew g cap n f := h
theorem HM.drew {w : World} {hb g cap n : Nat} {f : Nat → En} {pl : Int → Int} (h : HM w hb g cap n f pl) : HM w.drew hb g cap n f pl := h.keep rfl rfl
theorem HM.alloc {w : World} {hb g cap n : Nat} {f : Nat → En} {pl : Int → Int} (h : HM w hb g cap n f pl) (o : Obj) : HM (w.alloc o) hb g cap n f pl := ⟨h.ne, h.le, h.max, h.P.alloc o, h.E.alloc o⟩
theorem HM.set {w : World} {hb g cap n : Nat} {f : Nat → En} {pl : Int → Int} (h : HM w hb g cap n f pl) {p : Nat} (hp : p < n) (x : En) :
    HM ((w.setCell ⟨g, p * 2, none⟩ (.int .i64 x.1)).setCell ⟨g, p * 2 + 1, none⟩ (.int .i64 x.2)) hb g cap n (up f p x) pl := ⟨h.ne, h.le, h.max, (h.P.other h.ne _).other h.ne _, h.E.set h.le hp x⟩
theorem HM.setk {w : World} {hb g cap n : Nat} {f : Nat → En} {pl : Int → Int} (h : HM w hb g cap n f pl) {p : Nat} (hp : p < n) (k : Int) :
    HM (w.setCell ⟨g, p * 2 + 1, none⟩ (.int .i64 k)) hb g cap n (up f p ((f p).1, k)) pl := ⟨h.ne, h.le, h.max, h.P.other h.ne _, h.E.setk h.le hp k⟩
theorem HM.setp {w : World} {hb g cap n : Nat} {f : Nat → En} {pl : Int → Int} (h : HM w hb g cap n f pl) {i : Nat} (hi : i < 64) (x : Int) :
    HM (w.setCell ⟨hb, 1 + i, none⟩ (.int .i64 x)) hb g cap n f (updp pl i x) := ⟨h.ne, h.le, h.max, h.P.setp hi x, h.E.other (Ne.symm h.ne) _⟩

theorem keep_made {S : Nat → Prop} {w w1 : World} {x y x' y' : Value} {t t' : TypeId} (h : Only S ((w.alloc (.cells #[x, y] t)).alloc (.cells #[x', y'] t')).drew w1) (hS : ¬ S w.heap.size) (hS' : ¬ S (w.heap.size + 1)) :
    (w1.cell? ⟨w.heap.size, 0, none⟩ = some x ∧ w1.cell? ⟨w.heap.size, 1, none⟩ = some y) ∧ w1.cell? ⟨w.heap.size + 1, 0, none⟩ = some x' ∧ w1.cell? ⟨w.heap.size + 1, 1, none⟩ = some y' := by
  have e : w1.heap[w.heap.size]? = some (.cells #[x, y] t (0, 0)) := (h.block w.heap.size (by show _ < ((w.alloc _).alloc _).heap.size; simp; omega) hS).trans (heap_alloc2_old w _ _)
  have e' : w1.heap[w.heap.size + 1]? = some (.cells #[x', y'] t' (0, 0)) := (h.block (w.heap.size + 1) (by show _ < ((w.alloc _).alloc _).heap.size; simp) hS').trans (heap_alloc2_new w _ _)
  refine ⟨⟨?_, ?_⟩, ?_, ?_⟩
  · rw [cell_of_row _ _ _ _ _ _ e]; rfl
  · rw [cell_of_row _ _ _ _ _ _ e]; rfl
  · rw [cell_of_row _ _ _ _ _ _ e']; rfl
  · rw [cell_of_row _ _ _ _ _ _ e']; rfl

end Go.Proofs.Ytfjeoefnpcgnnaa.Rq
