/- ConfKnown: the chapter's configuration in memory; a configuration whose numbers are set by pointers. -/
import Derived.Test.YthbhkcofhhkcoaaConfKa
namespace Go.Proofs.Ythbhkcofhhkcoaa
open Go.RowKit Pk Cn
set_option linter.unusedVariables false

/-- the chapter's configuration: its blocks -/
structure ChO (n : Int) (w w' : World) : Prop where
  ht : w'.heap[w.heap.size + 1]? = some (.cells #[.int .i64 20, .int .i64 12, .int .i64 n, .int .i64 0, .int .i64 0, .int .i64 0, .int .i64 0, .int .i64 0] 30 (0, 0))
  hp : w'.heap[w.heap.size + 2]? = some (.cells #[.int .i64 10, .int .i64 4, .slice (some ⟨w.heap.size + 1, 0, none⟩) 1 1] 28 (0, 0))
  size : w'.heap.size = w.heap.size + 3
  below : Below w.heap.size w w'
theorem chapter_own (n : Int) (w : World) : Calls Try.prog 7 #[.int .i64 n] w (fun e w' => e = .returned (.agg #[.slice (some ⟨w.heap.size + 2, 0, none⟩) 1 1, .slice none 0 0]) ∧ ChO n w w') := by
  go_enter Try.func7, Try.ntmps7
  go_wp2_with fail
  obtain ⟨h1, h2, h3, hb⟩ := three_new w (.cells #[.slice (some ⟨w.heap.size + 1 + 1, 0, none⟩) 1 1, .slice none 0 0] 25) (.cells #[.int .i64 20, .int .i64 12, .int .i64 n, .int .i64 0, .int .i64 0, .int .i64 0, .int .i64 0, .int .i64 0] 30) (.cells #[.int .i64 10, .int .i64 4, .slice (some ⟨w.heap.size + 1, 0, none⟩) 1 1] 28)
  obtain ⟨e0, e1⟩ := pz2 h1
  refine bodyPost_ret (v := .agg #[.slice (some ⟨w.heap.size + 1 + 1, 0, none⟩) 1 1, .slice none 0 0]) (by simp [results, Try.results7, go_sem, e0, e1]) rfl ?_
  exact ⟨rfl, h2, h3, by simp, hb⟩

/-- its row of partitions -/
theorem ch_row {n : Int} {w w' : World} (h : ChO n w w') : w'.ownsRow (w.heap.size + 1) 28 3 (.slice (some ⟨w.heap.size + 2, 0, none⟩) 1 1) 1 [.int .i64 10, .int .i64 4, .slice (some ⟨w.heap.size + 1, 0, none⟩) 1 1] :=
  ⟨rfl, Or.inr ⟨w.heap.size + 2, 1, _, rfl, by omega, h.hp, Nat.le_refl _, by unfold maxLen; decide, rfl, rfl⟩⟩
def ends20 : List Int := [-1, 0, 1, 2, 4, 5, 8, 15, 16, 17, 20, 21, 30, 31, 60, 61, 64, 65, 255, 256]
theorem is_lit3 (w : World) (l : List Int) (hl : l.length ≤ maxLen) : IS (w.alloc (.cells (l.map (Value.int .i64)).toArray 3)) (.slice (some ⟨w.heap.size, 0, none⟩) l.length l.length) l :=
  ⟨_, _, rfl, Nat.le_refl _, hl, (fun h => by cases h), fun _ => ⟨_, 0, rfl, fun i hi => lit_cell w _ 3 _ _ (by simp [List.getElem?_eq_getElem hi, List.getD])⟩⟩
theorem is_at0 {w : World} {g n cap : Nat} {xs : List Int} (h : IS w (.slice (some ⟨g, 0, none⟩) n cap) xs) (i : Nat) (hi : i < n) : w.cell? ⟨g, i, none⟩ = some (.int .i64 (xs.getD i 0)) := by
  obtain ⟨a', cap', e, h1, h2, h3, h4⟩ := h
  obtain ⟨rfl, rfl, rfl⟩ : a' = some ⟨g, 0, none⟩ ∧ n = xs.length ∧ cap = cap' := by simp at e; exact ⟨e.1.symm, e.2.1, e.2.2⟩
  obtain ⟨b, off, e2, hc⟩ := h4 (by omega)
  simp only [Option.some.injEq, Addr.mk.injEq] at e2
  obtain ⟨rfl, rfl, _⟩ := e2
  simpa using hc i hi
/-- the nineteen places: two of a partition, eight of a task, nine of two ports -/
def adB (g gt go j : Nat) : Nat := if j < 2 then g else if j < 10 then gt else go
def adO (j : Nat) : Nat := if j < 2 then j else if j < 10 then j - 2 else if j < 16 then j - 10 else if j = 16 then 6 else j - 7
def ad (g gt go j : Nat) : Addr := ⟨adB g gt go j, adO j, none⟩
theorem ad_ne {g gt go j k : Nat} (h1 : g ≠ gt) (h2 : g ≠ go) (h3 : gt ≠ go) (hj : j < 19) (hk : k < 19) (h : j ≠ k) : ad g gt go k ≠ ad g gt go j := by
  intro e
  simp only [ad, Addr.mk.injEq, and_true] at e
  obtain ⟨e1, e2⟩ := e
  unfold adB at e1
  unfold adO at e2
  split at e1 <;> split at e1 <;> (try split at e1) <;> (try split at e1) <;> (try split at e2) <;> (try split at e2) <;> (try split at e2) <;> (try split at e2) <;> (try split at e2) <;> (try split at e2) <;> (try split at e2) <;> (try split at e2) <;> omega
/-- the numbers of the configuration that ConfKnown sets one by one -/
def f0 (j : Nat) : Int := [10, 4, 64, 60, 30, 255, 30, 4, 4, 2, 1, 0, 1, 5, 0, 5, 2, 2, 0].getD j 0
def fk (k : Nat) (n : Int) (j : Nat) : Int := if j = k then n else f0 j
def tk19 (F : Nat → Int) : Tk := ⟨F 2, F 3, F 4, F 5, F 6, F 7, F 8, F 9⟩
def cf19 (F : Nat → Int) : Cf := ⟨[⟨F 0, F 1, [tk19 F]⟩, ⟨9, 9, []⟩], [⟨F 10, F 11, F 12, F 13, F 14, F 15⟩, ⟨F 16, 1, 0, 5, F 17, F 18⟩]⟩
/-- that configuration in memory -/
structure CM (W : World) (s1 g gc go gt cap : Nat) (F : Nat → Int) (T : Tk) : Prop where
  hc : W.heap[gc]? = some (.cells #[.slice (some ⟨g, 0, none⟩) 2 cap, .slice (some ⟨go, 0, none⟩) 2 2] 25 (0, 0))
  hs : W.heap[s1]? = some (.cells #[.int .i64 T.p, .int .i64 T.d, .int .i64 T.b, .int .i64 T.l, .int .i64 T.o, .int .i64 T.g, .int .i64 T.n, .int .i64 T.k] 30 (0, 0))
  ha : ∀ j, j < 19 → W.cell? (ad g gt go j) = some (.int .i64 (F j)) ∧ W.frozen? (ad g gt go j) = false
  g2 : W.cell? ⟨g, 2, none⟩ = some (.slice (some ⟨s1, 0, none⟩) 1 1)
  g3 : W.cell? ⟨g, 3, none⟩ = some (.int .i64 9)
  g4 : W.cell? ⟨g, 4, none⟩ = some (.int .i64 9)
  g5 : W.cell? ⟨g, 5, none⟩ = some (.slice none 0 0)
  o7 : W.cell? ⟨go, 7, none⟩ = some (.int .i64 1)
  o8 : W.cell? ⟨go, 8, none⟩ = some (.int .i64 0)
  o9 : W.cell? ⟨go, 9, none⟩ = some (.int .i64 5)
  ne : (gc ≠ g ∧ gc ≠ gt ∧ gc ≠ go ∧ gc ≠ s1) ∧ (s1 ≠ g ∧ s1 ≠ gt ∧ s1 ≠ go) ∧ g ≠ gt ∧ g ≠ go ∧ gt ≠ go
  cap : 2 ≤ cap ∧ cap ≤ maxLen
theorem ad_off {g gt go k b o : Nat} (h : (b = g ∧ 2 ≤ o) ∨ (b = go ∧ 7 ≤ o ∧ o ≤ 9)) (ne : g ≠ gt ∧ g ≠ go ∧ gt ≠ go) (hk : k < 19) : ad g gt go k ≠ ⟨b, o, none⟩ := by
  intro e
  simp only [ad, Addr.mk.injEq, and_true] at e
  obtain ⟨e1, e2⟩ := e
  unfold adB at e1
  unfold adO at e2
  split at e1 <;> (try split at e1) <;> split at e2 <;> (try split at e2) <;> (try split at e2) <;> (try split at e2) <;> omega
theorem ad_blk (g gt go k : Nat) : (ad g gt go k).block = g ∨ (ad g gt go k).block = gt ∨ (ad g gt go k).block = go := by
  simp only [ad, adB]
  split
  · exact Or.inl rfl
  · split
    · exact Or.inr (Or.inl rfl)
    · exact Or.inr (Or.inr rfl)
theorem CM.set {W : World} {s1 g gc go gt cap : Nat} {F : Nat → Int} {T : Tk} (h : CM W s1 g gc go gt cap F T) {k : Nat} (hk : k < 19) (n : Int) :
    CM (W.setCell (ad g gt go k) (.int .i64 n)) s1 g gc go gt cap (fun j => if j = k then n else F j) T := by
  obtain ⟨hc, hs, ha, g2, g3, g4, g5, o7, o8, o9, hne, hcap⟩ := h
  obtain ⟨⟨n1, n2, n3, n4⟩, ⟨m1, m2, m3⟩, q⟩ := hne
  have hb := ad_blk g gt go k
  have oth : ∀ b, b ≠ g → b ≠ gt → b ≠ go → (W.setCell (ad g gt go k) (.int .i64 n)).heap[b]? = W.heap[b]? := fun b h1 h2 h3 => Below.heap_setCell _ _ _ _ (by rcases hb with e | e | e <;> rw [e] <;> assumption)
  have off : ∀ {b o x}, W.cell? ⟨b, o, none⟩ = some x → ((b = g ∧ 2 ≤ o) ∨ (b = go ∧ 7 ≤ o ∧ o ≤ 9)) → (W.setCell (ad g gt go k) (.int .i64 n)).cell? ⟨b, o, none⟩ = some x := fun hx hh => (World.cell?_setCell_other _ _ _ _ (ad_off hh q hk)).trans hx
  refine ⟨(oth gc n1 n2 n3).trans hc, (oth s1 m1 m2 m3).trans hs, fun j hj => ⟨?_, by rw [World.frozen?_setCell]; exact (ha j hj).2⟩, off g2 (Or.inl ⟨rfl, by omega⟩), off g3 (Or.inl ⟨rfl, by omega⟩), off g4 (Or.inl ⟨rfl, by omega⟩), off g5 (Or.inl ⟨rfl, by omega⟩), off o7 (Or.inr ⟨rfl, by omega, by omega⟩), off o8 (Or.inr ⟨rfl, by omega, by omega⟩), off o9 (Or.inr ⟨rfl, by omega, by omega⟩), ⟨⟨n1, n2, n3, n4⟩, ⟨m1, m2, m3⟩, q⟩, hcap⟩
  by_cases e : j = k
  · subst e
    rw [if_pos rfl]
    exact World.cell?_setCell_same _ _ _ (ha j hj).1
  · rw [if_neg e]
    exact (World.cell?_setCell_other _ _ _ _ (ad_ne q.1 q.2.1 q.2.2 hj hk e)).trans (ha j hj).1
theorem CM.keep {W W' : World} {s1 g gc go gt cap : Nat} {F : Nat → Int} {T : Tk} (h : CM W s1 g gc go gt cap F T) (b : Below W.heap.size W W') : CM W' s1 g gc go gt cap F T := by
  obtain ⟨hc, hs, ha, g2, g3, g4, g5, o7, o8, o9, hne, hcap⟩ := h
  have k : ∀ {p x}, W.cell? p = some x → W'.cell? p = some x := fun hp => (b.cell (lt_of_cell hp)).trans hp
  exact ⟨blk hc b, blk hs b, fun j hj => ⟨k (ha j hj).1, (World.frozen?_of_block (b.block _ (lt_of_cell (ha j hj).1))).trans (ha j hj).2⟩, k g2, k g3, k g4, k g5, k o7, k o8, k o9, hne, hcap⟩
theorem CM.cf {W : World} {s1 g gc go gt cap : Nat} {F : Nat → Int} (h : CM W s1 g gc go gt cap F (tk19 F)) : CF W 0 (.agg #[.slice (some ⟨g, 0, none⟩) 2 cap, .slice (some ⟨go, 0, none⟩) 2 2]) (cf19 F) := by
  obtain ⟨hc, hs, ha, g2, g3, g4, g5, o7, o8, o9, hne, hcap⟩ := h
  have a := fun j hj => (ha j hj).1
  refine ⟨_, _, rfl, ⟨_, cap, rfl, hcap.1, hcap.2, (fun h => by cases h), fun _ => ⟨g, 0, rfl, Nat.zero_le _, fun i hi => ?_⟩⟩, ⟨_, 2, rfl, Nat.le_refl _, by unfold maxLen; decide, (fun h => by cases h), fun _ => ⟨go, 0, rfl, Nat.zero_le _, fun i hi j hj => ?_⟩⟩⟩
  · have hi2 : i < 2 := hi
    match i, hi2 with
    | 0, _ =>
      refine ⟨a 0 (by decide), a 1 (by decide), _, g2, ⟨_, 1, rfl, Nat.le_refl _, by unfold maxLen; decide, (fun h => by cases h), fun _ => ⟨s1, 0, rfl, Nat.zero_le _, fun i hi j hj => ?_⟩⟩⟩
      obtain rfl : i = 0 := by have : i < 1 := hi; omega
      refine (cell_of_row _ _ (0 + 0 * 8 + j) _ _ _ hs).trans ?_
      match j, hj with
      | 0, _ => rfl
      | 1, _ => rfl
      | 2, _ => rfl
      | 3, _ => rfl
      | 4, _ => rfl
      | 5, _ => rfl
      | 6, _ => rfl
      | 7, _ => rfl
    | 1, _ => exact ⟨g3, g4, _, g5, TS.nil _ _⟩
  · have hi2 : i < 2 := hi
    match i, hi2, j, hj with
    | 0, _, 0, _ => exact a 10 (by decide)
    | 0, _, 1, _ => exact a 11 (by decide)
    | 0, _, 2, _ => exact a 12 (by decide)
    | 0, _, 3, _ => exact a 13 (by decide)
    | 0, _, 4, _ => exact a 14 (by decide)
    | 0, _, 5, _ => exact a 15 (by decide)
    | 1, _, 0, _ => exact a 16 (by decide)
    | 1, _, 1, _ => exact o7
    | 1, _, 2, _ => exact o8
    | 1, _, 3, _ => exact o9
    | 1, _, 4, _ => exact a 17 (by decide)
    | 1, _, 5, _ => exact a 18 (by decide)
theorem cf19_size (F : Nat → Int) : CfgSize (cf19 F) := by
  refine ⟨by simp [cf19], by simp [cf19], fun i hi => ?_⟩
  have hi2 : i < 2 := hi
  match i, hi2 with
  | 0, _ => simp [cf19, List.getD]
  | 1, _ => simp [cf19, List.getD]
def tCh : Tk := ⟨20, 12, 3, 0, 0, 0, 0, 0⟩
/-- the two ports, the task that ConfKnown lays -/
def pCells : Array Value := #[.int .i64 1, .int .i64 0, .int .i64 1, .int .i64 5, .int .i64 0, .int .i64 5, .int .i64 2, .int .i64 1, .int .i64 0, .int .i64 5, .int .i64 2, .int .i64 0]
def tCells : Array Value := #[.int .i64 64, .int .i64 60, .int .i64 30, .int .i64 255, .int .i64 30, .int .i64 4, .int .i64 4, .int .i64 2]
def W6 (w5 : World) (gc : Nat) (v' : Value) : World := (w5.setCell ⟨gc, 0, none⟩ v').alloc (.cells pCells 32)
def W7 (w5 : World) (gc : Nat) (v' : Value) : World := ((W6 w5 gc v').setCell ⟨gc, 1, none⟩ (.slice (some ⟨w5.heap.size, 0, none⟩) 2 2)).alloc (.cells tCells 30)
theorem cm_start {w w4 w5 : World} {v' : Value} (h : ChO 3 w w4) (hown : w5.ownsRow (w.heap.size + 1) 28 3 v' (1 + 1) ([.int .i64 10, .int .i64 4, .slice (some ⟨w.heap.size + 1, 0, none⟩) 1 1] ++ [.int .i64 9, .int .i64 9, .slice none 0 0]))
    (hgr : ((w4.alloc (.cells #[.slice (some ⟨w.heap.size + 2, 0, none⟩) 1 1, .slice none 0 0] 25)).alloc (.cells #[.int .i64 9, .int .i64 9, .slice none 0 0] 28)).grownBy w5 (Value.slice (some ⟨w.heap.size + 2, 0, none⟩) 1 1).ownBlock) :
    ∃ g cap, v' = .slice (some ⟨g, 0, none⟩) 2 cap ∧ w5.heap[w4.heap.size]? = some (.cells #[.slice (some ⟨w.heap.size + 2, 0, none⟩) 1 1, .slice none 0 0] 25 (0, 0)) ∧
      (W6 w5 w4.heap.size v').heap[w4.heap.size]? = some (.cells #[v', .slice none 0 0] 25 (0, 0)) ∧
      CM (W7 w5 w4.heap.size v') (w.heap.size + 1) g w4.heap.size w5.heap.size (w5.heap.size + 1) cap f0 tCh ∧ Below w.heap.size w (W7 w5 w4.heap.size v') ∧ w.heap.size ≤ g ∧ w.heap.size ≤ w5.heap.size := by
  have hsz := h.size
  have hgs := hgr.size
  simp at hgs
  have hob : (Value.slice (some ⟨w.heap.size + 2, 0, none⟩) 1 1).ownBlock = some (w.heap.size + 2) := rfl
  rw [hob] at hgr
  have old : ∀ b, b < w4.heap.size → b ≠ w.heap.size + 2 → w5.heap[b]? = w4.heap[b]? := fun b h1 h2 => (hgr.block b (by simp; omega) (by intro e; exact h2 (Option.some.inj e))).trans ((Below.heap_alloc _ _ _ (by simp; omega)).trans (Below.heap_alloc _ _ _ h1))
  have hgc : w5.heap[w4.heap.size]? = some (.cells #[.slice (some ⟨w.heap.size + 2, 0, none⟩) 1 1, .slice none 0 0] 25 (0, 0)) :=
    (hgr.block _ (by simp; omega) (by intro e; have := Option.some.inj e; omega)).trans ((Below.heap_alloc _ _ _ (by simp)).trans (heap_alloc_new _ _))
  have hs1 := (old (w.heap.size + 1) (by omega) (by omega)).trans h.ht
  have hn1 := own_ne hown hgc (by decide)
  have hn2 := own_ne hown hs1 (by decide)
  rcases hown.2 with ⟨_, h0⟩ | ⟨g, cap, cur, rfl, hg, hh, hc1, hc2, hc3, hc4⟩
  · omega
  · have hg1 : w4.heap.size ≠ g := fun e => hn1 (by rw [e]; rfl)
    have hg2 : w.heap.size + 1 ≠ g := fun e => hn2 (by rw [e]; rfl)
    have hgl := (Array.getElem?_eq_some_iff.1 hh).1
    have h6 : (W6 w5 w4.heap.size (.slice (some ⟨g, 0, none⟩) (1 + 1) cap)).heap[w4.heap.size]? = some (.cells #[.slice (some ⟨g, 0, none⟩) (1 + 1) cap, .slice none 0 0] 25 (0, 0)) :=
      (Below.heap_alloc _ _ _ (by simp [World.setCell]; omega)).trans (heap_set_same hgc)
    have s6 : (W6 w5 w4.heap.size (.slice (some ⟨g, 0, none⟩) (1 + 1) cap)).heap.size = w5.heap.size + 1 := by simp [W6, World.setCell]
    have o7 : ∀ b, b < w5.heap.size → b ≠ w4.heap.size → (W7 w5 w4.heap.size (.slice (some ⟨g, 0, none⟩) (1 + 1) cap)).heap[b]? = w5.heap[b]? := fun b h1 h2 =>
      (Below.heap_alloc _ _ _ (by simp only [World.size_setCell]; rw [s6]; omega)).trans ((heap_set_other h2).trans ((Below.heap_alloc _ _ _ (by simp only [World.size_setCell]; exact h1)).trans (heap_set_other h2)))
    have hc7 : (W7 w5 w4.heap.size (.slice (some ⟨g, 0, none⟩) (1 + 1) cap)).heap[w4.heap.size]? = some (.cells #[.slice (some ⟨g, 0, none⟩) 2 cap, .slice (some ⟨w5.heap.size, 0, none⟩) 2 2] 25 (0, 0)) :=
      (Below.heap_alloc _ _ _ (by simp only [World.size_setCell]; rw [s6]; omega)).trans (heap_set_same h6)
    have hp7 : (W7 w5 w4.heap.size (.slice (some ⟨g, 0, none⟩) (1 + 1) cap)).heap[w5.heap.size]? = some (.cells pCells 32 (0, 0)) := by
      refine (Below.heap_alloc _ _ _ (by simp only [World.size_setCell]; rw [s6]; omega)).trans ((heap_set_other (by omega)).trans ?_)
      have := heap_alloc_new (w5.setCell ⟨w4.heap.size, 0, none⟩ (.slice (some ⟨g, 0, none⟩) (1 + 1) cap)) (.cells pCells 32)
      simp only [World.size_setCell] at this
      exact this
    have ht7 : (W7 w5 w4.heap.size (.slice (some ⟨g, 0, none⟩) (1 + 1) cap)).heap[w5.heap.size + 1]? = some (.cells tCells 30 (0, 0)) := by
      have := heap_alloc_new ((W6 w5 w4.heap.size (.slice (some ⟨g, 0, none⟩) (1 + 1) cap)).setCell ⟨w4.heap.size, 1, none⟩ (.slice (some ⟨w5.heap.size, 0, none⟩) 2 2)) (.cells tCells 30)
      simp only [World.size_setCell, s6] at this
      exact this
    have hg7 := (o7 g hgl (Ne.symm hg1)).trans hh
    have cu : ∀ i u, ([Value.int .i64 10, .int .i64 4, .slice (some ⟨w.heap.size + 1, 0, none⟩) 1 1] ++ [.int .i64 9, .int .i64 9, .slice none 0 0])[i]? = some u → (W7 w5 w4.heap.size (.slice (some ⟨g, 0, none⟩) (1 + 1) cap)).cell? ⟨g, i, none⟩ = some u := by
      intro i u hu
      rw [cell_of_row _ g i _ _ _ hg7, ← Array.getElem?_toList]
      have hi : i < 6 := (List.getElem?_eq_some_iff.1 hu).1
      rw [← hc4, List.getElem?_take, if_pos (by omega)] at hu
      exact hu
    refine ⟨g, cap, rfl, hgc, h6, ⟨hc7, (o7 _ (by omega) (by omega)).trans hs1, fun j hj => ?_, cu 2 _ rfl, cu 3 _ rfl, cu 4 _ rfl, cu 5 _ rfl, cell_of_row _ _ 7 _ _ _ hp7, cell_of_row _ _ 8 _ _ _ hp7, cell_of_row _ _ 9 _ _ _ hp7, ⟨⟨hg1, by omega, by omega, by omega⟩, ⟨hg2, by omega, by omega⟩, by omega, by omega, by omega⟩, hc1, hc2⟩, ?_, by omega, by omega⟩
    · have fg := fun i => frozen_of_row _ g i _ _ hg7
      have fp := fun i => frozen_of_row _ _ i _ _ hp7
      have ft := fun i => frozen_of_row _ _ i _ _ ht7
      match j, hj with
      | 0, _ => exact ⟨cu 0 _ rfl, fg 0⟩
      | 1, _ => exact ⟨cu 1 _ rfl, fg 1⟩
      | 2, _ => exact ⟨cell_of_row _ _ 0 _ _ _ ht7, ft 0⟩
      | 3, _ => exact ⟨cell_of_row _ _ 1 _ _ _ ht7, ft 1⟩
      | 4, _ => exact ⟨cell_of_row _ _ 2 _ _ _ ht7, ft 2⟩
      | 5, _ => exact ⟨cell_of_row _ _ 3 _ _ _ ht7, ft 3⟩
      | 6, _ => exact ⟨cell_of_row _ _ 4 _ _ _ ht7, ft 4⟩
      | 7, _ => exact ⟨cell_of_row _ _ 5 _ _ _ ht7, ft 5⟩
      | 8, _ => exact ⟨cell_of_row _ _ 6 _ _ _ ht7, ft 6⟩
      | 9, _ => exact ⟨cell_of_row _ _ 7 _ _ _ ht7, ft 7⟩
      | 10, _ => exact ⟨cell_of_row _ _ 0 _ _ _ hp7, fp 0⟩
      | 11, _ => exact ⟨cell_of_row _ _ 1 _ _ _ hp7, fp 1⟩
      | 12, _ => exact ⟨cell_of_row _ _ 2 _ _ _ hp7, fp 2⟩
      | 13, _ => exact ⟨cell_of_row _ _ 3 _ _ _ hp7, fp 3⟩
      | 14, _ => exact ⟨cell_of_row _ _ 4 _ _ _ hp7, fp 4⟩
      | 15, _ => exact ⟨cell_of_row _ _ 5 _ _ _ hp7, fp 5⟩
      | 16, _ => exact ⟨cell_of_row _ _ 6 _ _ _ hp7, fp 6⟩
      | 17, _ => exact ⟨cell_of_row _ _ 10 _ _ _ hp7, fp 10⟩
      | 18, _ => exact ⟨cell_of_row _ _ 11 _ _ _ hp7, fp 11⟩
      | n + 19, h => omega
    · have hb := h.below
      refine ⟨hgr.os.trans hb.os, hgr.tape.trans hb.tape, hgr.output.trans hb.output, ?_, fun b hbl => ?_⟩
      · show w.heap.size ≤ (((W6 w5 w4.heap.size (.slice (some ⟨g, 0, none⟩) (1 + 1) cap)).setCell ⟨w4.heap.size, 1, none⟩ (.slice (some ⟨w5.heap.size, 0, none⟩) 2 2)).alloc (.cells tCells 30)).heap.size
        simp [s6]; omega
      · exact (o7 b (by omega) (by omega)).trans ((old b (by omega) (by omega)).trans (hb.block b hbl))
theorem below_set {B : Nat} {w w' : World} (h : Below B w w') {p : Addr} (hp : B ≤ p.block) (u : Value) : Below B w (w'.setCell p u) :=
  ⟨h.os, h.tape, h.output, by have := h.size; simpa [World.setCell] using this, fun k hk => (Below.heap_setCell _ _ _ _ (by omega)).trans (h.block k hk)⟩
/-- the task is stored into the partition's row -/
def put8 (W : World) (s1 : Nat) (F : Nat → Int) : World :=
  (((((((W.setCell ⟨s1, 0, none⟩ (.int .i64 (F 2))).setCell ⟨s1, 1, none⟩ (.int .i64 (F 3))).setCell ⟨s1, 2, none⟩ (.int .i64 (F 4))).setCell ⟨s1, 3, none⟩ (.int .i64 (F 5))).setCell ⟨s1, 4, none⟩ (.int .i64 (F 6))).setCell ⟨s1, 5, none⟩ (.int .i64 (F 7))).setCell ⟨s1, 6, none⟩ (.int .i64 (F 8))).setCell ⟨s1, 7, none⟩ (.int .i64 (F 9))
theorem below_put8 {B : Nat} {w w' : World} (h : Below B w w') {s1 : Nat} (hp : B ≤ s1) (F : Nat → Int) : Below B w (put8 w' s1 F) :=
  below_set (below_set (below_set (below_set (below_set (below_set (below_set (below_set h hp _) hp _) hp _) hp _) hp _) hp _) hp _) hp _
theorem put8_other {W : World} {s1 b : Nat} {F : Nat → Int} (h : b ≠ s1) : (put8 W s1 F).heap[b]? = W.heap[b]? := by
  unfold put8
  rw [heap_set_other h, heap_set_other h, heap_set_other h, heap_set_other h, heap_set_other h, heap_set_other h, heap_set_other h, heap_set_other h]
theorem CM.putT {W : World} {s1 g gc go gt cap : Nat} {F : Nat → Int} {T : Tk} (h : CM W s1 g gc go gt cap F T) : CM (put8 W s1 F) s1 g gc go gt cap F (tk19 F) := by
  obtain ⟨hc, hs, ha, g2, g3, g4, g5, o7, o8, o9, hne, hcap⟩ := h
  obtain ⟨⟨n1, n2, n3, n4⟩, ⟨m1, m2, m3⟩, q⟩ := hne
  have k : ∀ {b o x}, b ≠ s1 → W.cell? ⟨b, o, none⟩ = some x → (put8 W s1 F).cell? ⟨b, o, none⟩ = some x := fun hb hp => (World.cell?_of_block (a := ⟨_, _, none⟩) (put8_other hb)).trans hp
  refine ⟨(put8_other n4).trans hc, ?_, fun j hj => ?_, k (Ne.symm m1) g2, k (Ne.symm m1) g3, k (Ne.symm m1) g4, k (Ne.symm m1) g5, k (Ne.symm m3) o7, k (Ne.symm m3) o8, k (Ne.symm m3) o9, ⟨⟨n1, n2, n3, n4⟩, ⟨m1, m2, m3⟩, q⟩, hcap⟩
  · have h0 := heap_set_same (i := 0) (v := .int .i64 (F 2)) hs
    have h1 := heap_set_same (i := 1) (v := .int .i64 (F 3)) h0
    have h2 := heap_set_same (i := 2) (v := .int .i64 (F 4)) h1
    have h3 := heap_set_same (i := 3) (v := .int .i64 (F 5)) h2
    have h4 := heap_set_same (i := 4) (v := .int .i64 (F 6)) h3
    have h5 := heap_set_same (i := 5) (v := .int .i64 (F 7)) h4
    have h6 := heap_set_same (i := 6) (v := .int .i64 (F 8)) h5
    have h7 := heap_set_same (i := 7) (v := .int .i64 (F 9)) h6
    simp only [List.setIfInBounds_toArray, List.set_cons_zero, List.set_cons_succ] at h7
    exact h7
  · have hb : (ad g gt go j).block ≠ s1 := by rcases ad_blk g gt go j with e | e | e <;> rw [e] <;> (apply Ne.symm; assumption)
    exact ⟨(World.cell?_of_block (put8_other hb)).trans (ha j hj).1, (World.frozen?_of_block (put8_other hb)).trans (ha j hj).2⟩
theorem list_at {l : List Value} {k : Nat} {v : Value} (h : l.toArray[k]? = some v) (hk : k < l.length) : l[k]'hk = v := by
  rw [List.getElem?_toArray, List.getElem?_eq_getElem hk] at h
  exact Option.some.inj h
theorem cm_cells {W : World} {s1 g gc go gt cap : Nat} {F : Nat → Int} {T : Tk} (h : CM W s1 g gc go gt cap F T) :
    W.cell? ⟨gc, 0, none⟩ = some (.slice (some ⟨g, 0, none⟩) 2 cap) ∧ W.cell? ⟨g, 2, none⟩ = some (.slice (some ⟨s1, 0, none⟩) 1 1) ∧ W.cell? ⟨gt, 0, none⟩ = some (.int .i64 (F 2)) ∧ W.cell? ⟨gt, 1, none⟩ = some (.int .i64 (F 3)) ∧ W.cell? ⟨gt, 2, none⟩ = some (.int .i64 (F 4)) ∧ W.cell? ⟨gt, 3, none⟩ = some (.int .i64 (F 5)) ∧
      W.cell? ⟨gt, 4, none⟩ = some (.int .i64 (F 6)) ∧ W.cell? ⟨gt, 5, none⟩ = some (.int .i64 (F 7)) ∧ W.cell? ⟨gt, 6, none⟩ = some (.int .i64 (F 8)) ∧ W.cell? ⟨gt, 7, none⟩ = some (.int .i64 (F 9)) :=
  ⟨(pz2 h.hc).1, h.g2, (h.ha 2 (by decide)).1, (h.ha 3 (by decide)).1, (h.ha 4 (by decide)).1, (h.ha 5 (by decide)).1, (h.ha 6 (by decide)).1, (h.ha 7 (by decide)).1, (h.ha 8 (by decide)).1, (h.ha 9 (by decide)).1⟩
theorem cm_frozen {W : World} {s1 g gc go gt cap : Nat} {F : Nat → Int} {T : Tk} (h : CM W s1 g gc go gt cap F T) :
    W.frozen? ⟨s1, 0, none⟩ = false ∧ W.frozen? ⟨s1, 1, none⟩ = false ∧ W.frozen? ⟨s1, 2, none⟩ = false ∧ W.frozen? ⟨s1, 3, none⟩ = false ∧ W.frozen? ⟨s1, 4, none⟩ = false ∧ W.frozen? ⟨s1, 5, none⟩ = false ∧ W.frozen? ⟨s1, 6, none⟩ = false ∧ W.frozen? ⟨s1, 7, none⟩ = false ∧
    W.cell? ⟨s1, 0, none⟩ = some (.int .i64 T.p) ∧ W.cell? ⟨s1, 1, none⟩ = some (.int .i64 T.d) ∧ W.cell? ⟨s1, 2, none⟩ = some (.int .i64 T.b) ∧ W.cell? ⟨s1, 3, none⟩ = some (.int .i64 T.l) ∧ W.cell? ⟨s1, 4, none⟩ = some (.int .i64 T.o) ∧ W.cell? ⟨s1, 5, none⟩ = some (.int .i64 T.g) ∧ W.cell? ⟨s1, 6, none⟩ = some (.int .i64 T.n) ∧ W.cell? ⟨s1, 7, none⟩ = some (.int .i64 T.k) := by
  have f := fun i => frozen_of_row W s1 i _ _ h.hs
  have c := fun i => cell_of_row W s1 i _ _ _ h.hs
  exact ⟨f 0, f 1, f 2, f 3, f 4, f 5, f 6, f 7, c 0, c 1, c 2, c 3, c 4, c 5, c 6, c 7⟩
theorem CM.drew {W : World} {s1 g gc go gt cap : Nat} {F : Nat → Int} {T : Tk} (h : CM W s1 g gc go gt cap F T) : CM W.drew s1 g gc go gt cap F T := ⟨h.hc, h.hs, h.ha, h.g2, h.g3, h.g4, h.g5, h.o7, h.o8, h.o9, h.ne, h.cap⟩
/-- the pointers -/
def ptrs (g gt go : Nat) : Array Value := #[.pointer (some ⟨g, 0, none⟩), .pointer (some ⟨g, 1, none⟩), .pointer (some ⟨gt, 0, none⟩), .pointer (some ⟨gt, 1, none⟩), .pointer (some ⟨gt, 2, none⟩), .pointer (some ⟨gt, 3, none⟩), .pointer (some ⟨gt, 4, none⟩), .pointer (some ⟨gt, 5, none⟩), .pointer (some ⟨gt, 6, none⟩), .pointer (some ⟨gt, 7, none⟩),
  .pointer (some ⟨go, 0, none⟩), .pointer (some ⟨go, 1, none⟩), .pointer (some ⟨go, 2, none⟩), .pointer (some ⟨go, 3, none⟩), .pointer (some ⟨go, 4, none⟩), .pointer (some ⟨go, 5, none⟩), .pointer (some ⟨go, 6, none⟩), .pointer (some ⟨go, 10, none⟩), .pointer (some ⟨go, 11, none⟩)]
theorem ptr_at (g gt go : Nat) {k : Nat} (hk : k < 19) : (ptrs g gt go)[k]? = some (.pointer (some (ad g gt go k))) := by
  match k, hk with
  | 0, _ => rfl
  | 1, _ => rfl
  | 2, _ => rfl
  | 3, _ => rfl
  | 4, _ => rfl
  | 5, _ => rfl
  | 6, _ => rfl
  | 7, _ => rfl
  | 8, _ => rfl
  | 9, _ => rfl
  | 10, _ => rfl
  | 11, _ => rfl
  | 12, _ => rfl
  | 13, _ => rfl
  | 14, _ => rfl
  | 15, _ => rfl
  | 16, _ => rfl
  | 17, _ => rfl
  | 18, _ => rfl
  | n + 19, h => omega
end Go.Proofs.Ythbhkcofhhkcoaa
