/- A stack, rows of numbers and bools beside each other. -/
import Derived.Test.YtmheggedlepdlaaStaT
namespace Go.Proofs.Ytmheggedlepdlaa
open Go.RowKit Lv Sk Go.Sort
set_option linter.unusedVariables false

def upH (hs : Nat → List Int) (t : Nat) (x : List Int) : Nat → List Int := fun i => if i = t then x else hs i
def upK (ks : Nat → Bool) (r : Nat) (x : Bool) : Nat → Bool := fun i => if i = r then x else ks i
/-- a stack; a block of four rows, each its own; a block of eight bools: all apart -/
structure OX (B : Nat) (W w : World) (sb rb kb : Nat) (z : Nat → Nat → Int) (l : List En) (hs : Nat → List Int) (ks : Nat → Bool) (tv lv : Value) (rv : Nat → Value) : Prop where
  sx : SX B W w sb 4 z l tv lv
  rh : ∃ c, w.heap[rb]? = some (.cells c 41 (0, 0)) ∧ c.size = 4 ∧ ∀ i, i < 4 → c[i]? = some (rv i)
  kh : ∃ c, w.heap[kb]? = some (.cells c 42 (0, 0)) ∧ c.size = 8 ∧ ∀ i, i < 8 → c[i]? = some (.bool (ks i))
  rr : ∀ i, i < 4 → NR w B (rv i) (hs i)
  rB : B ≤ rb ∧ B ≤ kb
  a1 : rb ≠ sb ∧ kb ≠ sb ∧ rb ≠ kb ∧ lv.ownBlock ≠ some rb ∧ lv.ownBlock ≠ some kb ∧ tv.ownBlock ≠ some rb ∧ tv.ownBlock ≠ some kb
  a2 : ∀ i, i < 4 → ∀ k, (rv i).ownBlock = some k → k ≠ sb ∧ k ≠ rb ∧ k ≠ kb ∧ lv.ownBlock ≠ some k ∧ tv.ownBlock ≠ some k
  a3 : ∀ i j, i < 4 → j < 4 → i ≠ j → ∀ k, (rv i).ownBlock = some k → (rv j).ownBlock ≠ some k
  h4 : ∀ i, i < 4 → (hs i).length ≤ 4
/-- they are -/
def OC (B : Nat) (W w : World) (sb rb kb : Nat) (z : Nat → Nat → Int) (l : List En) (hs : Nat → List Int) (ks : Nat → Bool) : Prop := ∃ tv lv rv, OX B W w sb rb kb z l hs ks tv lv rv
section
variable {B : Nat} {W w w' : World} {sb rb kb : Nat} {z : Nat → Nat → Int} {l l' : List En} {hs : Nat → List Int} {ks : Nat → Bool} {tv lv lv' : Value} {rv : Nat → Value}
theorem OX.bsz (h : OX B W w sb rb kb z l hs ks tv lv rv) : B ≤ w.heap.size ∧ sb < w.heap.size ∧ rb < w.heap.size ∧ kb < w.heap.size := by
  obtain ⟨c, h1, _⟩ := h.rh
  obtain ⟨c2, h2, _⟩ := h.kh
  have := lt_of_block h1
  have := lt_of_block h2
  have := lt_of_block h.sx.so.ob
  have := h.rB
  omega
/-- the stack is written -/
theorem OX.op (h : OX B W w sb rb kb z l hs ks tv lv rv) (so : SO w' sb 4 z l' tv lv') (on : Only (SB sb lv) w w') (mv : Mv w lv lv') (ok : Ok 4 l') (h4 : H4 l') : OX B W w' sb rb kb z l' hs ks tv lv' rv := by
  obtain ⟨b0, b1, b2, b3⟩ := h.bsz
  obtain ⟨c, r1, r2⟩ := h.rh
  obtain ⟨c2, k1, k2⟩ := h.kh
  obtain ⟨q1, q2, q3, q4, q5, q6, q7⟩ := h.a1
  have nb : ∀ k, k < w.heap.size → k ≠ sb → lv.ownBlock ≠ some k → w'.heap[k]? = w.heap[k]? := fun k hk e1 e2 => on.block k hk (fun e => by
    rcases e with e | e
    · exact e1 e
    · exact e2 e)
  have hlt : ∀ i, i < 4 → ∀ k, (rv i).ownBlock = some k → k < w.heap.size := fun i hi k hk => (World.ownsRow.lt (h.rr i hi) k hk).2
  have nl : ∀ k, k < w.heap.size → lv.ownBlock ≠ some k → lv'.ownBlock ≠ some k := fun k hk e1 e2 => by
    rcases mv k e2 with q | q
    · exact e1 q
    · omega
  refine ⟨h.sx.op so on ok h4, ⟨c, (nb rb b2 q1 q4).trans r1, r2⟩, ⟨c2, (nb kb b3 q2 q5).trans k1, k2⟩, fun i hi => ?_, h.rB, ⟨q1, q2, q3, nl rb b2 q4, nl kb b3 q5, q6, q7⟩, fun i hi k hk => ?_, h.a3, h.h4⟩
  · exact NR.apart (h.rr i hi) on fun j hj => ⟨(h.a2 i hi j hj).1, (h.a2 i hi j hj).2.2.2.1⟩
  · obtain ⟨p1, p2, p3, p4, p5⟩ := h.a2 i hi k hk
    exact ⟨p1, p2, p3, nl k (hlt i hi k hk) p4, p5⟩
theorem OX.below (h : OX B W w sb rb kb z l hs ks tv lv rv) (q : Below w.heap.size w w') : OX B W w' sb rb kb z l hs ks tv lv rv :=
  h.op (h.sx.so.below q) (Only.of_below q) (Mv.refl _ _) h.sx.ok h.sx.h4
/-- other blocks than the stack's are written -/
theorem SX.other {n : Nat} (h : SX B W w sb n z l tv lv) {row : Option Nat} (hg : w.grownBy w' row) (h0 : ∀ k, row = some k → B ≤ k) (h1 : row ≠ some sb) (h2 : ∀ j, row = some j → lv.ownBlock ≠ some j) (h3 : ∀ j, row = some j → tv.ownBlock ≠ some j) : SX B W w' sb n z l tv lv := by
  have hs := lt_of_block h.so.ob
  have hb := h.hb
  refine ⟨h.so.grown hg h1 h2 h3, h.hb, h.tb, ⟨hg.os.trans h.bel.os, hg.tape.trans h.bel.tape, hg.output.trans h.bel.output, Nat.le_trans h.bel.size hg.size, fun k hk => ?_⟩, h.ok, h.h4, h.n4⟩
  exact (hg.block k (by omega) (fun e => by have := h0 k e.symm; omega)).trans (h.bel.block k hk)
theorem grown_set (w : World) (b o : Nat) (v : Value) : w.grownBy (w.setCell ⟨b, o, none⟩ v) (some b) :=
  ⟨rfl, rfl, rfl, by simp [World.setCell], fun k hk hne => Below.heap_setCell _ _ _ _ (fun e => hne (by rw [e]))⟩
theorem heap_set_same {w : World} {g p : Nat} {c : Array Value} {T : TypeId} (v : Value) (h1 : w.heap[g]? = some (.cells c T (0, 0))) : (w.setCell ⟨g, p, none⟩ v).heap[g]? = some (.cells (c.setIfInBounds p v) T (0, 0)) := by
  simp [World.setCell, Array.getElem?_modify, h1]
/-- a bool is set -/
theorem OC.setK (h : OC B W w sb rb kb z l hs ks) {r : Nat} (hr : r < 8) (x : Bool) : OC B W (w.setCell ⟨kb, r, none⟩ (.bool x)) sb rb kb z l hs (upK ks r x) := by
  obtain ⟨tv, lv, rv, h⟩ := h
  obtain ⟨b0, b1, b2, b3⟩ := h.bsz
  obtain ⟨c, r1, r2⟩ := h.rh
  obtain ⟨c2, k1, k2, k3⟩ := h.kh
  obtain ⟨q1, q2, q3, q4, q5, q6, q7⟩ := h.a1
  have hg := grown_set w kb r (.bool x)
  refine ⟨tv, lv, rv, h.sx.other hg (fun k e => by injection e with e; have := h.rB.2; omega) (fun e => by injection e with e; exact q2 e) (fun j e e2 => by injection e with e; subst e; exact q5 e2) (fun j e e2 => by injection e with e; subst e; exact q7 e2), ⟨c, (hg.block rb b2 (fun e => by injection e with e; exact q3 e)).trans r1, r2⟩, ⟨_, heap_set_same _ k1, by simpa using k2, fun i hi => ?_⟩, fun i hi => ?_, h.rB, h.a1, h.a2, h.a3, h.h4⟩
  · unfold upK
    by_cases e : i = r
    · subst e; rw [Array.getElem?_setIfInBounds_self_of_lt (by omega), if_pos rfl]
    · rw [Array.getElem?_setIfInBounds_ne (by omega), if_neg e]; exact k3 i hi
  · refine World.ownsRow.kept (h.rr i hi) hg ?_
    cases e : (rv i).ownBlock with
    | none => exact Or.inl rfl
    | some k => exact Or.inr fun q => by injection q with q; exact (h.a2 i hi k e).2.2.1 q
/-- a row is set -/
theorem OX.setR (h : OX B W w sb rb kb z l hs ks tv lv rv) {w1 : World} {t : Nat} (ht : t < 4) {v' : Value} {ys : List Int} (hn : NR w1 B v' ys) (hl : ys.length ≤ 4) (hg : w.grownBy w1 (rv t).ownBlock) (hb : (∀ k, v'.ownBlock = some k → (rv t).ownBlock = some k ∨ w.heap.size ≤ k)) :
    OX B W (w1.setCell ⟨rb, t, none⟩ v') sb rb kb z l (upH hs t ys) ks tv lv (fun i => if i = t then v' else rv i) := by
  obtain ⟨b0, b1, b2, b3⟩ := h.bsz
  obtain ⟨c, r1, r2, r3⟩ := h.rh
  obtain ⟨c2, k1, k2, k3⟩ := h.kh
  obtain ⟨q1, q2, q3, q4, q5, q6, q7⟩ := h.a1
  have hlt : ∀ i, i < 4 → ∀ k, (rv i).ownBlock = some k → B ≤ k ∧ k < w.heap.size := fun i hi k hk => World.ownsRow.lt (h.rr i hi) k hk
  have hg2 := grown_set w1 rb t v'
  have s1 : SX B W w1 sb 4 z l tv lv := h.sx.other hg (fun k e => (hlt t ht k e).1) (fun e => (h.a2 t ht sb e).1 rfl) (fun j e => (h.a2 t ht j e).2.2.2.1) (fun j e => (h.a2 t ht j e).2.2.2.2)
  have rh1 : w1.heap[rb]? = some (.cells c 41 (0, 0)) := (hg.block rb b2 (fun e => (h.a2 t ht rb e.symm).2.1 rfl)).trans r1
  have kh1 : w1.heap[kb]? = some (.cells c2 42 (0, 0)) := (hg.block kb b3 (fun e => (h.a2 t ht kb e.symm).2.2.1 rfl)).trans k1
  have av : ∀ k, v'.ownBlock = some k → k ≠ sb ∧ k ≠ rb ∧ k ≠ kb ∧ lv.ownBlock ≠ some k ∧ tv.ownBlock ≠ some k := fun k hk => by
    rcases hb k hk with q | q
    · exact h.a2 t ht k q
    · refine ⟨by omega, by omega, by omega, fun e => ?_, fun e => ?_⟩
      · have := (h.sx.so.pe.lt k e).2; omega
      · have := (h.sx.so.tb k e).2; omega
  have ao : ∀ i, i < 4 → i ≠ t → ∀ k, (rv i).ownBlock = some k → v'.ownBlock ≠ some k := fun i hi hit k hk e => by
    rcases hb k e with q | q
    · exact h.a3 i t hi ht hit k hk q
    · have := (hlt i hi k hk).2; omega
  refine ⟨s1.other hg2 (fun k e => by injection e with e; have := h.rB.1; omega) (fun e => by injection e with e; exact q1 e) (fun j e e2 => by injection e with e; subst e; exact q4 e2) (fun j e e2 => by injection e with e; subst e; exact q6 e2), ⟨_, heap_set_same _ rh1, by simpa using r2, fun i hi => ?_⟩, ⟨c2, (hg2.block kb (lt_of_block kh1) (fun e => by injection e with e; exact q3 e.symm)).trans kh1, k2, k3⟩, fun i hi => ?_, h.rB, h.a1, fun i hi k hk => ?_, fun i j hi hj hij k hk => ?_, fun i hi => ?_⟩
  · by_cases e : i = t
    · subst e; rw [Array.getElem?_setIfInBounds_self_of_lt (by omega), if_pos rfl]
    · rw [Array.getElem?_setIfInBounds_ne (by omega), if_neg e]; exact r3 i hi
  · unfold upH
    by_cases e : i = t
    · subst e
      rw [if_pos rfl, if_pos rfl]
      refine World.ownsRow.kept hn hg2 ?_
      cases e : v'.ownBlock with
      | none => exact Or.inl rfl
      | some k => exact Or.inr fun q => by injection q with q; exact (av k e).2.1 q
    · rw [if_neg e, if_neg e]
      have h1 := h.rr i hi
      have h2 : NR w1 B (rv i) (hs i) := World.ownsRow.kept h1 hg (by
        cases e2 : (rv i).ownBlock with
        | none => exact Or.inl rfl
        | some k => exact Or.inr fun q => h.a3 i t hi ht e k e2 q.symm)
      refine World.ownsRow.kept h2 hg2 ?_
      cases e2 : (rv i).ownBlock with
      | none => exact Or.inl rfl
      | some k => exact Or.inr fun q => by injection q with q; exact (h.a2 i hi k e2).2.1 q
  · by_cases e : i = t
    · rw [if_pos e] at hk; exact av k hk
    · rw [if_neg e] at hk; exact h.a2 i hi k hk
  · by_cases e : i = t
    · rw [if_pos e] at hk
      rw [if_neg (fun e2 => hij (e.trans e2.symm))]
      intro e3
      exact ao j hj (fun e2 => hij (e.trans e2.symm)) k e3 hk
    · rw [if_neg e] at hk
      by_cases e2 : j = t
      · rw [if_pos e2]; exact ao i hi e k hk
      · rw [if_neg e2]; exact h.a3 i j hi hj hij k hk
  · unfold upH
    by_cases e : i = t
    · rw [if_pos e]; exact hl
    · rw [if_neg e]; exact h.h4 i hi
/-- what can be read of them -/
theorem OC.bel (h : OC B W w sb rb kb z l hs ks) : Below B W w := by obtain ⟨_, _, _, h⟩ := h; exact h.sx.bel
theorem OC.below (h : OC B W w sb rb kb z l hs ks) (q : Below w.heap.size w w') : OC B W w' sb rb kb z l hs ks := by obtain ⟨tv, lv, rv, h⟩ := h; exact ⟨tv, lv, rv, h.below q⟩
theorem OC.ss (h : OC B W w sb rb kb z l hs ks) : SS B W w sb 4 z l := by obtain ⟨tv, lv, rv, h⟩ := h; exact ⟨tv, lv, h.sx⟩
theorem OC.ok (h : OC B W w sb rb kb z l hs ks) : Ok 4 l ∧ H4 l := by obtain ⟨tv, lv, rv, h⟩ := h; exact ⟨h.sx.ok, h.sx.h4⟩
theorem OC.len (h : OC B W w sb rb kb z l hs ks) {i : Nat} (hi : i < 4) : (hs i).length ≤ 4 := by obtain ⟨tv, lv, rv, h⟩ := h; exact h.h4 i hi
theorem OC.bit (h : OC B W w sb rb kb z l hs ks) {r : Nat} (hr : r < 8) : w.cell? ⟨kb, r, none⟩ = some (.bool (ks r)) ∧ w.frozen? ⟨kb, r, none⟩ = false := by
  obtain ⟨tv, lv, rv, h⟩ := h
  obtain ⟨c2, k1, k2, k3⟩ := h.kh
  exact ⟨(cell_of_row _ _ r _ _ _ k1).trans (k3 r hr), frozen_of_row _ _ _ _ _ k1⟩
theorem OC.row (h : OC B W w sb rb kb z l hs ks) {t : Nat} (ht : t < 4) : ∃ a cap, w.cell? ⟨rb, t, none⟩ = some (.slice a (hs t).length cap) ∧ w.frozen? ⟨rb, t, none⟩ = false ∧ IS w (.slice a (hs t).length cap) (hs t) := by
  obtain ⟨tv, lv, rv, h⟩ := h
  obtain ⟨c, r1, r2, r3⟩ := h.rh
  have hn := h.rr t ht
  obtain ⟨a, cap, e⟩ := hn.is_form
  rw [e] at hn
  exact ⟨a, cap, ((cell_of_row _ _ t _ _ _ r1).trans (r3 t ht)).trans (by rw [e]), frozen_of_row _ _ _ _ _ r1, hn.is⟩
theorem nums_take (xs : List Int) (n : Nat) : nums (xs.take n) = (nums xs).take n := List.map_take
theorem NR.take {C : Nat} {a : Option Addr} {cap n k : Nat} {xs : List Int} (h : NR w C (.slice a n cap) xs) (hn : n = xs.length) (hk : k ≤ n) : NR w C (.slice a k cap) (xs.take k) := by
  subst hn
  have e1 : (xs.take k).length = k := by rw [List.length_take]; omega
  unfold NR
  rw [e1]
  refine ⟨by unfold nums; simp; omega, ?_⟩
  rcases h.2 with ⟨e, h0⟩ | ⟨g, cap', cur, e, hb, hh, h1, h2, h3, h4⟩
  · have hk0 : k = 0 := by omega
    refine Or.inl ⟨?_, hk0⟩
    injection e with e1' _ e3'
    rw [e1', e3', hk0]
  · simp at e
    obtain ⟨rfl, rfl⟩ := e
    refine Or.inr ⟨g, cap, cur, rfl, hb, hh, by omega, h2, h3, ?_⟩
    rw [nums_take, ← h4, List.take_take]
    congr 1
    omega
/-- a row is cut -/
theorem OC.cut (h : OC B W w sb rb kb z l hs ks) {t : Nat} (ht : t < 4) {k : Nat} (hk : k ≤ (hs t).length) {a : Option Addr} {cap : Nat} (hc : w.cell? ⟨rb, t, none⟩ = some (.slice a (hs t).length cap)) : OC B W (w.setCell ⟨rb, t, none⟩ (.slice a k cap)) sb rb kb z l (upH hs t ((hs t).take k)) ks := by
  obtain ⟨tv, lv, rv, h⟩ := h
  obtain ⟨c, r1, r2, r3⟩ := h.rh
  have e : rv t = .slice a (hs t).length cap := by
    have := ((cell_of_row _ _ t _ _ _ r1).trans (r3 t ht)).symm.trans hc
    injection this
  have hn := h.rr t ht
  rw [e] at hn
  exact ⟨tv, lv, _, h.setR ht (hn.take rfl hk) (by have := h.h4 t ht; rw [List.length_take]; omega) ⟨rfl, rfl, rfl, Nat.le_refl _, fun _ _ _ => rfl⟩ (fun j hj => Or.inl (by rw [e]; cases a <;> exact hj))⟩
/-- a row is made none -/
theorem OC.clr (h : OC B W w sb rb kb z l hs ks) {t : Nat} (ht : t < 4) : OC B W (w.setCell ⟨rb, t, none⟩ (.slice none 0 0)) sb rb kb z l (upH hs t []) ks := by
  obtain ⟨tv, lv, rv, h⟩ := h
  exact ⟨tv, lv, _, h.setR ht (NR.nil w B) (Nat.zero_le _) ⟨rfl, rfl, rfl, Nat.le_refl _, fun _ _ _ => rfl⟩ (fun k hk => by simp [Value.ownBlock] at hk)⟩
/-- a number more in a row -/
theorem OC.app (h : OC B W w sb rb kb z l hs ks) {t : Nat} (ht : t < 4) (h3 : (hs t).length < 4) (x : Int) (ty : TypeId) :
    ∃ a cap va vc w3, w.cell? ⟨rb, t, none⟩ = some (.slice a (hs t).length cap) ∧
      (Builtin.append_ #[40, 40] ty #[.slice a (hs t).length cap, .slice (some ⟨w.heap.size, 0, none⟩) 1 1]).run Try.prog (w.alloc (.cells #[.int .i64 x] 3)) = .ok (.slice va ((hs t).length + 1) vc) w3 ∧
      w3.cell? ⟨rb, t, none⟩ = some (.slice a (hs t).length cap) ∧ w3.frozen? ⟨rb, t, none⟩ = false ∧
      OC B W (w3.setCell ⟨rb, t, none⟩ (.slice va ((hs t).length + 1) vc)) sb rb kb z l (upH hs t (hs t ++ [x])) ks := by
  obtain ⟨a, cap, hc, _, _⟩ := h.row ht
  obtain ⟨tv, lv, rv, h⟩ := h
  have hA : Below w.heap.size w (w.alloc (.cells #[.int .i64 x] 3)) := (Below.refl _ _).alloc (Nat.le_refl _) _
  have h2 := h.below hA
  obtain ⟨c, r1, r2, r3⟩ := h.rh
  obtain ⟨c', r1', r2', r3'⟩ := h2.rh
  have e : rv t = .slice a (hs t).length cap := by
    have := ((cell_of_row _ _ t _ _ _ r1).trans (r3 t ht)).symm.trans hc
    injection this
  have hn := h2.rr t ht
  rw [e] at hn
  obtain ⟨v', w3, hrun, hn3, hg3, hb3⟩ := app_num2 ty x hn (g := w.heap.size) (heap_alloc_new w _) (by have := h.bsz.1; simp; omega) (by omega)
  obtain ⟨va, vc, ev⟩ := hn3.is_form
  rw [show (hs t ++ [x]).length = (hs t).length + 1 by simp] at ev
  subst ev
  have hr3 : w3.heap[rb]? = some (.cells c' 41 (0, 0)) := (hg3.block rb (lt_of_block r1') (fun q => (h.a2 t ht rb (by rw [e]; exact q.symm)).2.1 rfl)).trans r1'
  refine ⟨a, cap, va, vc, w3, hc, hrun, ((cell_of_row _ _ t _ _ _ hr3).trans (r3' t ht)).trans (by rw [e]), frozen_of_row _ _ _ _ _ hr3, tv, lv, _, h2.setR ht hn3 (by simp; omega) (by rw [e]; exact hg3) (fun k hk => ?_)⟩
  rcases hb3 with q | q
  · exact Or.inl (by rw [e, ← q]; exact hk)
  · exact Or.inr (q k hk)
theorem oc_lock (h : OC B W w sb rb kb z l hs ks) (t r : Int) {x : Int} {l' : List En} (h1 : lockE 4 (us 4 (lo z) r t) l t r = x) (h2 : lockL 4 (us 4 (lo z) r t) l t r = l') :
    Calls Try.prog 15 #[.pointer (some ⟨sb, 0, none⟩), .int .i64 t, .int .i64 r] w (fun e w' => e = .returned (.int .i64 x) ∧ OC B W w' sb rb kb z l' hs ks) := by
  obtain ⟨tv, lv, rv, h⟩ := h
  subst h1; subst h2
  refine (lock_any h.sx.so (by have := h.sx.ok.len; omega) h.sx.h4 t r).mono ?_
  rintro e w' ⟨he, lv', so, on, mv⟩
  exact ⟨he, tv, lv', rv, h.op so on mv (lock_ok h.sx.ok) (lock_h4 h.sx.h4)⟩
theorem oc_unl (h : OC B W w sb rb kb z l hs ks) (t : Int) {v : Value} {l' : List En} (h1 : unlV 4 l t = v) (h2 : unlN 4 l t = l') :
    Calls Try.prog 16 #[.pointer (some ⟨sb, 0, none⟩), .int .i64 t] w (fun e w' => e = .returned v ∧ OC B W w' sb rb kb z l' hs ks) := by
  obtain ⟨tv, lv, rv, h⟩ := h
  subst h1; subst h2
  refine (unl_any h.sx.so (by have := h.sx.ok.len; omega) t).mono ?_
  rintro e w' ⟨he, lv', so, on, mv⟩
  exact ⟨he, tv, lv', rv, h.op so on mv (h.sx.ok.sub (unl_sub _ _ _)) (h.sx.h4.sub (unl_sub _ _ _))⟩
theorem oc_drop (h : OC B W w sb rb kb z l hs ks) (t : Int) : Calls Try.prog 17 #[.pointer (some ⟨sb, 0, none⟩), .int .i64 t] w (fun e w' => ∃ r, e = .returned r ∧ NR w' w.heap.size r (held l t).reverse ∧ OC B W w' sb rb kb z (drp l t) hs ks) := by
  obtain ⟨tv, lv, rv, h⟩ := h
  refine (drop_any h.sx.so h.sx.ok t).mono ?_
  rintro e w' ⟨r, he, hr, lv', so, on, mv⟩
  exact ⟨r, he, hr, tv, lv', rv, h.op so on mv (h.sx.ok.sub (drp_sub _ _)) (h.sx.h4.sub (drp_sub _ _))⟩
end
/-- beside a stack, made now -/
theorem OC.new {B : Nat} {W w : World} {sb : Nat} {z : Nat → Nat → Int} {l : List En} (h : SS B W w sb 4 z l) :
    OC B W ((w.alloc (.cells #[.slice none 0 0, .slice none 0 0, .slice none 0 0, .slice none 0 0] 41)).alloc (.cells #[.bool false, .bool false, .bool false, .bool false, .bool false, .bool false, .bool false, .bool false] 42)) sb w.heap.size (w.heap.size + 1) z l (fun _ => []) (fun _ => false) := by
  obtain ⟨tv, lv, h⟩ := h
  have hA : Below w.heap.size w (w.alloc (.cells #[.slice none 0 0, .slice none 0 0, .slice none 0 0, .slice none 0 0] 41)) := (Below.refl _ _).alloc (Nat.le_refl _) _
  have hA2 : Below w.heap.size w ((w.alloc (.cells #[.slice none 0 0, .slice none 0 0, .slice none 0 0, .slice none 0 0] 41)).alloc (.cells #[.bool false, .bool false, .bool false, .bool false, .bool false, .bool false, .bool false, .bool false] 42)) := hA.alloc hA.size _
  have hs := lt_of_block h.so.ob
  have hb := h.hb
  refine ⟨tv, lv, fun _ => .slice none 0 0, h.below hA2, ⟨_, (Below.heap_alloc _ _ _ (by simp)).trans (heap_alloc_new w _), rfl, fun i hi => ?_⟩, ⟨#[.bool false, .bool false, .bool false, .bool false, .bool false, .bool false, .bool false, .bool false], ?_, rfl, fun i hi => ?_⟩, fun i _ => NR.nil _ _, ⟨by omega, by omega⟩, ⟨by omega, by omega, by omega, fun e => ?_, fun e => ?_, fun e => ?_, fun e => ?_⟩, fun i _ k hk => by simp [Value.ownBlock] at hk, fun i j _ _ _ k hk => by simp [Value.ownBlock] at hk, fun i _ => Nat.zero_le _⟩
  · obtain rfl | rfl | rfl | rfl : i = 0 ∨ i = 1 ∨ i = 2 ∨ i = 3 := by omega
    all_goals rfl
  · have := heap_alloc_new (w.alloc (.cells #[.slice none 0 0, .slice none 0 0, .slice none 0 0, .slice none 0 0] 41)) (.cells #[.bool false, .bool false, .bool false, .bool false, .bool false, .bool false, .bool false, .bool false] 42)
    rw [show (w.alloc (.cells #[.slice none 0 0, .slice none 0 0, .slice none 0 0, .slice none 0 0] 41)).heap.size = w.heap.size + 1 by simp] at this
    exact this
  · obtain rfl | rfl | rfl | rfl | rfl | rfl | rfl | rfl : i = 0 ∨ i = 1 ∨ i = 2 ∨ i = 3 ∨ i = 4 ∨ i = 5 ∨ i = 6 ∨ i = 7 := by omega
    all_goals rfl
  · have := (h.so.pe.lt _ e).2; omega
  · have := (h.so.pe.lt _ e).2; omega
  · have := (h.so.tb _ e).2; omega
  · have := (h.so.tb _ e).2; omega
/-- how many entries there are, task by task -/
theorem held_sum {l : List En} (h : ∀ e ∈ l, 0 ≤ e.1 ∧ e.1 < 4) : l.length = (held l 0).length + (held l 1).length + (held l 2).length + (held l 3).length := by
  induction l with
  | nil => rfl
  | cons e l ih =>
    have he := h e List.mem_cons_self
    have ih := ih fun x hx => h x (List.mem_cons_of_mem _ hx)
    have hc : ∀ t, (held (e :: l) t).length = (if e.1 = t then 1 else 0) + (held l t).length := fun t => by
      rw [show e :: l = [e] ++ l from rfl, held_append, held_one, List.length_append]
      split <;> simp
    rw [hc, hc, hc, hc, List.length_cons]
    have : e.1 = 0 ∨ e.1 = 1 ∨ e.1 = 2 ∨ e.1 = 3 := by omega
    rcases this with q | q | q | q <;> simp [q] <;> omega
end Go.Proofs.Ytmheggedlepdlaa
