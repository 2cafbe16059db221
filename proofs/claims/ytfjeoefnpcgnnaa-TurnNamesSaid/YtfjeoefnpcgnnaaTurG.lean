/- The program's servers in memory: each one's purse, and where it begins; a tick's purses beside them. -/
import Derived.Test.YtfjeoefnpcgnnaaTurT
import Derived.Test.YtfjeoefnpcgnnaaTurQ
import Derived.Deep.OwnRows
namespace Go.Proofs.Ytfjeoefnpcgnnaa.Pw
open Go.RowKit Go.Sort Pu
set_option linter.unusedVariables false
set_option maxRecDepth 100000

theorem pu_ne {w : World} {b : Nat} {s : St} {g : Nat} {cur : Array Value} {T' : TypeId} {fr : Nat × Nat} (h : PP w b s) (hg : w.heap[g]? = some (.cells cur T' fr)) (hT : T' ≠ 63) : b ≠ g := by
  obtain ⟨x, r, _⟩ := h
  rintro rfl; have := r.symm.trans hg; simp at this; exact hT this.2.1.symm
theorem pu_off {w w' : World} {b : Nat} {s : St} {g : Nat} {cur : Array Value} {T' : TypeId} {fr : Nat × Nat} (h : PP w b s) (hg : w.heap[g]? = some (.cells cur T' fr)) (hT : T' ≠ 63) (hT2 : T' ≠ 60) (o : Only g w w') : PP w' b s := by
  have hn := pu_ne h hg hT
  obtain ⟨x, r, px⟩ := h
  exact ⟨x, (o.block _ r.lt hn).trans r, px.keep fun nb p q t => (o.block nb t.lt (by rintro rfl; have := RT.lt t; have := (show w.heap[nb]? = _ from t).symm.trans hg; simp at this; exact hT2 this.2.1.symm)).trans t⟩
/-- rows of numbers are as they were -/
def Ks (w w' : World) : Prop := ∀ (k : Nat) (cur : Array Value) (fr : Nat × Nat), w.heap[k]? = some (Obj.cells cur 3 fr) → w'.heap[k]? = w.heap[k]?
theorem Ks.refl (w : World) : Ks w w := fun _ _ _ _ => rfl
theorem Ks.trans {w w1 w2 : World} (h : Ks w w1) (k : Ks w1 w2) : Ks w w2 := fun j cur fr e => (k j cur fr ((h j cur fr e).trans e)).trans (h j cur fr e)
theorem Ks.below {w w' : World} (q : Below w.heap.size w w') : Ks w w' := fun j cur fr e => q.block j (lt_of_block e)
theorem Ks.only {w w' : World} {g : Nat} {cur : Array Value} {T' : TypeId} {fr : Nat × Nat} (hg : w.heap[g]? = some (.cells cur T' fr)) (hT : T' ≠ 3) (o : Only g w w') : Ks w w' := fun j cur' fr' e => o.block j (lt_of_block e) (by rintro rfl; have := e.symm.trans hg; simp at this; exact hT this.2.1.symm)
theorem Ks.purse {w w' : World} {b : Nat} {s : St} (h : PP w b s) (o : Only b w w') : Ks w w' := by
  obtain ⟨x, r, _⟩ := h
  exact Ks.only r (by decide) o
theorem NR.ks {w w' : World} {B0 : Nat} {v : Value} {xs : List Int} (h : NR w B0 v xs) (q : Ks w w') : NR w' B0 v xs := h.keep fun j cur fr e => q j cur fr e
/-- how a server's purse stands: full, till it begins -/
def tot (P B b : Nat → Nat) (s : Nat → Option St) (i : Nat) : St := (s i).getD (nwS (P i) (B i) (b i))
theorem tot_some {P B b : Nat → Nat} {s : Nat → Option St} {i : Nat} {x : St} (h : s i = some x) : tot P B b s i = x := by unfold tot; rw [h]; rfl
theorem tot_none {P B b : Nat → Nat} {s : Nat → Option St} {i : Nat} (h : s i = none) : tot P B b s i = nwS (P i) (B i) (b i) := by unfold tot; rw [h]; rfl
theorem tot_set {P B b : Nat → Nat} {s : Nat → Option St} {j : Nat} {x : St} : tot P B b (setS s j (some x)) = setS (tot P B b s) j x := by
  funext i; unfold tot setS; split <;> rfl
theorem tot_start {P B b : Nat → Nat} : tot P B b (fun _ => none) = fun i => nwS (P i) (B i) (b i) := rfl
/-- servers in new memory (from B0 on): j of M are there -/
structure SM (B0 : Nat) (W w : World) (gs M j : Nat) (c : Nat → Nat) (u : Nat → St) (b : Nat → Int) : Prop where
  row : ∃ cur : Array Value, w.heap[gs]? = some (.cells cur 87 (0, 0)) ∧ cur.size = M * 2 ∧ ∀ i, i < j → cur[i * 2]? = some (.pointer (some ⟨c i, 0, none⟩)) ∧ cur[i * 2 + 1]? = some (.int .i64 (b i))
  hg : B0 ≤ gs
  pu : ∀ i, i < j → PP w (c i) (u i) ∧ B0 ≤ c i
  ap : ∀ i k, i < j → k < j → i ≠ k → c i ≠ c k
  bel : Below B0 W w
  le : B0 ≤ W.heap.size
section
variable {B0 : Nat} {W w w' : World} {gs M j : Nat} {c : Nat → Nat} {u : Nat → St} {b : Nat → Int}
theorem SM.lt (h : SM B0 W w gs M j c u b) : gs < w.heap.size := by obtain ⟨cur, h1, _⟩ := h.row; exact lt_of_block h1
theorem SM.B0le (h : SM B0 W w gs M j c u b) : B0 ≤ w.heap.size := Nat.le_trans h.hg (Nat.le_of_lt h.lt)
theorem SM.at (h : SM B0 W w gs M j c u b) {i : Nat} (hi : i < j) : w.cell? ⟨gs, i * 2, none⟩ = some (.pointer (some ⟨c i, 0, none⟩)) ∧ w.cell? ⟨gs, i * 2 + 1, none⟩ = some (.int .i64 (b i)) := by
  obtain ⟨cur, h1, _, h2⟩ := h.row
  exact ⟨by rw [cell_of_row _ _ (i * 2) _ _ _ h1]; exact (h2 i hi).1, by rw [cell_of_row _ _ (i * 2 + 1) _ _ _ h1]; exact (h2 i hi).2⟩
/-- each place can be written -/
theorem SM.place (h : SM B0 W w gs M j c u b) {o : Nat} (ho : o < M * 2) : (∃ x, w.cell? ⟨gs, o, none⟩ = some x) ∧ w.frozen? ⟨gs, o, none⟩ = false := by
  obtain ⟨cur, h1, h2, _⟩ := h.row
  exact ⟨⟨cur[o]'(by omega), by rw [cell_of_row _ _ o _ _ _ h1]; exact Array.getElem?_eq_getElem (by omega)⟩, frozen_of_row _ _ o _ _ h1⟩
theorem SM.below (h : SM B0 W w gs M j c u b) (q : Below w.heap.size w w') : SM B0 W w' gs M j c u b := by
  obtain ⟨cur, h1, h2⟩ := h.row
  exact ⟨⟨cur, (q.block gs (lt_of_block h1)).trans h1, h2⟩, h.hg, fun i hi => ⟨(h.pu i hi).1.below q, (h.pu i hi).2⟩, h.ap, h.bel.trans (q.mono h.B0le), h.le⟩
theorem SM.drew (h : SM B0 W w gs M j c u b) : SM B0 W w.drew gs M j c u b := h.below (bdn w 1)
/-- something else is written -/
theorem SM.off {g : Nat} {cur : Array Value} {T' : TypeId} {fr : Nat × Nat} (h : SM B0 W w gs M j c u b) (hg : w.heap[g]? = some (.cells cur T' fr)) (hT : T' ≠ 63) (hT2 : T' ≠ 60) (hT3 : T' ≠ 87) (hb : B0 ≤ g) (o : Only g w w') : SM B0 W w' gs M j c u b := by
  obtain ⟨cur', h1, h2⟩ := h.row
  have hne : gs ≠ g := by rintro rfl; have := h1.symm.trans hg; simp at this; exact hT3 this.2.1.symm
  exact ⟨⟨cur', (o.block gs (lt_of_block h1) hne).trans h1, h2⟩, h.hg, fun i hi => ⟨pu_off (h.pu i hi).1 hg hT hT2 o, (h.pu i hi).2⟩, h.ap, h.bel.trans (o.below h.B0le hb), h.le⟩
/-- a purse is asked -/
theorem SM.op {i : Nat} {x' : St} (h : SM B0 W w gs M j c u b) (hi : i < j) (o : Only (c i) w w') (hx : PP w' (c i) x') : SM B0 W w' gs M j c (setS u i x') b := by
  obtain ⟨cur, h1, h2⟩ := h.row
  obtain ⟨p1, p2⟩ := h.pu i hi
  have hne := pu_ne p1 h1 (by decide)
  refine ⟨⟨cur, (o.block gs (lt_of_block h1) (Ne.symm hne)).trans h1, h2⟩, h.hg, fun k hk => ?_, h.ap, h.bel.trans (o.below h.B0le p2), h.le⟩
  by_cases e : k = i
  · rw [e, setS_at]; exact ⟨hx, p2⟩
  · rw [setS_ne _ _ e]
    obtain ⟨q1, q2⟩ := h.pu k hk
    exact ⟨pk_prog.other q1 p1 (h.ap k i hk hi e) o, q2⟩
/-- one server more -/
theorem SM.put {g : Nat} {x : St} (h : SM B0 W w gs M j c u b) (hj : j < M) (q : Below w.heap.size w w') (hx : PP w' g x) (hb : w.heap.size ≤ g) : SM B0 W ((w'.setCell ⟨gs, j * 2, none⟩ (.pointer (some ⟨g, 0, none⟩))).setCell ⟨gs, j * 2 + 1, none⟩ (.int .i64 (b j))) gs M (j + 1) (setS c j g) (setS u j x) b := by
  have h0 := h.below q
  obtain ⟨cur, h1, h2, h3⟩ := h0.row
  have o1 := Only.set w' gs (j * 2) (.pointer (some ⟨g, 0, none⟩))
  have r1 : (w'.setCell ⟨gs, j * 2, none⟩ (.pointer (some ⟨g, 0, none⟩))).heap[gs]? = some (.cells (cur.setIfInBounds (j * 2) (.pointer (some ⟨g, 0, none⟩))) 87 (0, 0)) := heap_setCell_same w' gs (j * 2) _ _ _ h1
  have o2 := Only.set (w'.setCell ⟨gs, j * 2, none⟩ (.pointer (some ⟨g, 0, none⟩))) gs (j * 2 + 1) (.int .i64 (b j))
  have r2 : ((w'.setCell ⟨gs, j * 2, none⟩ (.pointer (some ⟨g, 0, none⟩))).setCell ⟨gs, j * 2 + 1, none⟩ (.int .i64 (b j))).heap[gs]? = some (.cells ((cur.setIfInBounds (j * 2) (.pointer (some ⟨g, 0, none⟩))).setIfInBounds (j * 2 + 1) (.int .i64 (b j))) 87 (0, 0)) := heap_setCell_same (w'.setCell ⟨gs, j * 2, none⟩ (.pointer (some ⟨g, 0, none⟩))) gs (j * 2 + 1) _ _ _ r1
  have o := o1.trans o2
  have hlt : ∀ i, i < j → c i < w.heap.size := fun i hi => (h.pu i hi).1.lt
  refine ⟨⟨_, r2, by simpa using h2, fun i hi => ?_⟩, h.hg, fun i hi => ?_, fun i k hi hk hik => ?_, h0.bel.trans (o.below h0.B0le h.hg), h.le⟩
  · by_cases e : i = j
    · subst e
      rw [setS_at, Array.getElem?_setIfInBounds_ne (by omega), Array.getElem?_setIfInBounds_self_of_lt (by omega), Array.getElem?_setIfInBounds_self_of_lt (by simp; omega)]
      exact ⟨rfl, rfl⟩
    · rw [setS_ne _ _ e, Array.getElem?_setIfInBounds_ne (by omega), Array.getElem?_setIfInBounds_ne (by omega), Array.getElem?_setIfInBounds_ne (by omega), Array.getElem?_setIfInBounds_ne (by omega)]
      exact h3 i (by omega)
  · by_cases e : i = j
    · rw [e, setS_at, setS_at]
      exact ⟨pu_off hx h1 (by decide) (by decide) o, Nat.le_trans h.B0le hb⟩
    · rw [setS_ne _ _ e, setS_ne _ _ e]
      obtain ⟨q1, q2⟩ := h0.pu i (by omega)
      exact ⟨pu_off q1 h1 (by decide) (by decide) o, q2⟩
  · by_cases e1 : i = j
    · have e2 : k ≠ j := by omega
      rw [e1, setS_at, setS_ne _ _ e2]
      have := hlt k (by omega); omega
    · rw [setS_ne _ _ e1]
      by_cases e2 : k = j
      · rw [e2, setS_at]; have := hlt i (by omega); omega
      · rw [setS_ne _ _ e2]; exact h.ap i k (by omega) (by omega) hik
theorem SM.congr {u' : Nat → St} {b' : Nat → Int} {c' : Nat → Nat} (h : SM B0 W w gs M j c u b) (e : ∀ i, i < j → u i = u' i ∧ b i = b' i ∧ c i = c' i) : SM B0 W w gs M j c' u' b' := by
  obtain ⟨cur, h1, h2, h3⟩ := h.row
  refine ⟨⟨cur, h1, h2, fun i hi => ?_⟩, h.hg, fun i hi => ?_, fun i k hi hk hik => ?_, h.bel, h.le⟩
  · rw [← (e i hi).2.1, ← (e i hi).2.2]; exact h3 i hi
  · rw [← (e i hi).1, ← (e i hi).2.2]; exact h.pu i hi
  · rw [← (e i hi).2.2, ← (e k hk).2.2]; exact h.ap i k hi hk hik
theorem SM.start (M : Nat) (hl : B0 ≤ W.heap.size) (hb : Below W.heap.size W w) : SM B0 W (w.alloc (.cells (madeCells #[.pointer none, .int .i64 0] (M * 2)) 87)) w.heap.size M 0 (fun _ => 0) u b where
  row := ⟨_, heap_alloc_new w _, size_madeCells _ _, fun i hi => by omega⟩
  hg := Nat.le_trans hl hb.size
  pu _ hi := by omega
  ap _ _ hi := by omega
  bel := ((hb.trans ((below_al w _).mono hb.size)).mono hl)
  le := hl
/-- a tick's purses: the first k of m are written -/
def TR (B0 : Nat) (w : World) (g m k : Nat) (c : Nat → Nat) (s : Nat → Option St) : Prop := B0 ≤ g ∧ ∃ cur : Array Value, w.heap[g]? = some (.cells cur 34 (0, 0)) ∧ ∀ i, i < m → cur[i]? = some (if i < k then ptr c s i else .pointer none)
variable {g m k : Nat} {s : Nat → Option St}
theorem TR.lt (h : TR B0 w g m k c s) : g < w.heap.size := by obtain ⟨_, cur, h1, _⟩ := h; exact lt_of_block h1
theorem TR.below (h : TR B0 w g m k c s) (q : Below w.heap.size w w') : TR B0 w' g m k c s := by
  obtain ⟨h0, cur, h1, h2⟩ := h
  exact ⟨h0, cur, (q.block g (lt_of_block h1)).trans h1, h2⟩
theorem TR.purse {b : Nat} {x : St} (h : TR B0 w g m k c s) (hp : PP w b x) (o : Only b w w') : TR B0 w' g m k c s := by
  obtain ⟨h0, cur, h1, h2⟩ := h
  exact ⟨h0, cur, (o.block g (lt_of_block h1) (Ne.symm (pu_ne hp h1 (by decide)))).trans h1, h2⟩
theorem TR.start (hb : B0 ≤ w.heap.size) : TR B0 (w.alloc (.cells (madeCells #[.pointer none] m) 34)) w.heap.size m 0 c s := ⟨hb, _, heap_alloc_new w _, fun i hi => by rw [if_neg (by omega)]; exact made_at' hi⟩
theorem TR.at (h : TR B0 w g m k c s) {i : Nat} (hi : i < m) : w.cell? ⟨g, i, none⟩ = some (if i < k then ptr c s i else .pointer none) ∧ w.frozen? ⟨g, i, none⟩ = false := by
  obtain ⟨_, cur, h1, h2⟩ := h
  exact ⟨by rw [cell_of_row _ _ i _ _ _ h1]; exact h2 i hi, frozen_of_row _ _ i _ _ h1⟩
/-- one that has begun -/
theorem TR.put {x : St} (h : TR B0 w g m k c s) (hk : k < m) : TR B0 (w.setCell ⟨g, k, none⟩ (.pointer (some ⟨c k, 0, none⟩))) g m (k + 1) c (setS s k (some x)) := by
  obtain ⟨h0, cur, h1, h2⟩ := h
  refine ⟨h0, _, heap_setCell_same w g k _ _ _ h1, fun i hi => ?_⟩
  have hsz : k < cur.size := (Array.getElem?_eq_some_iff.1 (h2 k hk)).1
  unfold ptr
  by_cases e : i = k
  · rw [e, setS_at, if_pos (by omega), Array.getElem?_setIfInBounds_self_of_lt hsz]; rfl
  · rw [setS_ne _ _ e, Array.getElem?_setIfInBounds_ne (Ne.symm e), h2 i hi]
    by_cases e2 : i < k
    · rw [if_pos e2, if_pos (by omega)]; rfl
    · rw [if_neg e2, if_neg (by omega)]
/-- one that has not -/
theorem TR.skip (h : TR B0 w g m k c s) (hk : s k = none) : TR B0 w g m (k + 1) c s := by
  obtain ⟨h0, cur, h1, h2⟩ := h
  refine ⟨h0, cur, h1, fun i hi => ?_⟩
  rw [h2 i hi]
  by_cases e : i < k
  · rw [if_pos e, if_pos (by omega)]
  · rw [if_neg e]
    by_cases e2 : i = k
    · rw [e2, if_pos (by omega)]; unfold ptr; rw [hk]; rfl
    · rw [if_neg (by omega)]
theorem SM.row_set {v : Value} {o : Nat} (h : SM B0 W w gs M j c u b) (r : TR B0 w g m k c s) : SM B0 W (w.setCell ⟨g, o, none⟩ v) gs M j c u b := by
  obtain ⟨h0, cur, h1, _⟩ := r
  exact h.off h1 (by decide) (by decide) (by decide) h0 (Only.set w g o v)
theorem TR.ks_set {v : Value} {o : Nat} (r : TR B0 w g m k c s) : Ks w (w.setCell ⟨g, o, none⟩ v) := by
  obtain ⟨h0, cur, h1, _⟩ := r
  exact Ks.only h1 (by decide) (Only.set w g o v)
theorem TR.dw {P B b : Nat → Nat} (r : TR B0 w g m m c s) (h : SM B0 W w gs m m c (tot P B b s) (fun i => (b i : Nat))) (hm : m ≤ maxLen) : DW PP w (.slice (some ⟨g, 0, none⟩) m m) m s := by
  refine ⟨_, _, rfl, Nat.le_refl _, hm, fun _ => ⟨g, 0, rfl, fun i hi => ?_⟩⟩
  have h1 := (r.at hi).1
  rw [if_pos hi] at h1
  rw [Nat.zero_add]
  cases hs : s i with
  | none => unfold ptr at h1; rw [hs] at h1; exact h1
  | some x =>
    have h2 := (h.pu i hi).1
    rw [tot_some hs] at h2
    unfold ptr at h1; rw [hs] at h1; exact ⟨c i, h1, h2⟩
/-- a number behind what has been planned, where there is room -/
theorem SM.app {gp t N : Nat} {xs : List Int} (h : SM B0 W w gs M j c u b) (hn : NR w B0 (.slice (some ⟨gp, 0, none⟩) t N) xs) (hl : xs.length = t) (ht : t < N) (x : Int) :
    ∃ w', (Builtin.append_ #[23, 23] 23 #[.slice (some ⟨gp, 0, none⟩) t N, .slice (some ⟨w.heap.size, 0, none⟩) 1 1]).run Try.prog (w.alloc (.cells #[.int .i64 x] 3)) = .ok (.slice (some ⟨gp, 0, none⟩) (t + 1) N) w' ∧ NR w' B0 (.slice (some ⟨gp, 0, none⟩) (t + 1) N) (xs ++ [x]) ∧ SM B0 W w' gs M j c u b := by
  have q0 := below_al w (.cells #[.int .i64 x] 3)
  have h' := h.below q0
  have hn' : NR (w.alloc (.cells #[.int .i64 x] 3)) B0 (.slice (some ⟨gp, 0, none⟩) t N) xs := hn.ks (Ks.below q0)
  obtain ⟨i0, hi, hz0, hz1, hz2⟩ := info_parts infoI13
  unfold NR at hn'
  rw [hl] at hn'
  obtain ⟨w', hrun, hown, hgr⟩ := run_append_fits (P := Try.prog) (w.alloc (.cells #[.int .i64 x] 3)) B0 23 23 3 i0 1 Try.underlying23 hi hz1 gp t N _ hn' ⟨w.heap.size, 0, none⟩ 1 1 [.int .i64 x] rfl
    (fun j u hj => by rw [Addr.add_lit, Nat.zero_add, cell_of_row _ _ j _ _ _ (heap_alloc_new w _), List.getElem?_toArray]; exact hj) (by intro u hu; simp at hu; subst hu; rfl) (by omega)
  obtain ⟨hB, cur, hc⟩ : B0 ≤ gp ∧ ∃ cur, (w.alloc (.cells #[.int .i64 x] 3)).heap[gp]? = some (.cells cur 3 (0, 0)) := by
    rcases hn'.2 with ⟨e, _⟩ | ⟨g, cap, cur, e, hb, hg, _⟩
    · cases e
    · injection e with e _ _; injection e with e; injection e with e _ _; subst e; exact ⟨hb, cur, hg⟩
  refine ⟨w', hrun, ?_, h'.off hc (by decide) (by decide) (by decide) hB ⟨hgr.os, hgr.tape, hgr.output, hgr.size, fun k hk hne => hgr.block k hk (by simpa using hne)⟩⟩
  unfold NR nums
  rw [List.length_append, List.map_append, hl]
  exact hown
end
/-- a purse that is turned, once it has begun -/
theorem At.goes {n k t j : Nat} {P B b : Nat → Nat} {s : Nat → Option St} (h : At n P B b k t j s) (hj : j < n) (hb : b j ≤ t) (hP : 1 ≤ P j ∧ P j ≤ 64 ∧ 1 ≤ B j ∧ B j ≤ P j) (ht : t ≤ 1000) (hk : k ≤ 1000000) : ∃ k', k' ≤ 1000000 ∧ Ok k' (tot P B b s j) ∧ At n P B b (k + 1) t (j + 1) (setS s j (some (tuS (tot P B b s j) t))) := by
  rcases Nat.lt_or_ge (b j) t with hlt | hge
  · obtain ⟨x, hx, okx, te, ha⟩ := h.turns hj hlt hP.1
    rw [tot_some hx]
    exact ⟨k, hk, okx, ha⟩
  · have heq : b j = t := by omega
    obtain ⟨a1, ⟨a2, a3, a4⟩, a5, a6, ha⟩ := h.begins hj heq hP ht
    rw [tot_none a6, heq, a4]
    exact ⟨0, by omega, a5, ha⟩
end Go.Proofs.Ytfjeoefnpcgnnaa.Pw
