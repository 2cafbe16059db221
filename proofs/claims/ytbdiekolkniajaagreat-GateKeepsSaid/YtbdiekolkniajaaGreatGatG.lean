/- The machine of GateKeeps: its rows in memory; what a tick does with jobs, plainly. -/
import Derived.Test.YtbdiekolkniajaaGreatGatX
import Derived.StillTailTactics
namespace Go.Proofs.YtbdiekolkniajaaGreat
open Go.RowKit Tk De Dl Lo Su Sh Gt
set_option linter.unusedVariables false

/-- jobs' row: of each when it must be done, how many ticks are left -/
def JS (W : World) (g n : Nat) (e l : Nat → Nat) : Prop := ∃ cur : Array Value, W.heap[g]? = some (.cells cur 53 (0, 0)) ∧ cur.size = n * 2 ∧ ∀ i, i < n → cur[i * 2]? = some (.int .i64 (e i : Nat)) ∧ cur[i * 2 + 1]? = some (.int .i64 (l i : Nat))
theorem JS.drew {W : World} {g n : Nat} {e l : Nat → Nat} (h : JS W g n e l) : JS W.drew g n e l := h
theorem JS.below {W W' : World} {g n : Nat} {e l : Nat → Nat} (h : JS W g n e l) (q : Below W.heap.size W W') : JS W' g n e l := by
  obtain ⟨cur, h1, h2⟩ := h
  exact ⟨cur, (q.block _ (lt_of_block h1)).trans h1, h2⟩
theorem JS.off {W : World} {g g' n o : Nat} {e l : Nat → Nat} (h : JS W g n e l) (hne : g ≠ g') (v : Value) : JS (W.setCell ⟨g', o, none⟩ v) g n e l := by
  obtain ⟨cur, h1, h2⟩ := h
  exact ⟨cur, (Below.heap_setCell _ _ _ _ hne).trans h1, h2⟩
theorem JS.at {W : World} {g n : Nat} {e l : Nat → Nat} (h : JS W g n e l) {i : Nat} (hi : i < n) : W.cell? ⟨g, i * 2, none⟩ = some (.int .i64 (e i : Nat)) ∧ W.cell? ⟨g, i * 2 + 1, none⟩ = some (.int .i64 (l i : Nat)) ∧ W.frozen? ⟨g, i * 2, none⟩ = false ∧ W.frozen? ⟨g, i * 2 + 1, none⟩ = false := by
  obtain ⟨cur, h1, h2, h3⟩ := h
  exact ⟨(cell_of_row _ _ _ _ _ _ h1).trans (h3 i hi).1, (cell_of_row _ _ _ _ _ _ h1).trans (h3 i hi).2, frozen_of_row _ _ _ _ _ h1, frozen_of_row _ _ _ _ _ h1⟩
theorem JS.mid {W : World} {g n : Nat} {e l : Nat → Nat} (h : JS W g n e l) {i : Nat} (hi : i < n) (v : Value) : (W.setCell ⟨g, i * 2, none⟩ v).cell? ⟨g, i * 2 + 1, none⟩ = some (.int .i64 (l i : Nat)) ∧ (W.setCell ⟨g, i * 2, none⟩ v).frozen? ⟨g, i * 2 + 1, none⟩ = false := by
  obtain ⟨cur, h1, h2, h3⟩ := h
  have h4 := heap_setCell_same W g (i * 2) _ _ v h1
  refine ⟨(cell_of_row _ _ _ _ _ _ h4).trans ?_, frozen_of_row _ _ _ _ _ h4⟩
  rw [Array.getElem?_setIfInBounds, if_neg (by omega)]
  exact (h3 i hi).2
theorem JS.lt {W : World} {g n : Nat} {e l : Nat → Nat} (h : JS W g n e l) : g < W.heap.size := by obtain ⟨cur, h1, _⟩ := h; exact lt_of_block h1
theorem JS.both {W : World} {g n : Nat} {e l : Nat → Nat} (h : JS W g n e l) {k : Nat} (hk : k < n) (E L : Nat) : JS ((W.setCell ⟨g, k * 2, none⟩ (.int .i64 E)).setCell ⟨g, k * 2 + 1, none⟩ (.int .i64 L)) g n (upd e k E) (upd l k L) := by
  obtain ⟨cur, h1, h2, h3⟩ := h
  refine ⟨_, heap_setCell_same _ _ _ _ _ _ (heap_setCell_same _ _ _ _ _ _ h1), by simp [h2], fun i hi => ?_⟩
  simp only [Array.getElem?_setIfInBounds, Array.size_setIfInBounds]
  by_cases hik : i = k
  · subst hik
    rw [upd_at, upd_at]
    refine ⟨?_, ?_⟩
    · rw [if_neg (by omega), if_pos rfl, if_pos (by omega)]
    · rw [if_pos rfl, if_pos (by omega)]
  · rw [upd_ne _ _ hik, upd_ne _ _ hik]
    refine ⟨?_, ?_⟩
    · rw [if_neg (by omega), if_neg (by omega)]; exact (h3 i hi).1
    · rw [if_neg (by omega), if_neg (by omega)]; exact (h3 i hi).2
theorem JS.left {W : World} {g n : Nat} {e l : Nat → Nat} (h : JS W g n e l) {k : Nat} (hk : k < n) (L : Nat) : JS (W.setCell ⟨g, k * 2 + 1, none⟩ (.int .i64 L)) g n e (upd l k L) := by
  obtain ⟨cur, h1, h2, h3⟩ := h
  refine ⟨_, heap_setCell_same _ _ _ _ _ _ h1, by simp [h2], fun i hi => ?_⟩
  simp only [Array.getElem?_setIfInBounds]
  by_cases hik : i = k
  · subst hik
    rw [upd_at]
    refine ⟨?_, ?_⟩
    · rw [if_neg (by omega)]; exact (h3 i hi).1
    · rw [if_pos rfl, if_pos (by omega)]
  · rw [upd_ne _ _ hik]
    refine ⟨?_, ?_⟩
    · rw [if_neg (by omega)]; exact (h3 i hi).1
    · rw [if_neg (by omega)]; exact (h3 i hi).2
/-- where the machine lies -/
structure Bk where
  (rb lb eb jb nb k : Nat)
  (pa ia la : Option Addr)
  (pc ic nl lc : Nat)
structure Bk.Ok (q : Bk) (B : Nat) : Prop where
  ge : B ≤ q.rb ∧ B ≤ q.lb ∧ B ≤ q.eb ∧ B ≤ q.jb ∧ B ≤ q.nb
  ne : q.rb ≠ q.lb ∧ q.rb ≠ q.eb ∧ q.rb ≠ q.jb ∧ q.rb ≠ q.nb ∧ q.lb ≠ q.eb ∧ q.lb ≠ q.jb ∧ q.lb ≠ q.nb ∧ q.eb ≠ q.jb ∧ q.eb ≠ q.nb ∧ q.jb ≠ q.nb
  k4 : q.k ≤ 4
/-- the machine's cells -/
def Bk.row (q : Bk) (d : Nat) : Array Value := #[.slice q.pa q.k q.pc, .slice none 0 0, .slice q.ia q.k q.ic, .slice (some ⟨q.lb, 0, none⟩) q.k q.k, .slice (some ⟨q.eb, 0, none⟩) q.k q.k, .slice (some ⟨q.jb, 0, none⟩) (4 * q.k) (4 * q.k), .slice (some ⟨q.nb, 0, none⟩) (4 * q.k) (4 * q.k), .int .i64 d, .slice q.la q.nl q.lc]
structure MS (W0 W : World) (q : Bk) (l e jl je nx : Nat → Nat) (d : Nat) : Prop where
  bel : Below W0.heap.size W0 W
  r : W.heap[q.rb]? = some (.cells (q.row d) 38 (0, 0))
  l : NS W q.lb q.k l
  e : NS W q.eb q.k e
  j : JS W q.jb (4 * q.k) je jl
  n : NS W q.nb (4 * q.k) nx
section
variable {W0 W : World} {q : Bk} {l e jl je nx : Nat → Nat} {d : Nat}
theorem MS.lt (h : MS W0 W q l e jl je nx d) : q.rb < W.heap.size ∧ q.lb < W.heap.size ∧ q.eb < W.heap.size ∧ q.jb < W.heap.size ∧ q.nb < W.heap.size := ⟨lt_of_block h.r, h.l.lt, h.e.lt, h.j.lt, h.n.lt⟩
theorem MS.drew (h : MS W0 W q l e jl je nx d) : MS W0 W.drew q l e jl je nx d := ⟨h.bel.drew, h.r, h.l, h.e, h.j, h.n⟩
theorem MS.drewN (h : MS W0 W q l e jl je nx d) (m : Nat) : MS W0 (W.drewN m) q l e jl je nx d := ⟨below_drewN h.bel m, h.r, h.l, h.e, h.j, h.n⟩
theorem MS.below (h : MS W0 W q l e jl je nx d) {W' : World} (b : Below W.heap.size W W') : MS W0 W' q l e jl je nx d :=
  ⟨chn h.bel b, (b.block _ (lt_of_block h.r)).trans h.r, h.l.below b, h.e.below b, h.j.below b, h.n.below b⟩
theorem MS.alloc (h : MS W0 W q l e jl je nx d) (o : Obj) : MS W0 (W.alloc o) q l e jl je nx d := h.below (below_alloc W o)
theorem MS.setL (h : MS W0 W q l e jl je nx d) (hq : q.Ok W0.heap.size) {i : Nat} (hi : i < q.k) (X : Nat) : MS W0 (W.setCell ⟨q.lb, i, none⟩ (.int .i64 X)) q (upd l i X) e jl je nx d := by
  obtain ⟨n1, n2, n3, n4, n5, n6, n7, n8, n9, n10⟩ := hq.ne
  exact ⟨h.bel.setCell (p := ⟨q.lb, i, none⟩) hq.ge.2.1 _, (Below.heap_setCell _ _ _ _ n1).trans h.r, h.l.set hi X, h.e.off n5.symm _, h.j.off n6.symm _, h.n.off n7.symm _⟩
theorem MS.setE (h : MS W0 W q l e jl je nx d) (hq : q.Ok W0.heap.size) {i : Nat} (hi : i < q.k) (X : Nat) : MS W0 (W.setCell ⟨q.eb, i, none⟩ (.int .i64 X)) q l (upd e i X) jl je nx d := by
  obtain ⟨n1, n2, n3, n4, n5, n6, n7, n8, n9, n10⟩ := hq.ne
  exact ⟨h.bel.setCell (p := ⟨q.eb, i, none⟩) hq.ge.2.2.1 _, (Below.heap_setCell _ _ _ _ n2).trans h.r, h.l.off n5 _, h.e.set hi X, h.j.off n8.symm _, h.n.off n9.symm _⟩
theorem MS.setN (h : MS W0 W q l e jl je nx d) (hq : q.Ok W0.heap.size) {i : Nat} (hi : i < 4 * q.k) (X : Nat) : MS W0 (W.setCell ⟨q.nb, i, none⟩ (.int .i64 X)) q l e jl je (upd nx i X) d := by
  obtain ⟨n1, n2, n3, n4, n5, n6, n7, n8, n9, n10⟩ := hq.ne
  exact ⟨h.bel.setCell (p := ⟨q.nb, i, none⟩) hq.ge.2.2.2.2 _, (Below.heap_setCell _ _ _ _ n4).trans h.r, h.l.off n7 _, h.e.off n9 _, h.j.off n10 _, h.n.set hi X⟩
theorem MS.setJ (h : MS W0 W q l e jl je nx d) (hq : q.Ok W0.heap.size) {i : Nat} (hi : i < 4 * q.k) (E L : Nat) : MS W0 ((W.setCell ⟨q.jb, i * 2, none⟩ (.int .i64 E)).setCell ⟨q.jb, i * 2 + 1, none⟩ (.int .i64 L)) q l e (upd jl i L) (upd je i E) nx d := by
  obtain ⟨n1, n2, n3, n4, n5, n6, n7, n8, n9, n10⟩ := hq.ne
  exact ⟨(h.bel.setCell (p := ⟨q.jb, i * 2, none⟩) hq.ge.2.2.2.1 _).setCell (p := ⟨q.jb, i * 2 + 1, none⟩) hq.ge.2.2.2.1 _, (Below.heap_setCell _ _ _ _ n3).trans ((Below.heap_setCell _ _ _ _ n3).trans h.r), (h.l.off n6 _).off n6 _, (h.e.off n8 _).off n8 _, h.j.both hi E L, (h.n.off n10.symm _).off n10.symm _⟩
theorem MS.setK (h : MS W0 W q l e jl je nx d) (hq : q.Ok W0.heap.size) {i : Nat} (hi : i < 4 * q.k) (L : Nat) : MS W0 (W.setCell ⟨q.jb, i * 2 + 1, none⟩ (.int .i64 L)) q l e (upd jl i L) je nx d := by
  obtain ⟨n1, n2, n3, n4, n5, n6, n7, n8, n9, n10⟩ := hq.ne
  exact ⟨h.bel.setCell (p := ⟨q.jb, i * 2 + 1, none⟩) hq.ge.2.2.2.1 _, (Below.heap_setCell _ _ _ _ n3).trans h.r, h.l.off n6 _, h.e.off n8 _, h.j.left hi L, h.n.off n10.symm _⟩
theorem MS.setD (h : MS W0 W q l e jl je nx d) (hq : q.Ok W0.heap.size) (D : Nat) : MS W0 (W.setCell ⟨q.rb, 7, none⟩ (.int .i64 D)) q l e jl je nx D := by
  obtain ⟨n1, n2, n3, n4, n5, n6, n7, n8, n9, n10⟩ := hq.ne
  exact ⟨h.bel.setCell (p := ⟨q.rb, 7, none⟩) hq.ge.1 _, heap_setCell_same W q.rb 7 _ _ _ h.r, h.l.off n1.symm _, h.e.off n2.symm _, h.j.off n3.symm _, h.n.off n4.symm _⟩
theorem MS.c (h : MS W0 W q l e jl je nx d) (i : Nat) : W.cell? ⟨q.rb, i, none⟩ = (q.row d)[i]? := cell_of_row _ _ i _ _ _ h.r
theorem MS.f (h : MS W0 W q l e jl je nx d) (i : Nat) : W.frozen? ⟨q.rb, i, none⟩ = false := frozen_of_row _ _ i _ _ h.r
end
/-! what a tick does with jobs -/
/-- jobs of those that are in -/
def JI (ps : List Pn) (ins : List Bool) (t : Nat) (jl je nx : Nat → Nat) : Prop := ∀ i, i < ps.length → ins.getD i false = true →
  KS (ps.getD i p0) ((svOf ps ins).runs i) t (fun x => jl (4 * i + x)) (fun x => je (4 * i + x)) (fun x => nx (4 * i + x)) ∧ ∀ x, (ps.getD i p0).n ≤ x → x < 4 → jl (4 * i + x) = 0
def BD (k : Nat) (jl je nx : Nat → Nat) : Prop := ∀ x, x < 4 * k → jl x ≤ 64 ∧ je x ≤ 1000 ∧ nx x ≤ 1000
theorem ji_start (ps : List Pn) (ins : List Bool) : JI ps ins 0 (fun _ => 0) (fun _ => 0) (fun _ => 0) := fun i _ _ => ⟨ks_start _ _ fun _ _ => rfl, fun _ _ _ => rfl⟩
theorem bd_start (k : Nat) : BD k (fun _ => 0) (fun _ => 0) (fun _ => 0) := fun x _ => ⟨Nat.zero_le _, Nat.zero_le _, Nat.zero_le _⟩
theorem BD.more {k : Nat} {jl je nx : Nat → Nat} (h : BD k jl je nx) (x : Nat) {L E X : Nat} (hL : L ≤ 64) (hE : E ≤ 1000) (hX : X ≤ 1000) : BD k (upd jl x L) (upd je x E) (upd nx x X) := fun i hi => by
  have := h i hi
  unfold upd
  split <;> omega
theorem BD.less {k : Nat} {jl je nx : Nat → Nat} (h : BD k jl je nx) (x : Nat) {L : Nat} (hL : L ≤ 64) : BD k (upd jl x L) je nx := fun i hi => by
  have := h i hi
  unfold upd
  split <;> omega
/-- what may be said of those that passed -/
structure Passed (ps : List Pn) (ins : List Bool) : Prop where
  pl : ∀ x ∈ ps, Plain x
  len : ps.length ≤ 4
  w : wsum ps ins ≤ 2520
  good : ∀ i, i < ps.length → ins.getD i false = true → Gt.Good (ps.getD i p0)
theorem wk_congr {n : Nat} {l l' e e' : Nat → Nat} (hl : ∀ i, i < n → l' i = l i) (he : ∀ i, i < n → e' i = e i) (d : Nat) : Ed.wk n l' e' d = Ed.wk n l e d := Ed.sm_congr fun i hi => by rw [hl i hi, he i hi]
theorem ks_congr {p : Pn} {run : Nat → Bool} {now : Nat} {l e nx l' e' nx' : Nat → Nat} (h : KS p run now l e nx) (hl : ∀ i, i < p.n → l' i = l i) (he : ∀ i, i < p.n → e' i = e i) (hn : ∀ i, i < p.n → nx' i = nx i) : KS p run now l' e' nx' := by
  obtain ⟨rels, hi, hs, hx⟩ := h
  refine ⟨rels, fun d => ?_, hs, fun i hi2 a ha => by rw [hn i hi2]; exact hx i hi2 a ha⟩
  obtain ⟨t0, h1, h2⟩ := hi d
  exact ⟨t0, h1, by rw [wk_congr hl he]; exact h2⟩
/-- no job is late -/
theorem ji_late {ps : List Pn} {ins : List Bool} (hp : Passed ps ins) {t : Nat} (ht : t ≤ 1000) {jl je nx : Nat → Nat} (h : JI ps ins t jl je nx) {i x : Nat} (hi : i < ps.length) (hin : ins.getD i false = true) (hx : x < (ps.getD i p0).n) (hl : 0 < jl (4 * i + x)) : t < je (4 * i + x) := by
  rcases Nat.lt_or_ge t (je (4 * i + x)) with h1 | h1
  · exact h1
  · have hpl := hp.pl _ (at_mem hi)
    have hb := s_bd hp.pl i hi
    have hmul : 15625 * sP ps i ≤ 1000000 := by
      have : 15625 * sP ps i ≤ 15625 * 64 := Nat.mul_le_mul_left _ hb.2.1
      omega
    have hr := st_runs (sv_ok hp.pl hp.w) (i := i) (K := 15625) hi hin hmul
    have hge : 15625 * 1 ≤ 15625 * sP ps i := Nat.mul_le_mul_left _ hb.1
    exact (ks_in_time hpl.ok (by omega) (hp.good i hi hin (by omega)) hr (by show t ≤ 15625 * sP ps i; omega) (h i hi hin).1 hx hl h1).elim
/-- a job is released -/
theorem ji_release {ps : List Pn} {ins : List Bool} (hp : Passed ps ins) {t : Nat} {jl je nx : Nat → Nat} (h : JI ps ins t jl je nx) {i x : Nat} (hi : i < ps.length) (hin : ins.getD i false = true) (hx : x < (ps.getD i p0).n) (hn : nx (4 * i + x) ≤ t) {L E X : Nat} (hL : L = ((ps.getD i p0).z x 2).toNat) (hE : E = t + ((ps.getD i p0).z x 1).toNat) (hX : t + ((ps.getD i p0).z x 0).toNat ≤ X) :
    JI ps ins t (upd jl (4 * i + x) L) (upd je (4 * i + x) E) (upd nx (4 * i + x) X) := fun i' hi' hin' => by
  have hpl := hp.pl _ (at_mem hi)
  have hn4 := hpl.ok.n4
  have hpl' := hp.pl _ (at_mem hi')
  have hn4' := hpl'.ok.n4
  by_cases e : i' = i
  · subst e
    refine ⟨ks_release hpl.ok (h i' hi' hin').1 hx hn ?_ ?_ ?_ (fun y hy => ?_), fun y hy hy4 => ?_⟩
    · show upd jl (4 * i' + x) L (4 * i' + x) = _
      rw [upd_at, hL]; rfl
    · show upd je (4 * i' + x) E (4 * i' + x) = _
      rw [upd_at, hE]; rfl
    · show t + _ ≤ upd nx (4 * i' + x) X (4 * i' + x)
      rw [upd_at]; exact hX
    · have : 4 * i' + y ≠ 4 * i' + x := by omega
      exact ⟨upd_ne _ _ this, upd_ne _ _ this, upd_ne _ _ this⟩
    · rw [upd_ne _ _ (by omega)]
      exact (h i' hi' hin').2 y hy hy4
  · have key : ∀ (f : Nat → Nat) (Y : Nat) (y : Nat), y < 4 → upd f (4 * i + x) Y (4 * i' + y) = f (4 * i' + y) := fun f Y y hy => upd_ne _ _ (by omega)
    obtain ⟨hk, hz⟩ := h i' hi' hin'
    refine ⟨?_, fun y hy hy4 => by rw [key _ _ _ hy4]; exact hz y hy hy4⟩
    exact ks_congr hk (fun y hy => key _ _ _ (by omega)) (fun y hy => key _ _ _ (by omega)) (fun y hy => key _ _ _ (by omega))
/-- a tick in which somebody runs, or nobody -/
theorem ji_idle {ps : List Pn} {ins : List Bool} {t : Nat} {jl je nx : Nat → Nat} (h : JI ps ins t jl je nx) (hr : pick ((svOf ps ins).l1 t) ((svOf ps ins).e1 t) ps.length = -1) : JI ps ins (t + 1) jl je nx := fun i hi hin =>
  ⟨ks_idle (h i hi hin).1 (by unfold Sv.runs; rw [show (svOf ps ins).k = ps.length from rfl, hr]; exact decide_eq_false (by omega)), (h i hi hin).2⟩
theorem ji_none {ps : List Pn} {ins : List Bool} (hp : Passed ps ins) {t : Nat} {jl je nx : Nat → Nat} (h : JI ps ins t jl je nx) {m : Nat} (hr : pick ((svOf ps ins).l1 t) ((svOf ps ins).e1 t) ps.length = (m : Int)) (hz : ∀ x, x < 4 → jl (4 * m + x) = 0) : JI ps ins (t + 1) jl je nx := fun i hi hin => by
  have hn4 := (hp.pl _ (at_mem hi)).ok.n4
  by_cases e : i = m
  · subst e
    exact ⟨ks_none (h i hi hin).1 (fun x hx => hz x (by omega)), (h i hi hin).2⟩
  · exact ⟨ks_idle (h i hi hin).1 (by unfold Sv.runs; rw [show (svOf ps ins).k = ps.length from rfl, hr]; exact decide_eq_false (by omega)), (h i hi hin).2⟩
theorem ji_run {ps : List Pn} {ins : List Bool} (hp : Passed ps ins) {t : Nat} {jl je nx : Nat → Nat} (h : JI ps ins t jl je nx) {m : Nat} (hm : m < ps.length) (hin : ins.getD m false = true) (hr : pick ((svOf ps ins).l1 t) ((svOf ps ins).e1 t) ps.length = (m : Int)) {a : Nat} (ha : a < 4) (hl : 0 < jl (4 * m + a)) (hmin : ∀ x, x < 4 → 0 < jl (4 * m + x) → je (4 * m + a) ≤ je (4 * m + x)) :
    JI ps ins (t + 1) (upd jl (4 * m + a) (jl (4 * m + a) - 1)) je nx := fun i hi hin' => by
  have hn4 := (hp.pl _ (at_mem hi)).ok.n4
  obtain ⟨hk, hz⟩ := h i hi hin'
  by_cases e : i = m
  · subst e
    have hax : a < (ps.getD i p0).n := by
      rcases Nat.lt_or_ge a (ps.getD i p0).n with h1 | h1
      · exact h1
      · have := hz a h1 ha; omega
    refine ⟨ks_run hk hax hl (fun x hx hlx => hmin x (by omega) hlx) (upd_at _ _ _) (fun x hx => upd_ne _ _ (by omega)), fun y hy hy4 => ?_⟩
    by_cases e2 : y = a
    · subst e2; omega
    · rw [upd_ne _ _ (by omega)]; exact hz y hy hy4
  · have key : ∀ (f : Nat → Nat) (Y : Nat) (y : Nat), y < 4 → upd f (4 * m + a) Y (4 * i + y) = f (4 * i + y) := fun f Y y hy => upd_ne _ _ (by omega)
    refine ⟨ks_idle (ks_congr hk (fun y hy => key _ _ _ (by omega)) (fun _ _ => rfl) (fun _ _ => rfl)) ?_, fun y hy hy4 => by rw [key _ _ _ hy4]; exact hz y hy hy4⟩
    unfold Sv.runs
    rw [show (svOf ps ins).k = ps.length from rfl, hr]
    exact decide_eq_false (by omega)
end Go.Proofs.YtbdiekolkniajaaGreat
