/- A partition that is looked at, with what is more of its tasks: the program's lookAt. -/
import Derived.Test.YtbdiekolkniajaaZe
import Derived.Test.YtbdiekolkniajaaZp
import Derived.Test.YtbdiekolkniajaaSupB
namespace Go.Proofs.Ytbdiekolkniajaa
open Go.RowKit Tk De Dl Lo
set_option linter.unusedVariables false

theorem mors_len (l : List Pn) (q : Nat) : (mors l q).length = (l.getD q p0).n := by simp [mors]
/-- a partition that is looked at, by value, and its box -/
abbrev gv (per bud : Int) (ta : Option Addr) (n tcap : Nat) (ma : Option Addr) (mcap : Nat) (a : Option Addr) (m cap : Nat) (q : Int) : Value := .agg #[.int .i64 per, .int .i64 bud, .slice ta n tcap, .slice ma n mcap, .slice a m cap, .int .i64 q]
def gvo (per bud : Int) (ta : Option Addr) (n tcap : Nat) (ma : Option Addr) (mcap : Nat) (a : Option Addr) (m cap : Nat) (q : Int) : Obj := .cells #[.int .i64 per, .int .i64 bud, .slice ta n tcap, .slice ma n mcap, .slice a m cap, .int .i64 q] 70
abbrev gz0 : Value := .agg #[.int .i64 0, .int .i64 0, .slice none 0 0, .slice none 0 0, .slice none 0 0, .int .i64 0]
def gzo : Obj := .cells #[.int .i64 0, .int .i64 0, .slice none 0 0, .slice none 0 0, .slice none 0 0, .int .i64 0] 70
/-- what is known of it -/
structure LG (w : World) (ps : List Pn) (a : Option Addr) (m cap q : Nat) (ta : Option Addr) (tcap : Nat) (ma : Option Addr) (mcap : Nat) : Prop where
  p : PS w (.slice a m cap) ps
  ok : chkP ps = true
  lt : q < m
  t : TK w (.slice ta (ps.getD q p0).n tcap) (ps.getD q p0).n (ps.getD q p0).z
  k : IS w (.slice ma (ps.getD q p0).n mcap) (mors ps q)
theorem LG.below {w w' : World} {ps : List Pn} {a : Option Addr} {m cap q : Nat} {ta : Option Addr} {tcap : Nat} {ma : Option Addr} {mcap : Nat} (h : LG w ps a m cap q ta tcap ma mcap) (b : Below w.heap.size w w') : LG w' ps a m cap q ta tcap ma mcap :=
  ⟨h.p.below b, h.ok, h.lt, h.t.below b, h.k.below b⟩
theorem LG.len {w : World} {ps : List Pn} {a : Option Addr} {m cap q : Nat} {ta : Option Addr} {tcap : Nat} {ma : Option Addr} {mcap : Nat} (h : LG w ps a m cap q ta tcap ma mcap) : q < ps.length := by have := h.p.len; have := h.lt; omega
theorem LG.tb {w : World} {ps : List Pn} {a : Option Addr} {m cap q : Nat} {ta : Option Addr} {tcap : Nat} {ma : Option Addr} {mcap : Nat} (h : LG w ps a m cap q ta tcap ma mcap) : PB (ps.getD q p0) := chkP_at h.ok h.len
abbrev gkv (ps : List Pn) (a : Option Addr) (m cap q : Nat) (ta : Option Addr) (tcap : Nat) (ma : Option Addr) (mcap : Nat) : Value := gv (ps.getD q p0).per (ps.getD q p0).bud ta (ps.getD q p0).n tcap ma mcap a m cap q
/-- six cells are written -/
theorem six_end {W : World} {b : Nat} {x0 x1 x2 x3 x4 x5 : Value} {t : TypeId} (v0 v1 v2 v3 v4 v5 : Value) (h : W.heap[b]? = some (.cells #[x0, x1, x2, x3, x4, x5] t (0, 0))) (W' : World)
    (hW : W' = (((((W.setCell ⟨b, 0, none⟩ v0).setCell ⟨b, 1, none⟩ v1).setCell ⟨b, 2, none⟩ v2).setCell ⟨b, 3, none⟩ v3).setCell ⟨b, 4, none⟩ v4).setCell ⟨b, 5, none⟩ v5) :
    (W'.cell? ⟨b, 0, none⟩ = some v0 ∧ W'.cell? ⟨b, 1, none⟩ = some v1 ∧ W'.cell? ⟨b, 2, none⟩ = some v2 ∧ W'.cell? ⟨b, 3, none⟩ = some v3 ∧ W'.cell? ⟨b, 4, none⟩ = some v4 ∧ W'.cell? ⟨b, 5, none⟩ = some v5) ∧ Below b W W' ∧ ∀ k, k ≠ b → W'.heap[k]? = W.heap[k]? := by
  subst hW
  have hk := heap_set_same (i := 5) (v := v5) (heap_set_same (i := 4) (v := v4) (heap_set_same (i := 3) (v := v3) (heap_set_same (i := 2) (v := v2) (heap_set_same (i := 1) (v := v1) (heap_set_same (i := 0) (v := v0) h)))))
  have hk2 : ((((((W.setCell ⟨b, 0, none⟩ v0).setCell ⟨b, 1, none⟩ v1).setCell ⟨b, 2, none⟩ v2).setCell ⟨b, 3, none⟩ v3).setCell ⟨b, 4, none⟩ v4).setCell ⟨b, 5, none⟩ v5).heap[b]? = some (.cells #[v0, v1, v2, v3, v4, v5] t (0, 0)) := hk
  exact ⟨⟨cell_of_row _ _ 0 _ _ _ hk2, cell_of_row _ _ 1 _ _ _ hk2, cell_of_row _ _ 2 _ _ _ hk2, cell_of_row _ _ 3 _ _ _ hk2, cell_of_row _ _ 4 _ _ _ hk2, cell_of_row _ _ 5 _ _ _ hk2⟩,
    ((((((Below.refl b W).setCell (p := ⟨b, 0, none⟩) (Nat.le_refl _) _).setCell (p := ⟨b, 1, none⟩) (Nat.le_refl _) _).setCell (p := ⟨b, 2, none⟩) (Nat.le_refl _) _).setCell (p := ⟨b, 3, none⟩) (Nat.le_refl _) _).setCell (p := ⟨b, 4, none⟩) (Nat.le_refl _) _).setCell (p := ⟨b, 5, none⟩) (Nat.le_refl _) _, fun k hne => by rw [Below.heap_setCell _ _ _ _ hne, Below.heap_setCell _ _ _ _ hne, Below.heap_setCell _ _ _ _ hne, Below.heap_setCell _ _ _ _ hne, Below.heap_setCell _ _ _ _ hne, Below.heap_setCell _ _ _ _ hne]⟩
theorem IS.off {w w' : World} {v : Value} {xs : List Int} (h : IS w v xs) (q : ∀ k, v.ownBlock = some k → w'.heap[k]? = w.heap[k]?) : IS w' v xs := by
  obtain ⟨a, cap, rfl, h2, h3, h4, h5⟩ := h
  exact ⟨a, cap, rfl, h2, h3, h4, fun hn => by obtain ⟨b, off, rfl, hc⟩ := h5 hn; exact ⟨b, off, rfl, fun i hi => (World.cell?_of_block (q b rfl)).trans (hc i hi)⟩⟩
/-- the result's box, ahead of the store -/
structure RG (w W : World) : Prop where
  k : W.heap[w.heap.size]? = some (.cells #[.int .i64 0, .int .i64 0, .slice none 0 0, .slice none 0 0, .slice none 0 0, .int .i64 0] 70 (0, 0))
  b : Below w.heap.size w W
theorem RG.start (w : World) : RG w (w.alloc gzo) := ⟨heap_alloc_new w gzo, (Below.refl _ w).alloc (Nat.le_refl _) _⟩
theorem RG.below {w W W' : World} (h : RG w W) (b : Below W.heap.size W W') : RG w W' := ⟨(b.block _ (lt_of_block h.k)).trans h.k, chn h.b b⟩
theorem RG.c {w W : World} (h : RG w W) : W.cell? ⟨w.heap.size, 0, none⟩ = some (.int .i64 0) ∧ W.cell? ⟨w.heap.size, 1, none⟩ = some (.int .i64 0) ∧ W.cell? ⟨w.heap.size, 2, none⟩ = some (.slice none 0 0) ∧ W.cell? ⟨w.heap.size, 3, none⟩ = some (.slice none 0 0) ∧ W.cell? ⟨w.heap.size, 4, none⟩ = some (.slice none 0 0) ∧ W.cell? ⟨w.heap.size, 5, none⟩ = some (.int .i64 0) :=
  ⟨cell_of_row _ _ 0 _ _ _ h.k, cell_of_row _ _ 1 _ _ _ h.k, cell_of_row _ _ 2 _ _ _ h.k, cell_of_row _ _ 3 _ _ _ h.k, cell_of_row _ _ 4 _ _ _ h.k, cell_of_row _ _ 5 _ _ _ h.k⟩
theorem RG.f {w W : World} (h : RG w W) : W.frozen? ⟨w.heap.size, 0, none⟩ = false ∧ W.frozen? ⟨w.heap.size, 1, none⟩ = false ∧ W.frozen? ⟨w.heap.size, 2, none⟩ = false ∧ W.frozen? ⟨w.heap.size, 3, none⟩ = false ∧ W.frozen? ⟨w.heap.size, 4, none⟩ = false ∧ W.frozen? ⟨w.heap.size, 5, none⟩ = false :=
  ⟨frozen_of_row _ _ 0 _ _ h.k, frozen_of_row _ _ 1 _ _ h.k, frozen_of_row _ _ 2 _ _ h.k, frozen_of_row _ _ 3 _ _ h.k, frozen_of_row _ _ 4 _ _ h.k, frozen_of_row _ _ 5 _ _ h.k⟩
theorem More_ok {w : World} {v : Value} {ps : List Pn} {q : Int} {xs : List Int} {e : Int} (hr : moR ps q = (xs, e)) (h : PS w v ps) : Calls Try.prog 49 #[v, .int .i64 q] w (fun r w' => ∃ a cap, r = .returned (.tuple #[.slice a xs.length cap, .int .i64 e]) ∧ IS w' (.slice a xs.length cap) xs ∧ Below w.heap.size w w' ∧ ∀ k, (Value.slice a xs.length cap).ownBlock = some k → w.heap.size ≤ k) := by
  refine (More_new h q).mono ?_
  rintro r w' ⟨v, h1, h2, h3, h4⟩
  rw [hr] at h1 h2
  obtain ⟨a, cap, rfl, _, _⟩ := h2.slice
  exact ⟨a, cap, h1, h2, h3, h4⟩
set_option maxRecDepth 100000 in
set_option maxHeartbeats 4000000 in
theorem glook_no {w : World} {a : Option Addr} {m cap : Nat} {ps : List Pn} (hP : PS w (.slice a m cap) ps) {q E : Int} (h : (chkP ps = false ∧ E = 2) ∨ (chkP ps = true ∧ one m q = false ∧ E = 9)) (hE : (E != 0) = true) :
    Calls Try.prog 33 #[.slice a m cap, .int .i64 q] w (fun e w' => e = .returned (.tuple #[gz0, .int .i64 E]) ∧ Below w.heap.size w w') := by
  have HR := Lib.hid (RG.start w)
  have HC := Lib.hid (More_ok (moR_no hP.len h) (hP.below HR.out.b))
  unfold gzo at HR HC
  clear hP h
  go_enter Try.func33, Try.ntmps33
  go_wp2_with fail
  refine HC.out.mono ?_
  rintro e w1 ⟨a1, c1, rfl, hi, hb, _⟩
  have HR1 := Lib.hid (HR.out.below hb)
  obtain ⟨c0, c1, c2, c3, c4, c5⟩ := HR1.out.c
  obtain ⟨g0, g1, g2, g3, g4, g5⟩ := HR1.out.f
  clear hb hi HC
  go_wp2_with fail
  clear c0 c1 c2 c3 c4 c5 g0 g1 g2 g3 g4 g5
  obtain ⟨⟨e0, e1, e2, e3, e4, e5⟩, eb, _⟩ := six_end (.int .i64 0) (.int .i64 0) (.slice none 0 0) (.slice none 0 0) (.slice none 0 0) (.int .i64 0) HR1.out.k _ rfl
  refine bodyPost_ret (v := .tuple #[gz0, .int .i64 E]) (by simp [results, Try.results33, go_sem, e0, e1, e2, e3, e4, e5]) rfl ?_
  exact ⟨rfl, HR1.out.b.trans eb⟩
set_option maxRecDepth 100000 in
set_option maxHeartbeats 4000000 in
theorem glook_in {v w : World} (hbv : Below v.heap.size v w) {a : Option Addr} {m cap : Nat} {ps : List Pn} (hP : PS v (.slice a m cap) ps) (hok : chkP ps = true) {q : Nat} (hq : q < m) :
    Calls Try.prog 33 #[.slice a m cap, .int .i64 q] w (fun e w' => ∃ ta tcap ma mcap, e = .returned (.tuple #[gkv ps a m cap q ta tcap ma mcap, .int .i64 0]) ∧ TK v (.slice ta (ps.getD q p0).n tcap) (ps.getD q p0).n (ps.getD q p0).z ∧ IS w' (.slice ma (ps.getD q p0).n mcap) (mors ps q) ∧ (∀ k, (Value.slice ma (ps.getD q p0).n mcap).ownBlock = some k → w.heap.size ≤ k) ∧ Below w.heap.size w w') := by
  have HR := Lib.hid (RG.start w)
  have HP := Lib.hid hP
  have hmo : moR ps q = (mors ps q, 0) := by
    unfold moR
    rw [hok, if_pos rfl, if_pos ⟨by omega, by have := hP.len; omega⟩]
    rfl
  have HBV := Lib.hid hbv
  have HC := Lib.hid (More_ok hmo ((hP.below hbv).below HR.out.b))
  rw [mors_len] at HC
  unfold gzo at HR HC
  clear hP hok hmo hbv
  go_enter Try.func33, Try.ntmps33
  go_wp2_with fail
  refine HC.out.mono ?_
  rintro e w1 ⟨ma, mcap, rfl, hi, hb, hf⟩
  have HF := Lib.hid hf
  have HR1 := Lib.hid (HR.out.below hb)
  have HI := Lib.hid hi
  clear hb hi hf HC HR
  obtain ⟨b, off, ta, tcap, rfl, d0, d1, d2, hT, l1, l2, l3⟩ := HP.out.at hq
  have HTT := Lib.hid hT
  have d0 := (((HBV.out.trans (HR1.out.b.mono HBV.out.size))).cell (World.block_lt_of_cell? _ _ d0)).trans d0
  have d1 := (((HBV.out.trans (HR1.out.b.mono HBV.out.size))).cell (World.block_lt_of_cell? _ _ d1)).trans d1
  have d2 := (((HBV.out.trans (HR1.out.b.mono HBV.out.size))).cell (World.block_lt_of_cell? _ _ d2)).trans d2
  obtain ⟨p, hp⟩ : ∃ p, p = ps.getD q p0 := ⟨_, rfl⟩
  rw [← hp] at d0 d1 d2
  have HPP := Lib.hid hp
  have hpn : (ps.getD q p0).n = p.n := by rw [hp]
  rw [hpn] at HF HI HTT ⊢
  have hqm : (q : Int) < m := by omega
  have hq0 : (0 : Int) ≤ q := by omega
  clear hp hpn hT l1 l2 l3
  obtain ⟨per, bud, n, z⟩ := p
  dsimp only at d0 d1 d2 HF HI HTT ⊢
  obtain ⟨c0, c1, c2, c3, c4, c5⟩ := HR1.out.c
  obtain ⟨g0, g1, g2, g3, g4, g5⟩ := HR1.out.f
  go_wp2_with fail
  clear c0 c1 c2 c3 c4 c5 g0 g1 g2 g3 g4 g5 d0 d1 d2
  obtain ⟨⟨e0, e1, e2, e3, e4, e5⟩, eb, ek⟩ := six_end (.int .i64 per) (.int .i64 bud) (.slice ta n tcap) (.slice ma n mcap) (.slice (some ⟨b, off, none⟩) m cap) (.int .i64 q) HR1.out.k _ rfl
  refine bodyPost_ret (v := .tuple #[gv per bud ta n tcap ma mcap (some ⟨b, off, none⟩) m cap q, .int .i64 0]) (by simp [results, Try.results33, go_sem, e0, e1, e2, e3, e4, e5]) rfl ?_
  have hB := HR1.out.b.trans eb
  have HPN : Hid ((ps.getD q p0).n = n) := by unfold Hid; rw [← HPP.out]
  rw [HPN.out]
  refine ⟨ta, tcap, ma, mcap, by unfold gkv; rw [← HPP.out], HTT.out, ?_, fun k hk => by
    have := HF.out k hk
    rw [World.size_alloc] at this
    omega, hB⟩
  refine HI.out.off fun k hk => ek k (fun e => ?_)
  have := HF.out k hk
  rw [World.size_alloc] at this
  omega
theorem glook_yes {w : World} {a : Option Addr} {m cap : Nat} {ps : List Pn} (hP : PS w (.slice a m cap) ps) (hok : chkP ps = true) {q : Nat} (hq : q < m) :
    Calls Try.prog 33 #[.slice a m cap, .int .i64 q] w (fun e w' => ∃ ta tcap ma mcap, e = .returned (.tuple #[gkv ps a m cap q ta tcap ma mcap, .int .i64 0]) ∧ LG w' ps a m cap q ta tcap ma mcap ∧ Below w.heap.size w w') := by
  refine (glook_in (Below.refl _ w) hP hok hq).mono ?_
  rintro e w' ⟨ta, tcap, ma, mcap, rfl, h1, h2, _, hb⟩
  exact ⟨ta, tcap, ma, mcap, rfl, ⟨hP.below hb, hok, hq, h1.below hb, h2⟩, hb⟩
/-- the one that is looked at, over the world at the call's start, while boxes at its end are written -/
structure LH (v W : World) (ps : List Pn) (a : Option Addr) (m cap q : Nat) (ta : Option Addr) (tcap : Nat) (ma : Option Addr) (mcap : Nat) : Prop where
  p : PS v (.slice a m cap) ps
  ok : chkP ps = true
  lt : q < m
  t : TK v (.slice ta (ps.getD q p0).n tcap) (ps.getD q p0).n (ps.getD q p0).z
  k : IS W (.slice ma (ps.getD q p0).n mcap) (mors ps q)
  f : ∀ k, (Value.slice ma (ps.getD q p0).n mcap).ownBlock = some k → v.heap.size + 2 ≤ k
  b : Below v.heap.size v W
theorem LH.lg {v W : World} {ps : List Pn} {a : Option Addr} {m cap q : Nat} {ta : Option Addr} {tcap : Nat} {ma : Option Addr} {mcap : Nat} (h : LH v W ps a m cap q ta tcap ma mcap) : LG W ps a m cap q ta tcap ma mcap := ⟨h.p.below h.b, h.ok, h.lt, h.t.below h.b, h.k⟩
theorem LH.below {v W W' : World} {ps : List Pn} {a : Option Addr} {m cap q : Nat} {ta : Option Addr} {tcap : Nat} {ma : Option Addr} {mcap : Nat} (h : LH v W ps a m cap q ta tcap ma mcap) (q' : Below W.heap.size W W') : LH v W' ps a m cap q ta tcap ma mcap := ⟨h.p, h.ok, h.lt, h.t, h.k.below q', h.f, chn h.b q'⟩
theorem LH.set {v W : World} {ps : List Pn} {a : Option Addr} {m cap q : Nat} {ta : Option Addr} {tcap : Nat} {ma : Option Addr} {mcap : Nat} (h : LH v W ps a m cap q ta tcap ma mcap) {g i : Nat} (h1 : v.heap.size ≤ g) (h2 : g < v.heap.size + 2) (u : Value) : LH v (W.setCell ⟨g, i, none⟩ u) ps a m cap q ta tcap ma mcap :=
  ⟨h.p, h.ok, h.lt, h.t, h.k.off fun k hk => Below.heap_setCell _ _ _ _ (by have := h.f k hk; show k ≠ g; omega), h.f, h.b.setCell (p := ⟨g, i, none⟩) h1 _⟩
end Go.Proofs.Ytbdiekolkniajaa
