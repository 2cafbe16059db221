/- Test, the program's. -/
import Derived.Test.YtbdiekolkniajaaLocF
import Derived.Lib.QuietBelow
namespace Go.Proofs.Ytbdiekolkniajaa
open Go.RowKit Go.Shelf Tk De Dl Lo Go.Sort
set_option linter.unusedVariables false
attribute [local go_sem] Oper.semAt_some

/-- both results' boxes -/
structure RB2 (w W : World) (at' e : Int) : Prop where
  k : W.heap[w.heap.size]? = some (.cells #[.int .i64 at'] 3 (0, 0))
  r : W.heap[w.heap.size + 1]? = some (.cells #[.int .i64 e] 28 (0, 0))
  b : Below w.heap.size w W
theorem RB2.below {w W W' : World} {x e : Int} (h : RB2 w W x e) (b : Below W.heap.size W W') : RB2 w W' x e := ⟨(b.block _ (lt_of_block h.k)).trans h.k, (b.block _ (lt_of_block h.r)).trans h.r, chn h.b b⟩
theorem rb2_start (w : World) : RB2 w ((w.alloc (.cells #[.int .i64 0] 3)).alloc (.cells #[.int .i64 0] 28)) 0 0 := by
  have h := heap_alloc_new (w.alloc (.cells #[.int .i64 0] 3)) (.cells #[.int .i64 0] 28)
  rw [World.size_alloc] at h
  exact ⟨(Below.heap_alloc _ _ _ (by simp)).trans (heap_alloc_new w _), h, ((Below.refl _ w).alloc (Nat.le_refl _) _).alloc (by simp) _⟩
theorem RB2.c {w W : World} {x e : Int} (h : RB2 w W x e) : W.cell? ⟨w.heap.size, 0, none⟩ = some (.int .i64 x) ∧ W.cell? ⟨w.heap.size + 1, 0, none⟩ = some (.int .i64 e) ∧ W.frozen? ⟨w.heap.size, 0, none⟩ = false ∧ W.frozen? ⟨w.heap.size + 1, 0, none⟩ = false :=
  ⟨cell_of_row _ _ 0 _ _ _ h.k, cell_of_row _ _ 0 _ _ _ h.r, frozen_of_row _ _ 0 _ _ h.k, frozen_of_row _ _ 0 _ _ h.r⟩
theorem RB2.alloc {w W : World} {x e : Int} (h : RB2 w W x e) (o : Obj) : RB2 w (W.alloc o) x e := h.below ((Below.refl _ _).alloc (Nat.le_refl _) o)
theorem RB2.set0 {w W : World} {x e : Int} (h : RB2 w W x e) (y : Int) : RB2 w (W.setCell ⟨w.heap.size, 0, none⟩ (.int .i64 y)) y e :=
  ⟨heap_set_same h.k, (Below.heap_setCell _ _ _ _ (by show w.heap.size + 1 ≠ w.heap.size; omega)).trans h.r, h.b.setCell (p := ⟨w.heap.size, 0, none⟩) (Nat.le_refl _) _⟩
theorem RB2.set1 {w W : World} {x e : Int} (h : RB2 w W x e) (y : Int) : RB2 w (W.setCell ⟨w.heap.size + 1, 0, none⟩ (.int .i64 y)) x y :=
  ⟨(Below.heap_setCell _ _ _ _ (by show w.heap.size ≠ w.heap.size + 1; omega)).trans h.k, heap_set_same h.r, h.b.setCell (p := ⟨w.heap.size + 1, 0, none⟩) (Nat.le_succ _) _⟩
theorem RB2.sz {w W : World} {x e : Int} (h : RB2 w W x e) : w.heap.size + 1 < W.heap.size := lt_of_block h.r
/-- the state behind lookAt -/
structure TS (w W : World) (g : Nat) (o : Obj) (x e : Int) : Prop where
  rb : RB2 w W x e
  k : W.heap[g]? = some o
  h : w.heap.size + 1 < g
theorem TS.below {w W W' : World} {g : Nat} {o : Obj} {x e : Int} (h : TS w W g o x e) (b : Below W.heap.size W W') : TS w W' g o x e := ⟨h.rb.below b, (b.block _ (lt_of_block h.k)).trans h.k, h.h⟩
theorem TS.set0 {w W : World} {g : Nat} {o : Obj} {x e : Int} (h : TS w W g o x e) (y : Int) : TS w (W.setCell ⟨w.heap.size, 0, none⟩ (.int .i64 y)) g o y e := ⟨h.rb.set0 y, (Below.heap_setCell _ _ _ _ (by have := h.h; show g ≠ w.heap.size; omega)).trans h.k, h.h⟩
theorem TS.set1 {w W : World} {g : Nat} {o : Obj} {x e : Int} (h : TS w W g o x e) (y : Int) : TS w (W.setCell ⟨w.heap.size + 1, 0, none⟩ (.int .i64 y)) g o x y := ⟨h.rb.set1 y, (Below.heap_setCell _ _ _ _ (by have := h.h; show g ≠ w.heap.size + 1; omega)).trans h.k, h.h⟩
/-- a store into the results' boxes leaves what can be read elsewhere: all lies in other blocks -/
theorem TK.off {w w' : World} {v : Value} {n : Nat} {z : Nat → Nat → Int} (h : TK w v n z) (q : ∀ k, v.ownBlock = some k → w'.heap[k]? = w.heap[k]?) : TK w' v n z := by
  obtain ⟨a, cap, rfl, h2, h3, h4, h5⟩ := h
  exact ⟨a, cap, rfl, h2, h3, h4, fun hn => by obtain ⟨b, off, rfl, hc⟩ := h5 hn; exact ⟨b, off, rfl, fun i hi j hj => (World.cell?_of_block (q b rfl)).trans (hc i hi j hj)⟩⟩
set_option maxRecDepth 100000 in
set_option maxHeartbeats 4000000 in
theorem Test_no {w : World} {a : Option Addr} {m cap : Nat} {ps : List Pn} (hP : PS w (.slice a m cap) ps) {q E : Int} (h : (chkP ps = false ∧ E = 2) ∨ (chkP ps = true ∧ one m q = false ∧ E = 9)) (hE : (E != 0) = true) :
    Calls Try.prog 23 #[.slice a m cap, .int .i64 q] w (TwoB 0 E w) := by
  have HS := Lib.hid (rb2_start w)
  have HL := Lib.hid (glook_no (hP.below HS.out.b) h hE)
  clear hP h
  go_enter Try.func23, Try.ntmps23
  go_wp2_with fail
  refine HL.out.mono ?_
  rintro e w1 ⟨rfl, hb⟩
  have HS1 := Lib.hid ((HS.out.below hb).alloc gzo)
  have HS2 := Lib.hid (HS1.out.set1 E)
  obtain ⟨c0, c1, g0, g1⟩ := HS1.out.c
  obtain ⟨d0, d1, k0, k1⟩ := HS2.out.c
  unfold gzo at c0 c1 g0 g1 d0 d1 k0 k1 HS2 HS1
  have hf : (w1.alloc (.cells #[.int .i64 0, .int .i64 0, .slice none 0 0, .slice none 0 0, .slice none 0 0, .int .i64 0] 70)).frozen? ⟨w1.heap.size, 0, none⟩ = false := frozen_of_row _ _ 0 _ _ (heap_alloc_new w1 _)
  clear hb HS HL
  go_wp2_with fail
  clear c0 c1 g0 g1 d0 d1 k0 k1 hf HS1
  generalize (w1.alloc (.cells #[.int .i64 0, .int .i64 0, .slice none 0 0, .slice none 0 0, .slice none 0 0, .int .i64 0] 70)).setCell ⟨w.heap.size + 1, 0, none⟩ (.int .i64 E) = W at *
  have HS3 := Lib.hid (HS2.out.set0 0)
  have HS4 := Lib.hid (HS3.out.set1 E)
  obtain ⟨d0, d1, k0, k1⟩ := HS2.out.c
  obtain ⟨e0, e1, l0, l1⟩ := HS3.out.c
  obtain ⟨x0, x1, y0, y1⟩ := HS4.out.c
  go_region
  all_goals go_wp2_with fail
  all_goals refine bodyPost_ret (v := .tuple #[.int .i64 0, .int .i64 E]) (by simp [results, Try.results23, go_sem, x0, x1]) rfl ?_
  all_goals exact ⟨rfl, HS4.out.b.drew⟩
set_option maxRecDepth 100000 in
set_option maxHeartbeats 4000000 in
theorem Test_none {w : World} {a : Option Addr} {m cap : Nat} {ps : List Pn} (hP : PS w (.slice a m cap) ps) (hok : chkP ps = true) {q : Nat} (hq : q < m) (hn : (ps.getD q p0).n = 0) :
    Calls Try.prog 23 #[.slice a m cap, .int .i64 q] w (TwoB 0 0 w) := by
  have HS := Lib.hid (rb2_start w)
  have HL := Lib.hid (glook_yes (hP.below HS.out.b) hok hq)
  have HOKX := Lib.hid hok
  clear hP hok
  go_enter Try.func23, Try.ntmps23
  go_wp2_with fail
  refine HL.out.mono ?_
  rintro e w1 ⟨ta, tcap, ma, mcap, rfl, hG, hb⟩
  have HT1 : Hid (TS w (w1.alloc (gvo (ps.getD q p0).per (ps.getD q p0).bud ta (ps.getD q p0).n tcap ma mcap a m cap q)) w1.heap.size (gvo (ps.getD q p0).per (ps.getD q p0).bud ta (ps.getD q p0).n tcap ma mcap a m cap q) 0 0) :=
    ⟨(HS.out.below hb).alloc _, heap_alloc_new w1 _, (HS.out.below hb).sz⟩
  have HT2 := Lib.hid (HT1.out.set1 0)
  have hbx : Below w1.heap.size w1 (w1.alloc (gvo (ps.getD q p0).per (ps.getD q p0).bud ta (ps.getD q p0).n tcap ma mcap a m cap q)) := (Below.refl _ _).alloc (Nat.le_refl _) _
  have HLG := Lib.hid (hG.below hbx)
  unfold gkv gv
  clear hb HL HS hG hbx HLG
  generalize (ps.getD q p0).n = n at *
  generalize (ps.getD q p0).per = per at *
  generalize (ps.getD q p0).bud = bud at *
  subst hn
  unfold gvo at HT1 HT2
  obtain ⟨c0, c1, g0, g1⟩ := HT1.out.rb.c
  obtain ⟨d0, d1, k0, k1⟩ := HT2.out.rb.c
  have hf := frozen_of_row _ _ 0 _ _ HT1.out.k
  have z2 := cell_of_row _ _ 2 _ _ _ HT2.out.k
  change _ = some (Value.slice ta 0 tcap) at z2
  go_wp2_with fail
  clear c0 c1 g0 g1 d0 d1 k0 k1 hf z2 HT1
  generalize (w1.alloc (.cells #[.int .i64 per, .int .i64 bud, .slice ta 0 tcap, .slice ma 0 mcap, .slice a m cap, .int .i64 q] 70)).setCell ⟨w.heap.size + 1, 0, none⟩ (.int .i64 0) = W at *
  have HS3 := Lib.hid (HT2.out.set0 0)
  have HS4 := Lib.hid (HS3.out.set1 0)
  obtain ⟨d0, d1, k0, k1⟩ := HT2.out.rb.c
  obtain ⟨e0, e1, l0, l1⟩ := HS3.out.rb.c
  obtain ⟨x0, x1, y0, y1⟩ := HS4.out.rb.c
  go_region
  all_goals go_wp2_with fail
  all_goals refine bodyPost_ret (v := .tuple #[.int .i64 0, .int .i64 0]) (by simp [results, Try.results23, go_sem, x0, x1]) rfl ?_
  all_goals exact ⟨rfl, HS4.out.rb.b.drew⟩
set_option maxRecDepth 100000 in
set_option maxHeartbeats 8000000 in
theorem Test_limit {w : World} {a : Option Addr} {m cap : Nat} {ps : List Pn} (hP : PS w (.slice a m cap) ps) (hok : chkP ps = true) {q : Nat} (hq : q < m) (hn : (ps.getD q p0).n ≠ 0) (hh : ¬ hyp ps q ≤ 4096) :
    Calls Try.prog 23 #[.slice a m cap, .int .i64 q] w (TwoB 0 5 w) := by
  have HS := Lib.hid (rb2_start w)
  have HL := Lib.hid (glook_in HS.out.b hP hok hq)
  have hpb := chkP_at hok (i := q) (by have := hP.len; omega)
  obtain ⟨M, E, HE⟩ : ∃ M E : Int, Hid (hyR (ps.getD q p0).n (ps.getD q p0).z (ps.getD q p0).per = (M, E)) := ⟨_, _, rfl⟩
  have hyr : hyR (ps.getD q p0).n (ps.getD q p0).z (ps.getD q p0).per = if hyp ps q ≤ 4096 then (((hyp ps q : Nat) : Int), (0 : Int)) else (0, 5) := by
    have h1 := hpb.p1; have h2 := hpb.p2
    have hg := PB.good hpb
    have := hyR_yes (p := (ps.getD q p0).per.toNat) hg.ok (inn_iff.2 (by omega))
    rw [Int.toNat_of_nonneg (by omega)] at this
    exact this
  have hE5 : E = 5 := by
    rw [if_neg hh] at hyr
    have := HE.out.symm.trans hyr
    exact (Prod.mk.inj this).2
  clear hyr hh
  have HP := Lib.hid hP; have HOK := Lib.hid hok
  clear hP hok hpb
  go_enter Try.func23, Try.ntmps23
  go_wp2_with fail
  refine HL.out.mono ?_
  rintro e w1 ⟨ta, tcap, ma, mcap, rfl, hT, hI, hf, hb⟩
  have HT1 : Hid (TS w (w1.alloc (gvo (ps.getD q p0).per (ps.getD q p0).bud ta (ps.getD q p0).n tcap ma mcap a m cap q)) w1.heap.size (gvo (ps.getD q p0).per (ps.getD q p0).bud ta (ps.getD q p0).n tcap ma mcap a m cap q) 0 0) :=
    ⟨(HS.out.below hb).alloc _, heap_alloc_new w1 _, (HS.out.below hb).sz⟩
  have HT2 := Lib.hid (HT1.out.set1 0)
  have HH1 : Hid (LH w (w1.alloc (gvo (ps.getD q p0).per (ps.getD q p0).bud ta (ps.getD q p0).n tcap ma mcap a m cap q)) ps a m cap q ta tcap ma mcap) :=
    ⟨HP.out, HOK.out, hq, hT, hI.below ((Below.refl _ _).alloc (Nat.le_refl _) _), fun k hk => by have := hf k hk; simpa using this, ((HS.out.b).trans (hb.mono HS.out.b.size)).alloc ((HS.out.b).trans (hb.mono HS.out.b.size)).size _⟩
  have HH2 := Lib.hid (HH1.out.set (i := 0) (Nat.le_succ _) (Nat.lt_succ_self _) (.int .i64 0))
  have HHY := Lib.hid (hyper_any HH2.out.lg.t (ps.getD q p0).per)
  rw [HE.out] at HHY
  unfold gkv gv
  clear hb HL HS hT hI hf HP HOK HE HH1
  generalize (ps.getD q p0).n = n at *
  generalize (ps.getD q p0).per = per at *
  generalize (ps.getD q p0).bud = bud at *
  have hn0 : ((n : Int) == 0) = false := by simp; omega
  have hn1 : (n == 0) = false := by simp; omega
  unfold gvo at HT1 HT2 HHY HH2
  obtain ⟨c0, c1, g0, g1⟩ := HT1.out.rb.c
  obtain ⟨d0, d1, k0, k1⟩ := HT2.out.rb.c
  have hf := frozen_of_row _ _ 0 _ _ HT1.out.k
  have z0 := cell_of_row _ _ 0 _ _ _ HT2.out.k
  have z2 := cell_of_row _ _ 2 _ _ _ HT2.out.k
  change _ = some (Value.int .i64 per) at z0
  change _ = some (Value.slice ta n tcap) at z2
  go_wp2_with fail
  refine HHY.out.mono ?_
  rintro e w2 ⟨rfl, hb⟩
  have HT3 := Lib.hid (HT2.out.below hb)
  have HH3 := Lib.hid (HH2.out.below hb)
  clear hb HHY HT1 HT2 HH2 c0 c1 g0 g1 d0 d1 k0 k1 hf z0 z2
  have HT4 := Lib.hid (HT3.out.set1 E)
  obtain ⟨c0, c1, g0, g1⟩ := HT3.out.rb.c
  obtain ⟨d0, d1, k0, k1⟩ := HT4.out.rb.c
  subst hE5
  go_wp2_with fail
  clear c0 c1 g0 g1 d0 d1 k0 k1 HT3 HH3
  generalize w2.setCell ⟨w.heap.size + 1, 0, none⟩ (.int .i64 5) = W at *
  have HS3 := Lib.hid (HT4.out.set0 0)
  have HS4 := Lib.hid (HS3.out.set1 5)
  obtain ⟨d0, d1, k0, k1⟩ := HT4.out.rb.c
  obtain ⟨e0, e1, l0, l1⟩ := HS3.out.rb.c
  obtain ⟨x0, x1, y0, y1⟩ := HS4.out.rb.c
  go_region
  all_goals go_wp2_with fail
  all_goals refine bodyPost_ret (v := .tuple #[.int .i64 0, .int .i64 5]) (by simp [results, Try.results23, go_sem, x0, x1]) rfl ?_
  all_goals exact ⟨rfl, HS4.out.rb.b.drew⟩
theorem promised_q {p : Pn} (hp : PB p) {h : Nat} (hh : h ≤ 1048576) (ta : Option Addr) (n tcap : Nat) (ma : Option Addr) (mcap : Nat) (a : Option Addr) (m cap : Nat) (q : Int) (w : World) :
    Calls Try.prog 37 #[gv p.per p.bud ta n tcap ma mcap a m cap q, .int .i64 h] w (YI ((h / p.per.toNat * p.bud.toNat : Nat) : Int) w) := by
  have h1 := hp.p1; have h2 := hp.p2; have h3 := hp.b1; have h4 := hp.b2
  have := promised_any (P := p.per.toNat) (B := p.bud.toNat) (h := h) (by omega) (by omega) (by omega) hh ta n tcap ma mcap a m cap q w
  rw [Int.toNat_of_nonneg (by omega), Int.toNat_of_nonneg (by omega)] at this
  exact this
theorem end_q {w : World} {ps : List Pn} {a : Option Addr} {m cap q : Nat} {ta : Option Addr} {tcap : Nat} {ma : Option Addr} {mcap : Nat} (h : LG w ps a m cap q ta tcap ma mcap) (hh : hyp ps q ≤ 1048576) :
    Calls Try.prog 39 #[gkv ps a m cap q ta tcap ma mcap, .int .i64 (hyp ps q : Nat)] w (YI ((endN ps q : Nat) : Int) w) := by
  have hp := h.tb
  have h1 := hp.p1; have h2 := hp.p2
  have := end_any (P := (ps.getD q p0).per.toNat) h.t hp.n4 (fun i hi => by have := tOK_iff.1 (h.task hi).1; omega) (by omega) hh (ps.getD q p0).bud ma mcap a m cap q
  rw [Int.toNat_of_nonneg (by omega)] at this
  exact this
theorem hyp_facts {ps : List Pn} {q : Nat} (hp : PB (ps.getD q p0)) : 0 < hyp ps q ∧ ∀ i, i < (ps.getD q p0).n → hyp ps q % per (ps.getD q p0).z i = 0 := by
  have h1 := hp.p1; have h2 := hp.p2
  refine ⟨(PB.good hp).hyp_pos (by omega) (by omega), fun i hi => ?_⟩
  exact Nat.mod_eq_zero_of_dvd (((hypL_dvd (n := (ps.getD q p0).n) (z := (ps.getD q p0).z) (p := (ps.getD q p0).per.toNat) (T := hyp ps q)).1 (Nat.dvd_refl _)).2 i hi)
set_option maxRecDepth 100000 in
set_option maxHeartbeats 8000000 in
theorem Test_use {w : World} {a : Option Addr} {m cap : Nat} {ps : List Pn} (hP : PS w (.slice a m cap) ps) (hok : chkP ps = true) {q : Nat} (hq : q < m) (hn : (ps.getD q p0).n ≠ 0) (hh : hyp ps q ≤ 4096) (hu : ¬ useN ps q ≤ hyp ps q / (ps.getD q p0).per.toNat * (ps.getD q p0).bud.toNat) :
    Calls Try.prog 23 #[.slice a m cap, .int .i64 q] w (TwoB 0 120 w) := by
  have HS := Lib.hid (rb2_start w)
  have HL := Lib.hid (glook_in HS.out.b hP hok hq)
  have hpb := chkP_at hok (i := q) (by have := hP.len; omega)
  obtain ⟨M, E, HE⟩ : ∃ M E : Int, Hid (hyR (ps.getD q p0).n (ps.getD q p0).z (ps.getD q p0).per = (M, E)) := ⟨_, _, rfl⟩
  have hyr : hyR (ps.getD q p0).n (ps.getD q p0).z (ps.getD q p0).per = if hyp ps q ≤ 4096 then (((hyp ps q : Nat) : Int), (0 : Int)) else (0, 5) := by
    have h1 := hpb.p1; have h2 := hpb.p2
    have hg := PB.good hpb
    have := hyR_yes (p := (ps.getD q p0).per.toNat) hg.ok (inn_iff.2 (by omega))
    rw [Int.toNat_of_nonneg (by omega)] at this
    exact this

  have hME : M = ((hyp ps q : Nat) : Int) ∧ E = 0 := by
    rw [if_pos hh] at hyr
    have := HE.out.symm.trans hyr
    exact ⟨(Prod.mk.inj this).1, (Prod.mk.inj this).2⟩
  obtain ⟨hM0, hE0⟩ := hME
  have HPB := Lib.hid hpb
  have HHF := Lib.hid (hyp_facts hpb)
  obtain ⟨X, hX⟩ : ∃ X, X = hyp ps q / (ps.getD q p0).per.toNat * (ps.getD q p0).bud.toNat := ⟨_, rfl⟩
  obtain ⟨U, hU⟩ : ∃ U, U = useN ps q := ⟨_, rfl⟩
  clear hyr
  rw [← hX, ← hU] at hu
  have hdI : decide ((X : Int) < (U : Int)) = true := by simp; omega
  have hdN : decide (X < U) = true := by simp; omega
  have HP := Lib.hid hP; have HOK := Lib.hid hok
  clear hP hok hpb
  go_enter Try.func23, Try.ntmps23
  go_wp2_with fail
  refine HL.out.mono ?_
  rintro e w1 ⟨ta, tcap, ma, mcap, rfl, hT, hI, hf, hb⟩
  have HT1 : Hid (TS w (w1.alloc (gvo (ps.getD q p0).per (ps.getD q p0).bud ta (ps.getD q p0).n tcap ma mcap a m cap q)) w1.heap.size (gvo (ps.getD q p0).per (ps.getD q p0).bud ta (ps.getD q p0).n tcap ma mcap a m cap q) 0 0) :=
    ⟨(HS.out.below hb).alloc _, heap_alloc_new w1 _, (HS.out.below hb).sz⟩
  have HT2 := Lib.hid (HT1.out.set1 0)
  have HH1 : Hid (LH w (w1.alloc (gvo (ps.getD q p0).per (ps.getD q p0).bud ta (ps.getD q p0).n tcap ma mcap a m cap q)) ps a m cap q ta tcap ma mcap) :=
    ⟨HP.out, HOK.out, hq, hT, hI.below ((Below.refl _ _).alloc (Nat.le_refl _) _), fun k hk => by have := hf k hk; simpa using this, ((HS.out.b).trans (hb.mono HS.out.b.size)).alloc ((HS.out.b).trans (hb.mono HS.out.b.size)).size _⟩
  have HH2 := Lib.hid (HH1.out.set (i := 0) (Nat.le_succ _) (Nat.lt_succ_self _) (.int .i64 0))
  have HHY := Lib.hid (hyper_any HH2.out.lg.t (ps.getD q p0).per)
  rw [HE.out] at HHY
  have HUS := Lib.hid (fun W (h : LH w W ps a m cap q ta tcap ma mcap) => use_q h.lg HHF.out.1 (show hyp ps q ≤ 1048576 by omega) HHF.out.2)
  have HPR := Lib.hid (fun W => promised_q HPB.out (h := hyp ps q) (by omega) ta (ps.getD q p0).n tcap ma mcap a m cap q W)
  rw [← hX] at HPR
  have hU2 : U = use (per (ps.getD q p0).z) (askN ps q) (hyp ps q) (ps.getD q p0).n := hU
  rw [← hU2] at HUS
  unfold gkv at HUS
  unfold gkv gv
  clear hb HL HS hT hI hf HP HOK HE HH1
  generalize (ps.getD q p0).n = n at *
  generalize (ps.getD q p0).per = per at *
  generalize (ps.getD q p0).bud = bud at *
  have hn0 : ((n : Int) == 0) = false := by simp; omega
  have hn1 : (n == 0) = false := by simp; omega
  clear hX hU hU2 HPB HHF
  unfold gv at HUS HPR
  unfold gvo at HT1 HT2 HHY HH2
  obtain ⟨c0, c1, g0, g1⟩ := HT1.out.rb.c
  obtain ⟨d0, d1, k0, k1⟩ := HT2.out.rb.c
  have hf := frozen_of_row _ _ 0 _ _ HT1.out.k
  have z0 := cell_of_row _ _ 0 _ _ _ HT2.out.k
  have z2 := cell_of_row _ _ 2 _ _ _ HT2.out.k
  change _ = some (Value.int .i64 per) at z0
  change _ = some (Value.slice ta n tcap) at z2
  go_wp2_with fail
  refine HHY.out.mono ?_
  rintro e w2 ⟨rfl, hb⟩
  have HT3 := Lib.hid (HT2.out.below hb)
  have HH3 := Lib.hid (HH2.out.below hb)
  clear hb HHY HT1 HT2 HH2 c0 c1 g0 g1 d0 d1 k0 k1 hf z0 z2
  have HT4 := Lib.hid (HT3.out.set1 E)
  obtain ⟨c0, c1, g0, g1⟩ := HT3.out.rb.c
  obtain ⟨d0, d1, k0, k1⟩ := HT4.out.rb.c
  subst hE0 hM0
  go_wp2_with fail
  clear c0 c1 g0 g1 d0 d1 k0 k1 HT3
  have HH4 := Lib.hid (HH3.out.set (i := 0) (Nat.le_succ _) (Nat.lt_succ_self _) (.int .i64 0))
  clear HH3
  generalize w2.setCell ⟨w.heap.size + 1, 0, none⟩ (.int .i64 0) = W at *
  have b0 := cell_of_row _ _ 0 _ _ _ HT4.out.k
  have b1 := cell_of_row _ _ 1 _ _ _ HT4.out.k
  have b2 := cell_of_row _ _ 2 _ _ _ HT4.out.k
  have b3 := cell_of_row _ _ 3 _ _ _ HT4.out.k
  have b4 := cell_of_row _ _ 4 _ _ _ HT4.out.k
  have b5 := cell_of_row _ _ 5 _ _ _ HT4.out.k
  change _ = some (Value.int .i64 per) at b0
  change _ = some (Value.int .i64 bud) at b1
  change _ = some (Value.slice ta n tcap) at b2
  change _ = some (Value.slice ma n mcap) at b3
  change _ = some (Value.slice a m cap) at b4
  change _ = some (Value.int .i64 q) at b5
  have mixed : Try.prog.follows .mixedOrders = true := by kernel_rfl
  have k0 := cell_regrown b0; have k1 := cell_regrown b1; have k2 := cell_regrown b2; have k3 := cell_regrown b3; have k4 := cell_regrown b4; have k5 := cell_regrown b5
  have cU := Lib.hid (fun d os => Calls.regrown_of (HUS.out _ (HH4.out.below (below_regrown W d os))))
  have cP := Lib.hid (fun d os => Calls.regrown_of (HPR.out (grow (redrawn W d) os)))
  generalize hyp ps q = H at *
  clear b0 b1 b2 b3 b4 b5 HUS HPR
  refine wp_region_quiet_below (by assumption) (by kernel_rfl) ?_
  repeat (quiet_step (first | (go_at_call 35; exact cU.out _ _) | (go_at_call 37; exact cP.out _ _)))
  refine wpQuiet_nil ?_
  intro _ hw'
  obtain ⟨⟨dq, osq⟩, hw''⟩ := hw'
  subst hw''
  have HT5 := Lib.hid (HT4.out.below (below_regrown W dq osq))
  have HH5 := Lib.hid (HH4.out.below (below_regrown W dq osq))
  clear k0 k1 k2 k3 k4 k5 cU cP HT4 HH4
  generalize grow (redrawn W dq) osq = W5 at *
  have HS3 := Lib.hid (HT5.out.set0 0)
  have HS4 := Lib.hid (HS3.out.set1 120)
  obtain ⟨d0, d1, k0, k1⟩ := HT5.out.rb.c
  obtain ⟨e0, e1, l0, l1⟩ := HS3.out.rb.c
  obtain ⟨x0, x1, y0, y1⟩ := HS4.out.rb.c
  go_wp2_with fail
  refine bodyPost_ret (v := .tuple #[.int .i64 0, .int .i64 120]) (by simp [results, Try.results23, go_sem, x0, x1]) rfl ?_
  exact ⟨rfl, HS4.out.rb.b⟩
end Go.Proofs.Ytbdiekolkniajaa
