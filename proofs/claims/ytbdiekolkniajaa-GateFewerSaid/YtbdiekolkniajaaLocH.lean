/- Test, the program's: slacks are gone through. -/
import Derived.Test.YtbdiekolkniajaaLocG
import Derived.Deep.RegionHeld3
import Derived.RangeFuncNested
namespace Go.Proofs.Ytbdiekolkniajaa
open Go.RowKit Go.Shelf Tk De Dl Lo Go.Sort
set_option linter.unusedVariables false
attribute [local go_sem] Oper.semAt_some

theorem maxD_le {p : Pn} (hp : PB p) : maxD p.z p.n ≤ 64 := by
  have : ∀ k, k ≤ p.n → maxD p.z k ≤ 64 := by
    intro k
    induction k with
    | zero => intro _; exact Nat.zero_le _
    | succ k ih =>
      intro hk
      have h1 := ih (by omega)
      have h2 := tOK_iff.1 (hp.t k (by omega)).ok
      show max (maxD p.z k) (p.z k 1).toNat ≤ 64
      omega
  exact this _ (Nat.le_refl _)
theorem LH.drew {v W : World} {ps : List Pn} {a : Option Addr} {m cap q : Nat} {ta : Option Addr} {tcap : Nat} {ma : Option Addr} {mcap : Nat} (h : LH v W ps a m cap q ta tcap ma mcap) : LH v W.drew ps a m cap q ta tcap ma mcap := ⟨h.p, h.ok, h.lt, h.t, h.k, h.f, h.b.drew⟩
theorem TS.drew {w W : World} {g : Nat} {o : Obj} {x e : Int} (h : TS w W g o x e) : TS w W.drew g o x e := ⟨⟨h.rb.k, h.rb.r, h.rb.b.drew⟩, h.k, h.h⟩
theorem six_of {W : World} {g : Nat} {per bud : Int} {ta : Option Addr} {n tcap : Nat} {ma : Option Addr} {mcap : Nat} {a : Option Addr} {m cap : Nat} {q : Int} (h : W.heap[g]? = some (.cells #[.int .i64 per, .int .i64 bud, .slice ta n tcap, .slice ma n mcap, .slice a m cap, .int .i64 q] 70)) :
    W.cell? ⟨g, 0, none⟩ = some (.int .i64 per) ∧ W.cell? ⟨g, 1, none⟩ = some (.int .i64 bud) ∧ W.cell? ⟨g, 2, none⟩ = some (.slice ta n tcap) ∧ W.cell? ⟨g, 3, none⟩ = some (.slice ma n mcap) ∧ W.cell? ⟨g, 4, none⟩ = some (.slice a m cap) ∧ W.cell? ⟨g, 5, none⟩ = some (.int .i64 q) :=
  ⟨cell_of_row _ _ 0 _ _ _ h, cell_of_row _ _ 1 _ _ _ h, cell_of_row _ _ 2 _ _ _ h, cell_of_row _ _ 3 _ _ _ h, cell_of_row _ _ 4 _ _ _ h, cell_of_row _ _ 5 _ _ _ h⟩
theorem keeps_below {B : Nat} {W W' : World} (h : Below W.heap.size W W') : KeepsFrom B W W' := ⟨h.size, fun k o _ hk _ => (h.block k (lt_of_block hk)).trans hk⟩
/-- how the rounds end early -/
def StopI (ps : List Pn) (q : Nat) (w : World) (c : Code) (pre : List Tn) (W : World) : Prop :=
  c = .ret ∧ (∃ (p1 : List Tn) (x : Tn), pre = p1 ++ [x] ∧ bad ps q x.1 = true ∧ (∀ t ∈ p1, bad ps q t.1 = false) ∧ RB2 w W (x.1 : Nat) 120)
theorem rb2_own (w : World) (x e : Int) (B : Nat) (hB : w.heap.size ≤ B) : OwnFrom B (fun (_ : Unit) W => RB2 w W x e) := by
  rintro _ W W' row h hg hr
  refine ⟨?_, ?_, h.b.grown hg h.b.size (fun k e => Nat.le_trans hB (hr k e).1)⟩
  · exact (hg.block _ (by have := h.sz; omega) (fun e => by obtain ⟨_, o, ho, hc⟩ := hr _ e.symm; rw [h.k] at ho; cases ho; cases hc)).trans h.k
  · exact (hg.block _ h.sz (fun e => by obtain ⟨_, o, ho, hc⟩ := hr _ e.symm; rw [h.r] at ho; cases ho; cases hc)).trans h.r
theorem stop_own (ps : List Pn) (q : Nat) (w : World) (c : Code) (B : Nat) (hB : w.heap.size ≤ B) : OwnFrom B (StopI ps q w c) := by
  rintro pre W W' row ⟨hc, p1, x, h1, h2, h3, h4⟩ hg hr
  exact ⟨hc, p1, x, h1, h2, h3, rb2_own w _ _ B hB () W W' row h4 hg hr⟩
/-- what the rounds found: nothing, or the first one -/
theorem none_bad {ps : List Pn} {q : Nat} {xs : List Tn} (h : upto (endN ps q) xs) (hb : ∀ t ∈ xs, bad ps q t.1 = false) : firstBad ps q = 0 := by
  refine seek_none fun u h1 h2 => ?_
  have hm : u ∈ xs.map (·.1) := by rw [h]; exact List.mem_range'_1.2 (by omega)
  obtain ⟨t, ht, rfl⟩ := List.mem_map.1 hm
  exact hb t ht
theorem some_bad {ps : List Pn} {q k : Nat} {p1 : List Tn} {x : Tn} (hk : k ≤ endN ps q) (h : upto k (p1 ++ [x])) (hx : bad ps q x.1 = true) (hb : ∀ t ∈ p1, bad ps q t.1 = false) : firstBad ps q = x.1 ∧ 1 ≤ x.1 := by
  have hl := upto_len h
  rw [List.length_append, List.length_singleton] at hl
  obtain ⟨j, rfl⟩ : ∃ j, k = j + 1 := ⟨k - 1, by omega⟩
  unfold upto at h
  rw [List.map_append, List.range'_concat] at h
  have hlen : (p1.map (·.1)).length = (List.range' 1 j).length := by simp; omega
  obtain ⟨e1, e2⟩ := List.append_inj h hlen
  have ex : x.1 = 1 + j := by simpa using e2
  have hf : ∀ u, 1 ≤ u → u < 1 + j → bad ps q u = false := fun u h1 h2 => by
    have hm : u ∈ p1.map (·.1) := by rw [e1]; exact List.mem_range'_1.2 (by omega)
    obtain ⟨t, ht, rfl⟩ := List.mem_map.1 hm
    exact hb t ht
  refine ⟨?_, by omega⟩
  unfold firstBad
  rw [seek_at (m := j) (by omega) hf]
  obtain ⟨r, hr⟩ : ∃ r, endN ps q - j = r + 1 := ⟨endN ps q - j - 1, by omega⟩
  rw [hr, seek, ← ex, hx, if_pos rfl]
set_option maxRecDepth 100000 in
set_option maxHeartbeats 8000000 in
theorem Test_main {w : World} {a : Option Addr} {m cap : Nat} {ps : List Pn} (hP : PS w (.slice a m cap) ps) (hok : chkP ps = true) {q : Nat} (hq : q < m) (hn : (ps.getD q p0).n ≠ 0) (hh : hyp ps q ≤ 4096) {r1 r2 : Int} (hr0 : firstBad ps q = 0 → r1 = 0 ∧ r2 = 0) (hr1 : firstBad ps q ≠ 0 → r1 = (firstBad ps q : Nat) ∧ r2 = 120) (hu : useN ps q ≤ hyp ps q / (ps.getD q p0).per.toNat * (ps.getD q p0).bud.toNat) :
    Calls Try.prog 23 #[.slice a m cap, .int .i64 q] w (TwoB r1 r2 w) := by
  have HS := Lib.hid (rb2_start w)
  have HR0 := Lib.hid hr0; have HR1 := Lib.hid hr1
  clear hr0 hr1
  have HL := Lib.hid (glook_in HS.out.b hP hok hq)
  have hpb := chkP_at hok (i := q) (by have := hP.len; omega)
  obtain ⟨M, E, HE⟩ : ∃ M E : Int, Hid (hyR (ps.getD q p0).n (ps.getD q p0).z (ps.getD q p0).per = (M, E)) := ⟨_, _, rfl⟩
  have hyr : hyR (ps.getD q p0).n (ps.getD q p0).z (ps.getD q p0).per = if hyp ps q ≤ 4096 then (((hyp ps q : Nat) : Int), (0 : Int)) else (0, 5) := by
    have h1 := hpb.p1; have h2 := hpb.p2
    have hg := PB.good hpb
    have := hyR_yes (p := (ps.getD q p0).per.toNat) hg.ok (inn_iff.2 (by omega))
    rw [Int.toNat_of_nonneg (by omega)] at this
    exact this

  have hME : M = ((hyp ps q : Nat) : Int) ∧ E = 0 := by
    rw [if_pos hh] at hyr
    have := HE.out.symm.trans hyr
    exact ⟨(Prod.mk.inj this).1, (Prod.mk.inj this).2⟩
  obtain ⟨hM0, hE0⟩ := hME
  have HPB := Lib.hid hpb
  have HHF := Lib.hid (hyp_facts hpb)
  obtain ⟨X, hX⟩ : ∃ X, X = hyp ps q / (ps.getD q p0).per.toNat * (ps.getD q p0).bud.toNat := ⟨_, rfl⟩
  obtain ⟨U, hU⟩ : ∃ U, U = useN ps q := ⟨_, rfl⟩
  clear hyr
  rw [← hX, ← hU] at hu
  have hdI : decide ((X : Int) < (U : Int)) = false := by simp; omega
  have hdN : decide (X < U) = false := by simp; omega
  have HP := Lib.hid hP; have HOK := Lib.hid hok
  clear hP hok hpb
  refine (callsIn_wide (n := 6)).1 ?_
  refine callsIn_of_wp_marks Try.func23 rfl trivial ?_ rfl
  simp only [Try.ntmps23, List.size_toArray, List.length_cons, List.length_nil, Nat.reduceAdd, Nat.reduceSub, Array.replicate_succ, Array.replicate_zero, List.push_toArray, List.append_toArray, List.nil_append, List.cons_append]
  refine wpIn_wide.2 ?_
  go_wp2_with fail
  refine HL.out.mono ?_
  rintro e w1 ⟨ta, tcap, ma, mcap, rfl, hT, hI, hf, hb⟩
  have HT1 : Hid (TS w (w1.alloc (gvo (ps.getD q p0).per (ps.getD q p0).bud ta (ps.getD q p0).n tcap ma mcap a m cap q)) w1.heap.size (gvo (ps.getD q p0).per (ps.getD q p0).bud ta (ps.getD q p0).n tcap ma mcap a m cap q) 0 0) :=
    ⟨(HS.out.below hb).alloc _, heap_alloc_new w1 _, (HS.out.below hb).sz⟩
  have HT2 := Lib.hid (HT1.out.set1 0)
  have HH1 : Hid (LH w (w1.alloc (gvo (ps.getD q p0).per (ps.getD q p0).bud ta (ps.getD q p0).n tcap ma mcap a m cap q)) ps a m cap q ta tcap ma mcap) :=
    ⟨HP.out, HOK.out, hq, hT, hI.below ((Below.refl _ _).alloc (Nat.le_refl _) _), fun k hk => by have := hf k hk; simpa using this, ((HS.out.b).trans (hb.mono HS.out.b.size)).alloc ((HS.out.b).trans (hb.mono HS.out.b.size)).size _⟩
  have HH2 := Lib.hid (HH1.out.set (i := 0) (Nat.le_succ _) (Nat.lt_succ_self _) (.int .i64 0))
  have HHY := Lib.hid (hyper_any HH2.out.lg.t (ps.getD q p0).per)
  rw [HE.out] at HHY
  have HUS := Lib.hid (fun W (h : LH w W ps a m cap q ta tcap ma mcap) => use_q h.lg HHF.out.1 (show hyp ps q ≤ 1048576 by omega) HHF.out.2)
  have HPR := Lib.hid (fun W => promised_q HPB.out (h := hyp ps q) (by omega) ta (ps.getD q p0).n tcap ma mcap a m cap q W)
  rw [← hX] at HPR
  have hU2 : U = use (per (ps.getD q p0).z) (askN ps q) (hyp ps q) (ps.getD q p0).n := hU
  rw [← hU2] at HUS
  unfold gkv at HUS
  have HEN := Lib.hid (fun W (h : LH w W ps a m cap q ta tcap ma mcap) => end_q h.lg (by omega))
  have HSK := Lib.hid (fun W => slacks_any (ps.getD q p0).per (ps.getD q p0).bud ta (ps.getD q p0).n tcap ma mcap a m cap q (endN ps q : Nat) W)
  have HOB : Hid (gvo (ps.getD q p0).per (ps.getD q p0).bud ta (ps.getD q p0).n tcap ma mcap a m cap q = gvo (ps.getD q p0).per (ps.getD q p0).bud ta (ps.getD q p0).n tcap ma mcap a m cap q) := rfl
  have HEB : Hid (endN ps q ≤ 8192) := by
    have h1 := HPB.out.p2
    have h2 := maxD_le HPB.out
    unfold Hid endN
    omega
  have HSS := Lib.hid (fun (n : Nat) (hn : 1 ≤ n) (Bo Bg : Nat) (X W0 : World) (hX : LG X ps a m cap q ta tcap ma mcap) (hW : Below X.heap.size X W0) (hC : CapG W0 Bo Bg (gvo (ps.getD q p0).per (ps.getD q p0).bud ta (ps.getD q p0).n tcap ma mcap a m cap q) (endN ps q : Nat)) => slk_stops (last := endN ps q) hn (by have := HEB.out; omega) hX W0 hW hC)
  unfold gkv at HEN
  unfold gkv gv
  clear hb HL HS hT hI hf HP HOK HE HH1
  generalize (ps.getD q p0).n = n at *
  generalize (ps.getD q p0).per = per at *
  generalize (ps.getD q p0).bud = bud at *
  have hn0 : ((n : Int) == 0) = false := by simp; omega
  have hn1 : (n == 0) = false := by simp; omega
  clear hX hU hU2 HPB HHF HOB
  unfold gv at HUS HPR HEN HSK
  unfold gvo at HT1 HT2 HHY HH2 HSK HSS
  obtain ⟨c0, c1, g0, g1⟩ := HT1.out.rb.c
  obtain ⟨d0, d1, k0, k1⟩ := HT2.out.rb.c
  have hf := frozen_of_row _ _ 0 _ _ HT1.out.k
  have z0 := cell_of_row _ _ 0 _ _ _ HT2.out.k
  have z2 := cell_of_row _ _ 2 _ _ _ HT2.out.k
  change _ = some (Value.int .i64 per) at z0
  change _ = some (Value.slice ta n tcap) at z2
  go_wp2_with fail
  refine HHY.out.mono ?_
  rintro e w2 ⟨rfl, hb⟩
  have HT3 := Lib.hid (HT2.out.below hb)
  have HH3 := Lib.hid (HH2.out.below hb)
  clear hb HHY HT1 HT2 HH2 c0 c1 g0 g1 d0 d1 k0 k1 hf z0 z2
  have HT4 := Lib.hid (HT3.out.set1 E)
  obtain ⟨c0, c1, g0, g1⟩ := HT3.out.rb.c
  obtain ⟨d0, d1, k0, k1⟩ := HT4.out.rb.c
  subst hE0 hM0
  go_wp2_with fail
  clear c0 c1 g0 g1 d0 d1 k0 k1 HT3
  have HH4 := Lib.hid (HH3.out.set (i := 0) (Nat.le_succ _) (Nat.lt_succ_self _) (.int .i64 0))
  clear HH3
  generalize w2.setCell ⟨w.heap.size + 1, 0, none⟩ (.int .i64 0) = W at *
  have b0 := cell_of_row _ _ 0 _ _ _ HT4.out.k
  have b1 := cell_of_row _ _ 1 _ _ _ HT4.out.k
  have b2 := cell_of_row _ _ 2 _ _ _ HT4.out.k
  have b3 := cell_of_row _ _ 3 _ _ _ HT4.out.k
  have b4 := cell_of_row _ _ 4 _ _ _ HT4.out.k
  have b5 := cell_of_row _ _ 5 _ _ _ HT4.out.k
  change _ = some (Value.int .i64 per) at b0
  change _ = some (Value.int .i64 bud) at b1
  change _ = some (Value.slice ta n tcap) at b2
  change _ = some (Value.slice ma n mcap) at b3
  change _ = some (Value.slice a m cap) at b4
  change _ = some (Value.int .i64 q) at b5
  have mixed : Try.prog.follows .mixedOrders = true := by kernel_rfl
  have k0 := cell_regrown b0; have k1 := cell_regrown b1; have k2 := cell_regrown b2; have k3 := cell_regrown b3; have k4 := cell_regrown b4; have k5 := cell_regrown b5
  have cU := Lib.hid (fun d os => Calls.regrown_of (HUS.out _ (HH4.out.below (below_regrown W d os))))
  have cP := Lib.hid (fun d os => Calls.regrown_of (HPR.out (grow (redrawn W d) os)))
  generalize hyp ps q = H at *
  clear b0 b1 b2 b3 b4 b5 HUS HPR
  refine wp_region_quiet_below (by assumption) (by kernel_rfl) ?_
  repeat (quiet_step (first | (go_at_call 35; exact cU.out _ _) | (go_at_call 37; exact cP.out _ _)))
  refine wpQuiet_nil ?_
  intro _ hw'
  obtain ⟨⟨dq, osq⟩, hw''⟩ := hw'
  subst hw''
  have HT5 := Lib.hid (HT4.out.below (below_regrown W dq osq))
  have HH5 := Lib.hid (HH4.out.below (below_regrown W dq osq))
  clear k0 k1 k2 k3 k4 k5 cU cP HT4 HH4
  go_wp2_with fail
  generalize grow (redrawn W dq) osq = W5 at *
  have S5 := Lib.hid (six_of HT5.out.k)
  go_region_held3 (fun w' => w'.cell? ⟨w1.heap.size, 0, none⟩ = some (.int .i64 per) ∧ w'.cell? ⟨w1.heap.size, 1, none⟩ = some (.int .i64 bud) ∧ w'.cell? ⟨w1.heap.size, 2, none⟩ = some (.slice ta n tcap) ∧ w'.cell? ⟨w1.heap.size, 3, none⟩ = some (.slice ma n mcap) ∧ w'.cell? ⟨w1.heap.size, 4, none⟩ = some (.slice a m cap) ∧ w'.cell? ⟨w1.heap.size, 5, none⟩ = some (.int .i64 q))
    (first | assumption | exact S5.out | go_keep)
    (first
      | (go_at_call 39; refine (HEN.out _ (by first | exact HH5.out | exact HH5.out.drew)).mono ?_; rintro e w6 ⟨rfl, hb⟩; have HT6 := Lib.hid (TS.below (by first | exact HT5.out | exact HT5.out.drew) hb); have HH6 := Lib.hid (LH.below (by first | exact HH5.out | exact HH5.out.drew) hb); have hq6 := six_of HT6.out.k; clear hb)
      | (go_at_call 38; refine (HSK.out _).mono ?_; rintro e w7 ⟨gg, rfl, hC, hgg, hb⟩; have HT7 := Lib.hid (HT6.out.below hb); have HH7 := Lib.hid (HH6.out.below hb); have HC7 := Lib.hid hC; have HGG := Lib.hid hgg; have hq7 := six_of HT7.out.k; clear hb hC hgg))
  go_wp2_with fail
  have hsz7 := HT7.out.rb.sz
  have hgl := HC7.out.lt
  have HW7 : Hid (w.heap.size + 2 ≤ w7.heap.size) := by unfold Hid; omega
  have HSQ := Lib.hid (HSS.out 5 (by omega) gg (gg + 1) w7 w7 HH7.out.lg (Below.refl _ _) HC7.out)
  have HBDS := Lib.hid (fun (x : Tn) => HH7.out.lg.bds x.2)
  have HSL : Hid (∀ x : Tn, bad ps q x.1 = (decide ((0 : Int) < (demN ps q x.1 : Nat)) && decide (((supN (ps.getD q p0) x.1 : Nat) : Int) - (demN ps q x.1 : Nat) - del ps q (x.1 : Nat) (ps.getD q p0).n < 0))) := fun x => by
    unfold bad
    rw [Bool.eq_iff_iff, Bool.and_eq_true, Bool.and_eq_true, decide_eq_true_eq, decide_eq_true_eq, decide_eq_true_eq, decide_eq_true_eq]
    unfold slk
    omega
  clear hq7 HSS HEN HSK HC7 HGG HT6 HH6
  refine (wpIn_wide (n := 6)).1 ?_
  refine wpIn_rangeFunc_ownH rfl (by omega) (gf := 59) (lb := #[.pointer (some ⟨gg + 1, 0, none⟩), .pointer (some ⟨gg, 0, none⟩)]) rfl trivial (enters_of Try.func59 (by kernel_rfl) rfl)
    HSQ.out (fun h k => h.t k) (Kx.b (Nat.le_refl _) hgl.1 hgl.2) (Below.refl _ _) (fun _ => rfl)
    (fun pre W => (∀ t ∈ pre, bad ps q t.1 = false) ∧ Below w7.heap.size w7 W)
    (StopI ps q w)
    (OwnFrom.and (ownFrom_pure _ _) (ownFrom_below (Nat.le_refl _) (Nat.le_refl _)))
    (fun c => stop_own ps q w c _ (by omega))
    ⟨(fun t ht => by cases ht), Below.refl _ _⟩
    (fun x a' W => ∃ Bx, W.heap[Bx]? = some (.cells #[Value.int IntKind.i64 (supN (ps.getD q p0) x.1 : Nat), Value.int IntKind.i64 (demN ps q x.1 : Nat), Value.int IntKind.i64 (del ps q (x.1 : Nat) (ps.getD q p0).n)] 81 (0, 0)) ∧ a' = { tmps := List.toArray ((Value.slice a m cap) :: (Value.int IntKind.i64 ↑q) :: (undef) :: (undef) :: (Value.pointer (some { block := w.heap.size, off := 0 })) :: (Value.pointer (some { block := w.heap.size + 1, off := 0 })) :: (Value.pointer (some { block := w1.heap.size, off := 0 })) :: (Value.int IntKind.i64 ↑H) :: (Value.int IntKind.i64 (x.1 : Nat)) :: (Value.pointer (some ⟨Bx, 0, none⟩)) :: (Value.tuple #[Value.agg #[Value.int IntKind.i64 per, Value.int IntKind.i64 bud, Value.slice ta n tcap, Value.slice ma n mcap, Value.slice a m cap, Value.int IntKind.i64 ↑q], Value.int IntKind.i64 0]) :: (Value.slice a m cap) :: (Value.int IntKind.i64 ↑q) :: (Value.tuple #[Value.agg #[Value.int IntKind.i64 per, Value.int IntKind.i64 bud, Value.slice ta n tcap, Value.slice ma n mcap, Value.slice a m cap, Value.int IntKind.i64 ↑q], Value.int IntKind.i64 0]) :: (Value.agg #[Value.int IntKind.i64 per, Value.int IntKind.i64 bud, Value.slice ta n tcap, Value.slice ma n mcap, Value.slice a m cap, Value.int IntKind.i64 ↑q]) :: (Value.int IntKind.i64 0) :: (Value.int IntKind.i64 0) :: (Value.bool false) :: (Value.bool false) :: (Value.pointer (some { block := w1.heap.size, off := 0 })) :: (Value.pointer (some { block := w1.heap.size, off := 2 })) :: (Value.slice ta n tcap) :: (Value.int IntKind.i64 ↑n) :: (Value.bool false) :: (Value.bool false) :: (undef) :: (Value.tuple #[Value.int IntKind.i64 ↑H, Value.int IntKind.i64 0]) :: (Value.pointer (some { block := w1.heap.size, off := 0 })) :: (Value.pointer (some { block := w1.heap.size, off := 2 })) :: (Value.slice ta n tcap) :: (Value.pointer (some { block := w1.heap.size, off := 0 })) :: (Value.pointer (some { block := w1.heap.size, off := 0 })) :: (Value.int IntKind.i64 per) :: (Value.tuple #[Value.int IntKind.i64 ↑H, Value.int IntKind.i64 0]) :: (Value.int IntKind.i64 ↑H) :: (Value.int IntKind.i64 0) :: (Value.int IntKind.i64 0) :: (Value.bool false) :: (undef) :: (Value.agg #[Value.int IntKind.i64 per, Value.int IntKind.i64 bud, Value.slice ta n tcap, Value.slice ma n mcap, Value.slice a m cap, Value.int IntKind.i64 ↑q]) :: (Value.int IntKind.i64 ↑H) :: (Value.int IntKind.i64 ↑U) :: (Value.agg #[Value.int IntKind.i64 per, Value.int IntKind.i64 bud, Value.slice ta n tcap, Value.slice ma n mcap, Value.slice a m cap, Value.int IntKind.i64 ↑q]) :: (Value.int IntKind.i64 ↑H) :: (Value.int IntKind.i64 ↑X) :: (Value.bool false) :: (Value.agg #[Value.int IntKind.i64 per, Value.int IntKind.i64 bud, Value.slice ta n tcap, Value.slice ma n mcap, Value.slice a m cap, Value.int IntKind.i64 ↑q]) :: (Value.agg #[Value.int IntKind.i64 per, Value.int IntKind.i64 bud, Value.slice ta n tcap, Value.slice ma n mcap, Value.slice a m cap, Value.int IntKind.i64 ↑q]) :: (Value.int IntKind.i64 ↑H) :: (Value.int IntKind.i64 ↑(endN ps q)) :: (Value.func (Fn.func 59) #[] #[Value.pointer (some { block := gg + 1, off := 0 }), Value.pointer (some { block := gg, off := 0 })]) :: (Value.int IntKind.i64 (x.1 : Nat)) :: (Value.agg #[Value.int IntKind.i64 (supN (ps.getD q p0) x.1 : Nat), Value.int IntKind.i64 (demN ps q x.1 : Nat), Value.int IntKind.i64 (del ps q (x.1 : Nat) (ps.getD q p0).n)]) :: (undef) :: (undef) :: (undef) :: []), defers := [] })
    ?hax ?assign ?body ?done ?stop
  case hax =>
    rintro x a' s X Y row ⟨Bx, h1, h2⟩ hg hr
    exact ⟨Bx, (grownBy_keeps_cells hg (fun r e => (hr r e).2) h1 rfl).trans h1, h2⟩
  case assign =>
    rintro l pre x W K ⟨hi, hB⟩ hK
    unfold tkE at hK ⊢
    clear HSQ HBDS HSL
    gi_wp2
    exact hK _ _ ((KeepsOthers.alloc _ _).from _) (Kx.below ((Below.refl _ W).alloc (Nat.le_refl _) _) hB.size (Nat.lt_of_lt_of_le hgl.1 hB.size) (Nat.lt_of_lt_of_le hgl.2 hB.size)) ⟨hi, hB.alloc hB.size _⟩ ⟨W.heap.size, heap_alloc_new W _, rfl⟩
  case body =>
    rintro l pre x a' W hl hrec ⟨hi, hB⟩ ⟨Bx, hbX, rfl⟩ hlt
    have d0 := cell_of_row _ _ 0 _ _ _ hbX
    have d1 := cell_of_row _ _ 1 _ _ _ hbX
    have d2 := cell_of_row _ _ 2 _ _ _ hbX
    have HTW := Lib.hid (HT7.out.below hB)
    have HXS := Lib.hid (HSL.out x)
    have HI := Lib.hid hi; have HBW := Lib.hid hB
    have hKX : ∀ W', Below W.heap.size W W' → Kx w7.heap.size gg (gg + 1) W W' := fun W' b => Kx.below b hB.size (Nat.lt_of_lt_of_le hgl.1 hB.size) (Nat.lt_of_lt_of_le hgl.2 hB.size)
    have HKX := Lib.hid hKX
    obtain ⟨b1, b2, b3, b4⟩ := HBDS.out x
    have HSH := Lib.hid (fun W' => short_any (g := ((supN (ps.getD q p0) x.1 : Nat) : Int)) (a := ((demN ps q x.1 : Nat) : Int)) (k := del ps q (x.1 : Nat) (ps.getD q p0).n) (by omega) (by omega) (by omega) W')
    rw [← HXS.out] at HSH
    clear HXS hKX hi hB HSL HBDS HSQ b1 b2 b3 b4 hbX
    generalize supN (ps.getD q p0) x.1 = G at *
    generalize demN ps q x.1 = A at *
    generalize del ps q (x.1 : Nat) (ps.getD q p0).n = D at *
    obtain ⟨bb, hbb⟩ : ∃ bb, bb = bad ps q x.1 := ⟨_, rfl⟩
    have HBB := Lib.hid hbb
    rw [← hbb] at HSH
    clear hbb
    cases bb with
    | false =>
      gi_wp2_with (refine ⟨trivial, ?_⟩; gi_at_call 40; refine ((callsIn_wide.2 (HSH.out _)).inRound l).mono ?_; rintro e w8 ⟨rfl, hb⟩)
      refine ⟨keeps_below hb, HKX.out _ hb, fun t ht => ?_, HBW.out.trans (hb.mono HBW.out.size)⟩
      rcases List.mem_append.1 ht with ht | ht
      · exact HI.out t ht
      · rw [List.mem_singleton] at ht
        rw [ht]
        exact HBB.out.symm
    | true =>
      gi_wp2_with (refine ⟨trivial, ?_⟩; gi_at_call 40; refine ((callsIn_wide.2 (HSH.out _)).inRound l).mono ?_; rintro e w8 ⟨rfl, hb⟩; have HKB := Lib.hid (keeps_below (B := w7.heap.size) hb); have HR8 := Lib.hid (HTW.out.rb.below hb); have HR9 := Lib.hid (HR8.out.set0 (x.1 : Nat)); have HRA := Lib.hid (HR9.out.set1 120); obtain ⟨c0, c1, g0, g1⟩ := HR8.out.c; obtain ⟨e0, e1, l0, l1⟩ := HR9.out.c)
      refine ⟨HKB.out.trans (((KeepsOthers.setCell _ _ _).from _).trans ((KeepsOthers.setCell _ _ _).from _)), rfl, pre, x, rfl, HBB.out.symm, HI.out, HRA.out⟩
  case done =>
    rintro D xs W hD hS ⟨hi, hB⟩ hK
    have hz := none_bad hS hi
    have HR8 := Lib.hid (HT7.out.below hB).rb
    have HR9 := Lib.hid (HR8.out.set0 0)
    have HRA := Lib.hid (HR9.out.set1 0)
    obtain ⟨c0, c1, g0, g1⟩ := HR8.out.c
    obtain ⟨e0, e1, l0, l1⟩ := HR9.out.c
    obtain ⟨rfl, rfl⟩ := HR0.out hz
    have hK2 : ((W.setCell ⟨w.heap.size, 0, none⟩ (.int .i64 0)).setCell ⟨w.heap.size + 1, 0, none⟩ (.int .i64 0)).heap[D]? = some (.deferred (some [])) := by
      have := HW7.out
      rw [Below.heap_setCell _ _ _ _ (by show D ≠ w.heap.size + 1; omega), Below.heap_setCell _ _ _ _ (by show D ≠ w.heap.size; omega)]
      exact hK
    have HK2 := Lib.hid hK2
    have HD : Hid (w.heap.size + 2 ≤ D) := Nat.le_trans HW7.out hD
    clear hi hB hK hK2 hz hS hD HSQ HBDS HSL
    go_wp2_with fail
    have hfin := (rb2_own w 0 0 _ (Nat.le_refl _)).putObj (s := ()) (l := D) (.deferred none) HRA.out (by have := HD.out; omega) HK2.out rfl
    obtain ⟨x0, x1, _, _⟩ := hfin.c
    refine ⟨by simp, .inl ⟨_, _, rfl, run_takeDeferred HK2.out, ?_⟩⟩
    exact ⟨.tuple #[.int .i64 0, .int .i64 0], by simp [results, Try.results23, go_sem, x0, x1], rfl, hfin.b⟩
  case stop =>
    rintro D c pre W hD ⟨k, hk, hup⟩ ⟨rfl, p1, x, rfl, hx, hp, hR⟩ hK
    have hz := some_bad hk hup hx hp
    obtain ⟨rfl, rfl⟩ := HR1.out (by rw [hz.1]; omega)
    rw [hz.1]
    have HD : Hid (w.heap.size + 2 ≤ D) := Nat.le_trans HW7.out hD
    have hfin := (rb2_own w (x.1 : Nat) 120 _ (Nat.le_refl _)).putObj (s := ()) (l := D) (.deferred none) hR (by have := HD.out; omega) hK rfl
    obtain ⟨x0, x1, _, _⟩ := hfin.c
    clear HSQ HBDS HSL hp hup hx hz
    refine wpIn_wide.2 ?_
    go_wp2_with fail
    refine ⟨by simp, .inl ⟨_, _, rfl, run_takeDeferred hK, ?_⟩⟩
    exact ⟨.tuple #[.int .i64 (x.1 : Nat), .int .i64 120], by simp [results, Try.results23, go_sem, x0, x1], rfl, hfin.b⟩
theorem Test_any {w : World} {v : Value} {ps : List Pn} (h : PS w v ps) (q : Int) : Calls Try.prog 23 #[v, .int .i64 q] w (TwoB (teR ps q).1 (teR ps q).2 w) := by
  obtain ⟨a, cap, rfl, hn1, hn2⟩ := h.slice
  obtain ⟨m, hm⟩ : ∃ m, m = ps.length := ⟨_, rfl⟩
  rw [← hm] at h hn1 ⊢
  clear hn1 hn2
  rcases look_cases hm q with ⟨E, hE, hne⟩ | ⟨q, rfl, hq, hok⟩
  · have e : teR ps q = (0, E) := by
      unfold teR
      rcases hE with ⟨h, rfl⟩ | ⟨h, h2, rfl⟩
      · rw [h]; rfl
      · rw [h, if_pos rfl, if_neg (fun hc => by rw [one_iff.2 ⟨hc.1, by omega⟩] at h2; cases h2)]
    rw [e]
    exact Test_no h hE hne
  · have e : teR ps (q : Int) = if (ps.getD q p0).n = 0 then (0, 0) else teN ps q := by
      unfold teR
      rw [hok, if_pos rfl, if_pos ⟨by omega, by omega⟩]
      rfl
    rw [e]
    by_cases hn : (ps.getD q p0).n = 0
    · rw [if_pos hn]
      exact Test_none h hok hq hn
    · rw [if_neg hn]
      unfold teN
      by_cases hh : hyp ps q ≤ 4096
      · rw [if_pos hh]
        by_cases hu : useN ps q ≤ hyp ps q / (ps.getD q p0).per.toNat * (ps.getD q p0).bud.toNat
        · rw [if_pos hu]
          by_cases hf : firstBad ps q = 0
          · rw [if_pos hf]
            exact Test_main h hok hq hn hh (fun _ => ⟨rfl, rfl⟩) (fun hc => absurd hf hc) hu
          · rw [if_neg hf]
            exact Test_main h hok hq hn hh (fun hc => absurd hc hf) (fun _ => ⟨rfl, rfl⟩) hu
        · rw [if_neg hu]
          exact Test_use h hok hq hn hh hu
      · rw [if_neg hh]
        exact Test_limit h hok hq hn hh
theorem Test_fit {w : World} {v : Value} {ps : List Pn} {q m e : Int} (hr : teR ps q = (m, e)) (h : PS w v ps) : Calls Try.prog 23 #[v, .int .i64 q] w (TwoB m e w) := by
  have := Test_any h q
  rw [hr] at this
  exact this
end Go.Proofs.Ytbdiekolkniajaa
