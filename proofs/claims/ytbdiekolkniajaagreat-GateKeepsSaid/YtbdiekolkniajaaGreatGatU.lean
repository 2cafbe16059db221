/- What begins in a tick: servers' periods, jobs. -/
import Derived.Test.YtbdiekolkniajaaGreatGatR
import Derived.Test.YtbdiekolkniajaaGreatGatT
import Derived.Deep.CutRange
namespace Go.Proofs.YtbdiekolkniajaaGreat
open Go.RowKit Tk De Dl Lo Su Sh Gt
set_option linter.unusedVariables false

/-- the machine, and a partition's box -/
structure MT (W0 W : World) (q : Bk) (l e jl je nx : Nat → Nat) (d bp : Nat) (per bud : Nat) (tv : Value) : Prop where
  ms : MS W0 W q l e jl je nx d
  bx : W.heap[bp]? = some (.cells #[.int .i64 per, .int .i64 bud, tv] 46 (0, 0))
  ne : bp ≠ q.rb ∧ bp ≠ q.lb ∧ bp ≠ q.eb ∧ bp ≠ q.jb ∧ bp ≠ q.nb
section
variable {W0 W : World} {q : Bk} {l e jl je nx : Nat → Nat} {d bp per bud : Nat} {tv : Value}
theorem MT.drew (h : MT W0 W q l e jl je nx d bp per bud tv) : MT W0 W.drew q l e jl je nx d bp per bud tv := ⟨h.ms.drew, h.bx, h.ne⟩
theorem MT.drewN (h : MT W0 W q l e jl je nx d bp per bud tv) (m : Nat) : MT W0 (W.drewN m) q l e jl je nx d bp per bud tv := ⟨h.ms.drewN m, h.bx, h.ne⟩
theorem MT.setL (h : MT W0 W q l e jl je nx d bp per bud tv) (hq : q.Ok W0.heap.size) {i : Nat} (hi : i < q.k) (X : Nat) : MT W0 (W.setCell ⟨q.lb, i, none⟩ (.int .i64 X)) q (upd l i X) e jl je nx d bp per bud tv := ⟨h.ms.setL hq hi X, (Below.heap_setCell _ _ _ _ h.ne.2.1).trans h.bx, h.ne⟩
theorem MT.setE (h : MT W0 W q l e jl je nx d bp per bud tv) (hq : q.Ok W0.heap.size) {i : Nat} (hi : i < q.k) (X : Nat) : MT W0 (W.setCell ⟨q.eb, i, none⟩ (.int .i64 X)) q l (upd e i X) jl je nx d bp per bud tv := ⟨h.ms.setE hq hi X, (Below.heap_setCell _ _ _ _ h.ne.2.2.1).trans h.bx, h.ne⟩
theorem MT.setN (h : MT W0 W q l e jl je nx d bp per bud tv) (hq : q.Ok W0.heap.size) {i : Nat} (hi : i < 4 * q.k) (X : Nat) : MT W0 (W.setCell ⟨q.nb, i, none⟩ (.int .i64 X)) q l e jl je (upd nx i X) d bp per bud tv := ⟨h.ms.setN hq hi X, (Below.heap_setCell _ _ _ _ h.ne.2.2.2.2).trans h.bx, h.ne⟩
theorem MT.setJ (h : MT W0 W q l e jl je nx d bp per bud tv) (hq : q.Ok W0.heap.size) {i : Nat} (hi : i < 4 * q.k) (E L : Nat) : MT W0 ((W.setCell ⟨q.jb, i * 2, none⟩ (.int .i64 E)).setCell ⟨q.jb, i * 2 + 1, none⟩ (.int .i64 L)) q l e (upd jl i L) (upd je i E) nx d bp per bud tv := ⟨h.ms.setJ hq hi E L, (Below.heap_setCell _ _ _ _ h.ne.2.2.2.1).trans ((Below.heap_setCell _ _ _ _ h.ne.2.2.2.1).trans h.bx), h.ne⟩
theorem MT.setD (h : MT W0 W q l e jl je nx d bp per bud tv) (hq : q.Ok W0.heap.size) (D : Nat) : MT W0 (W.setCell ⟨q.rb, 7, none⟩ (.int .i64 D)) q l e jl je nx D bp per bud tv := ⟨h.ms.setD hq D, (Below.heap_setCell _ _ _ _ h.ne.1).trans h.bx, h.ne⟩
theorem MT.b (h : MT W0 W q l e jl je nx d bp per bud tv) : W.cell? ⟨bp, 0, none⟩ = some (.int .i64 per) ∧ W.cell? ⟨bp, 1, none⟩ = some (.int .i64 bud) ∧ W.cell? ⟨bp, 2, none⟩ = some tv := ⟨cell_of_row _ _ 0 _ _ _ h.bx, cell_of_row _ _ 1 _ _ _ h.bx, cell_of_row _ _ 2 _ _ _ h.bx⟩
theorem MS.mt (h : MS W0 W q l e jl je nx d) (per bud : Nat) (tv : Value) : MT W0 (W.alloc (.cells #[.int .i64 per, .int .i64 bud, tv] 46)) q l e jl je nx d W.heap.size per bud tv := by
  obtain ⟨h1, h2, h3, h4, h5⟩ := h.lt
  exact ⟨h.alloc _, heap_alloc_new W _, by omega, by omega, by omega, by omega, by omega⟩
end
/-- what is so at the beginning of a tick, of the plain machine -/
structure TkS (ps : List Pn) (ins : List Bool) (t : Nat) : Prop where
  pd : Passed ps ins
  len : ins.length = ps.length
  t5 : t < 500
/-- a server begins a period, or doesn't -/
theorem sv_step {ps : List Pn} {ins : List Bool} {t : Nat} (h : TkS ps ins t) {i : Nat} (hi : i < ps.length) :
    ∃ P B : Nat, (ps.getD i p0).per = P ∧ (ps.getD i p0).bud = B ∧ 1 ≤ P ∧ P ≤ 64 ∧ 1 ≤ B ∧ B ≤ 64 ∧
    (((svOf ps ins).rel t i = false → (svOf ps ins).l1 t i = ((svOf ps ins).st t).1 i ∧ (svOf ps ins).e1 t i = ((svOf ps ins).st t).2 i) ∧
      (ins.getD i false = false → (svOf ps ins).rel t i = false) ∧ (¬ t % P = 0 → (svOf ps ins).rel t i = false) ∧
      (ins.getD i false = true → t % P = 0 → (svOf ps ins).l1 t i = B ∧ (svOf ps ins).e1 t i = t + P ∧ ((svOf ps ins).st t).1 i = 0)) := by
  have hok := sv_ok h.pd.pl h.pd.w
  obtain ⟨b1, b2, b3, b4⟩ := s_bd h.pd.pl i hi
  have hp := (h.pd.pl _ (at_mem hi)).ok
  refine ⟨sP ps i, sB ps i, ?_, ?_, b1, b2, b3, by omega, fun hr => ⟨?_, ?_⟩, fun hr => ?_, fun hr => ?_, fun h1 h2 => ?_⟩
  · have := hp.p1; unfold sP; omega
  · have := hp.b1; unfold sB; omega
  · unfold Sv.l1 Sv.relL; rw [hr]; rfl
  · unfold Sv.e1 Sv.relE; rw [hr]; rfl
  · unfold Sv.rel
    rw [show (svOf ps ins).inn i = ins.getD i false from rfl, hr, Bool.and_false, Bool.false_and]
  · unfold Sv.rel
    rw [show (svOf ps ins).P i = sP ps i from rfl, decide_eq_false hr, Bool.and_false]
  · have hr : (svOf ps ins).rel t i = true := by
      unfold Sv.rel
      rw [show (svOf ps ins).k = ps.length from rfl, show (svOf ps ins).inn i = ins.getD i false from rfl, show (svOf ps ins).P i = sP ps i from rfl, decide_eq_true hi, h1, decide_eq_true h2]
      rfl
    refine ⟨?_, ?_, st_late hok (by have := h.t5; omega) hr⟩
    · unfold Sv.l1 Sv.relL; rw [hr]; rfl
    · unfold Sv.e1 Sv.relE; rw [hr]; rfl
/-- a job is released: the numbers -/
theorem jb_facts {ps : List Pn} {ins : List Bool} {t : Nat} (h : TkS ps ins t) {jl je nx : Nat → Nat} (hJ : JI ps ins t jl je nx) {i k c : Nat} (hi : i < ps.length) (hin : ins.getD i false = true) (hk : k < (ps.getD i p0).n) (hc : c = 4 * i + k) :
    (0 < jl c → t < je c) ∧ (nx c ≤ t → ∃ E L X1 : Nat, (t : Int) + (ps.getD i p0).z k 1 = (E : Int) ∧ (ps.getD i p0).z k 2 = (L : Int) ∧ (t : Int) + (ps.getD i p0).z k 0 = (X1 : Int) ∧ E ≤ 600 ∧ L ≤ 64 ∧ X1 ≤ 600 ∧
    ∀ X2 : Nat, X1 ≤ X2 → JI ps ins t (upd jl c L) (upd je c E) (upd nx c X2)) := by
  subst hc
  have ht := h.t5
  refine ⟨fun hl => ji_late h.pd (by omega) hJ hi hin hk hl, fun hx => ?_⟩
  obtain ⟨g1, g2, g3, g4, g5, g6⟩ := tOK_iff.1 (((h.pd.pl _ (at_mem hi)).ok.t k hk).ok)
  refine ⟨t + ((ps.getD i p0).z k 1).toNat, ((ps.getD i p0).z k 2).toNat, t + ((ps.getD i p0).z k 0).toNat, by omega, by omega, by omega, by omega, by omega, by omega, fun X2 h2 => ?_⟩
  exact ji_release h.pd hJ hi hin hk hx rfl rfl h2
theorem upd_upd (f : Nat → Nat) (k a b : Nat) : upd (upd f k a) k b = upd f k b := by
  funext i
  unfold upd
  split <;> rfl
theorem wr_sum {a b : Int} {c : Nat} (h : a + b = (c : Int)) (hc : c ≤ 1099511627776) : wrap64 (a + b) = (c : Int) ∧ IntKind.i64.wrap (a + b) = (c : Int) := by
  rw [h]
  exact ⟨(wr2 (by omega) (by omega)).2, (wr2 (by omega) (by omega)).1⟩
def BgP (W0 : World) (q : Bk) (ps : List Pn) (ins : List Bool) (t d : Nat) (x : Ending) (w' : World) : Prop := x = .returned (.bool true) ∧
  ∃ jl je nx d', MS W0 w' q ((svOf ps ins).l1 t) ((svOf ps ins).e1 t) jl je nx d' ∧ JI ps ins t jl je nx ∧ BD q.k jl je nx ∧ d' ≤ d + 4 * q.k
set_option maxRecDepth 100000 in
set_option maxHeartbeats 40000000 in
theorem begins_any {W0 W : World} {q : Bk} {jl je nx : Nat → Nat} {d t : Nat} {ps : List Pn} {ins : List Bool} {ls : List Int} {s : Sv} (hs : s = svOf ps ins)
    (hM : MS W0 W q (s.st t).1 (s.st t).2 jl je nx d) (hq : q.Ok W0.heap.size) (hps : PS W0 (.slice q.pa q.k q.pc) ps) (hin : BV W0 (.slice q.ia q.k q.ic) ins) (hla : IS W0 (.slice q.la q.nl q.lc) ls)
    (hT : TkS ps ins t) (hd : d ≤ 16 * t) (hJ : JI ps ins t jl je nx) (hB : BD q.k jl je nx) :
    Calls Tryz.prog 9 #[.pointer (some ⟨q.rb, 0, none⟩), .int .i64 t] W (BgP W0 q ps ins t d) := by
  have mixed : Tryz.prog.follows .mixedOrders = true := by kernel_rfl
  have HM := Lib.hid hM; have HQ := Lib.hid hq; have HPS := Lib.hid hps; have HIN := Lib.hid hin; have HLA := Lib.hid hla; have HT := Lib.hid hT; have HJ := Lib.hid hJ; have HB := Lib.hid hB
  have hk4 := hq.k4
  have hkl : q.k = ps.length := hps.len
  have HKL := Lib.hid hkl
  have ht5 := hT.t5
  have HSV := Lib.hid hs
  have HNL : Hid (q.nl ≤ 9223372036854775807) := by
    obtain ⟨a', c', e, h1, h2⟩ := hla.slice
    have : q.nl = ls.length := by simpa using (by simpa using e : q.la = a' ∧ q.nl = ls.length ∧ q.lc = c').2.1
    unfold Hid; unfold maxLen at h2; omega
  have HNE : Hid (q.nl = ls.length) := by
    obtain ⟨a', c', e, h1, h2⟩ := hla.slice
    exact (by simpa using e : q.la = a' ∧ q.nl = ls.length ∧ q.lc = c').2.1
  clear hM hq hps hin hla hT hJ hB hkl hs
  go_enter Tryz.func9, Tryz.ntmps9
  go_wp2_with fail
  go_loopw [5] (fun iv wr => ∃ (i d' : Nat) (jl je nx : Nat → Nat), i ≤ q.k ∧ iv = .int .i64 (i : Nat) ∧ d' ≤ d + 4 * i ∧ Hid (MS W0 wr q (mix i (s.l1 t) (s.st t).1) (mix i (s.e1 t) (s.st t).2) jl je nx d') ∧ Hid (JI ps ins t jl je nx) ∧ Hid (BD q.k jl je nx)) (fun iv _ => q.k - (intOf iv).toNat)
  case atStart => exact ⟨0, d, jl, je, nx, by omega, rfl, by omega, by rw [mix_zero, mix_zero]; exact HM.out, HJ.out, HB.out⟩
  case round =>
    clear HM HJ HB
    obtain ⟨i, d', jl, je, nx, hi, rfl, hd', HM, HJ, HB⟩ := hrel
    have c0 : wr.cell? ⟨q.rb, 0, none⟩ = some (.slice q.pa q.k q.pc) := HM.out.c 0
    by_cases hlt : i < q.k
    · have hiI : (i : Int) < q.k := by omega
      have hi0 : (0 : Int) ≤ i := by omega
      have c2 : wr.cell? ⟨q.rb, 2, none⟩ = some (.slice q.ia q.k q.ic) := HM.out.c 2
      obtain ⟨b, off, ta, tcap, hpa, qc0, qc1, qc2, hTK, l1, l2, l3⟩ := HPS.out.at hlt
      have pc0 := (HM.out.bel.cell (World.block_lt_of_cell? _ _ qc0)).trans qc0
      have pc1 := (HM.out.bel.cell (World.block_lt_of_cell? _ _ qc1)).trans qc1
      have pc2 := (HM.out.bel.cell (World.block_lt_of_cell? _ _ qc2)).trans qc2
      clear qc0 qc1 qc2
      obtain ⟨gb, go, hia, hbc⟩ := (HIN.out.below HM.out.bel).at hlt
      obtain ⟨P, B, hP, hBu, hp1, hp2, hb1, hb2, hst⟩ := sv_step HT.out (i := i) (by rw [← HKL.out]; exact hlt)
      rw [← HSV.out] at hst
      have HST := Lib.hid hst
      rw [hP] at pc0
      rw [hBu] at pc1
      have HN4 : Hid ((ps.getD i p0).n ≤ 4) := (HT.out.pd.pl _ (at_mem (by rw [← HKL.out]; exact hlt))).ok.n4
      have HJF := Lib.hid (fun jl je nx k c (hJ : JI ps ins t jl je nx) hin hk hc => jb_facts HT.out hJ (i := i) (k := k) (c := c) (by rw [← HKL.out]; exact hlt) hin hk hc)
      obtain ⟨p, hp⟩ : ∃ p, p = ps.getD i p0 := ⟨_, rfl⟩
      rw [← hp] at pc2 hTK l1 l3 HN4 HJF
      obtain ⟨x, hx⟩ : ∃ x, x = ins.getD i false := ⟨_, rfl⟩
      rw [← hx] at hbc HST HJF
      have HTK0 := Lib.hid hTK
      obtain ⟨n, hn⟩ : ∃ n, n = p.n := ⟨_, rfl⟩
      obtain ⟨z, hz⟩ : ∃ z, z = p.z := ⟨_, rfl⟩
      rw [← hn] at pc2 HTK0 HN4 HJF l1 l3
      rw [← hz] at HTK0 HJF
      have HMT := Lib.hid (HM.out.mt P B (.slice ta n tcap))
      have HWB := Lib.hid (below_alloc wr (.cells #[.int .i64 P, .int .i64 B, .slice ta n tcap] 46))
      have k2 : (wr.alloc (.cells #[.int .i64 P, .int .i64 B, .slice ta n tcap] 46)).cell? ⟨q.rb, 2, none⟩ = some (.slice q.ia q.k q.ic) := HMT.out.ms.c 2
      have k3 : (wr.alloc (.cells #[.int .i64 P, .int .i64 B, .slice ta n tcap] 46)).cell? ⟨q.rb, 3, none⟩ = some (.slice (some ⟨q.lb, 0, none⟩) q.k q.k) := HMT.out.ms.c 3
      have k4 : (wr.alloc (.cells #[.int .i64 P, .int .i64 B, .slice ta n tcap] 46)).cell? ⟨q.rb, 4, none⟩ = some (.slice (some ⟨q.eb, 0, none⟩) q.k q.k) := HMT.out.ms.c 4
      have kx := (HWB.out.cell (World.block_lt_of_cell? _ _ hbc)).trans hbc
      obtain ⟨kb0, kb1, kb2⟩ := HMT.out.b
      obtain ⟨kl0, kl1⟩ := HMT.out.ms.l.at hlt
      obtain ⟨ke0, ke1⟩ := HMT.out.ms.e.at hlt
      rw [mix_at] at kl0 ke0
      rw [hpa] at c0
      clear hTK hP hBu hst hp hx hn hz l1 l2 l3 HM HWB hbc c2
      have hpa2 := Lib.hid hpa
      rw [hia] at k2
      clear hpa
      obtain ⟨bp, hbp⟩ : ∃ bp, bp = wr.heap.size := ⟨_, rfl⟩
      rw [← hbp] at HMT kb0 kb1 kb2
      have HBP : Hid (wr.heap.size = bp) := hbp.symm
      clear hbp
      cases x with
      | false =>
        have HR := HST.out.1 (HST.out.2.1 rfl)
        have HMF : Hid (MS W0 (wr.alloc (.cells #[.int .i64 P, .int .i64 B, .slice ta n tcap] 46)) q (mix (i + 1) (s.l1 t) (s.st t).1) (mix (i + 1) (s.e1 t) (s.st t).2) jl je nx d') := by
          rw [mix_same HR.1, mix_same HR.2]
          exact HMT.out.ms
        clear HR HMT
        go_wp2_with fail
        go_roundw
        case rel => exact ⟨i + 1, d', jl, je, nx, by omega, by go_num, by omega, HMF, HJ, HB⟩
        case measure => simp [intOf]; omega
      | true =>
        have hPz : ((P : Int) == 0) = false := by simp; omega
        have hP0 : ¬ P = 0 := by omega
        obtain ⟨r, hr2⟩ : ∃ r : Nat, r = t % P := ⟨_, rfl⟩
        have hmod : (t : Int).tmod (P : Int) = (r : Int) := by rw [Int.tmod_eq_emod_of_nonneg (by omega)]; omega
        have HR2 := Lib.hid hr2
        clear hr2
        go_upto_if 39 with (fail)
        rw [HBP.out]
        clear c0 pc0 pc1 pc2 k2 kx
        generalize wr.alloc (.cells #[.int .i64 P, .int .i64 B, .slice ta n tcap] 46) = WA at *
        go_cut [] from 9 to 186 (fun wc => Hid (MT W0 wc q (mix (i + 1) (s.l1 t) (s.st t).1) (mix (i + 1) (s.e1 t) (s.st t).2) jl je nx d' bp P B (.slice ta n tcap)))
        case first =>
          by_cases hr : r = 0
          · obtain ⟨h1, h2, h3⟩ := HST.out.2.2.2 rfl (by rw [← HR2.out]; exact hr)
            have hrz : ((r : Int) == 0) = true := by simp; omega
            clear hr
            rw [h3, show ((0 : Nat) : Int) = 0 from rfl] at kl0
            have HM1 : Hid (MT W0 (WA.setCell ⟨q.lb, i, none⟩ (.int .i64 (B : Nat))).drew q (mix (i + 1) (s.l1 t) (s.st t).1) (mix i (s.e1 t) (s.st t).2) jl je nx d' bp P B (.slice ta n tcap)) := by
              have := (HMT.out.setL HQ.out hlt B).drew
              rw [← h1, mix_upd] at this
              rw [← h1]
              exact this
            obtain ⟨E, hE⟩ : ∃ E : Nat, (t : Int) + (P : Int) = (E : Int) := ⟨t + P, by push_cast; rfl⟩
            obtain ⟨we1, we2⟩ := wr_sum hE (by omega)
            have HM2 : Hid (MT W0 ((WA.setCell ⟨q.lb, i, none⟩ (.int .i64 (B : Nat))).drew.setCell ⟨q.eb, i, none⟩ (.int .i64 (E : Nat))).drew q (mix (i + 1) (s.l1 t) (s.st t).1) (mix (i + 1) (s.e1 t) (s.st t).2) jl je nx d' bp P B (.slice ta n tcap)) := by
              have := (HM1.out.setE HQ.out hlt E).drew
              rw [show E = s.e1 t i by omega, mix_upd] at this
              rw [show E = s.e1 t i by omega]
              exact this
            have f0 : WA.drew.cell? ⟨q.rb, 3, none⟩ = some (.slice (some ⟨q.lb, 0, none⟩) q.k q.k) := k3
            have f1 : WA.drew.cell? ⟨bp, 1, none⟩ = some (.int .i64 (B : Nat)) := kb1
            have f2 : WA.drew.cell? ⟨q.lb, i, none⟩ = some (.int .i64 0) := kl0
            have f3 : WA.drew.frozen? ⟨q.lb, i, none⟩ = false := kl1
            clear h1 h2 h3 hE k4 ke0 ke1 kb2
            go_wp2_with fail
            clear k3 kb0 kb1 kl0 kl1
            refine wp_region_still_tail 8 mixed (by kernel_rfl) ?_
            simp only [List.take_succ_cons, List.take_zero, List.drop_succ_cons, List.drop_zero]
            change wpStill _ _ WA.drew _ _ _
            repeat still_step
            refine wpStill_nil ?_
            clear f0 f1
            go_wp2_with fail
            clear f2 f3
            have HM1w := HM1
            generalize (WA.setCell ⟨q.lb, i, none⟩ (.int .i64 (B : Nat))).drew = WB at *
            have f0 : WB.drew.cell? ⟨q.rb, 4, none⟩ = some (.slice (some ⟨q.eb, 0, none⟩) q.k q.k) := HM1w.out.ms.c 4
            have f1 : WB.drew.cell? ⟨bp, 0, none⟩ = some (.int .i64 (P : Nat)) := HM1w.out.b.1
            obtain ⟨g0, g1⟩ := HM1w.out.ms.e.at hlt
            have f2 : WB.drew.cell? ⟨q.eb, i, none⟩ = some _ := g0
            have f3 : WB.drew.frozen? ⟨q.eb, i, none⟩ = false := g1
            clear g0 g1
            refine wp_region_still_tail 10 mixed (by kernel_rfl) ?_
            simp only [List.take_succ_cons, List.take_zero, List.drop_succ_cons, List.drop_zero]
            change wpStill _ _ WB.drew _ _ _
            repeat still_step
            refine wpStill_nil ?_
            clear f0 f1
            go_wp2_with fail
            go_meet
            exact HM2
          · have hrz : ((r : Int) == 0) = false := by simp; omega
            have HR := HST.out.1 (HST.out.2.2.1 (by rw [← HR2.out]; exact hr))
            have HMF : Hid (MT W0 WA q (mix (i + 1) (s.l1 t) (s.st t).1) (mix (i + 1) (s.e1 t) (s.st t).2) jl je nx d' bp P B (.slice ta n tcap)) := by
              rw [mix_same HR.1, mix_same HR.2]
              exact HMT.out
            clear HR
            go_wp2_with fail
            go_meet
            exact HMF
        case rest =>
          have HMC := hcut
          have HJC := HJ; have HBC := HB
          clear hcut HMT HJ HB k3 k4 kb0 kb1 kb2 kl0 kl1 ke0 ke1 hmod hPz hP0 HR2 HBP HST
          obtain ⟨wo, rfl⟩ : ∃ wo, wo = wr := ⟨_, rfl⟩
          go_wp2_with fail
          go_loopw [7] (fun kv wr => ∃ (k d2 : Nat) (jl je nx : Nat → Nat), k ≤ n ∧ kv = .int .i64 (k : Nat) ∧ d2 ≤ d + 4 * i + k ∧ Hid (MT W0 wr q (mix (i + 1) (s.l1 t) (s.st t).1) (mix (i + 1) (s.e1 t) (s.st t).2) jl je nx d2 bp P B (.slice ta n tcap)) ∧ Hid (JI ps ins t jl je nx) ∧ Hid (BD q.k jl je nx)) (fun kv _ => n - (intOf kv).toNat)
          case atStart => exact ⟨0, d', jl, je, nx, by omega, rfl, by omega, HMC.out, HJC.out, HBC.out⟩
          case round =>
            clear HMC HJC HBC hd'
            obtain ⟨k, d2, jl, je, nx, hk, rfl, hd2, HMC, HJC, HBC⟩ := hrel
            obtain ⟨_, _, kb2⟩ := HMC.out.b
            by_cases hlk : k < n
            · have hkI : (k : Int) < n := by omega
              have hk0 : (0 : Int) ≤ k := by omega
              have hn4 := HN4.out
              obtain ⟨c, hc⟩ : ∃ c : Nat, (4 : Int) * (i : Int) + (k : Int) = (c : Int) := ⟨4 * i + k, by push_cast; rfl⟩
              have HC : Hid (c = 4 * i + k) := by unfold Hid; omega
              have hck : c < 4 * q.k := by omega
              have hcI : (c : Int) < 4 * q.k := by omega
              have hcI2 : (c : Int) < ((4 * q.k : Nat) : Int) := by omega
              have hc0 : (0 : Int) ≤ c := by omega
              have HF := Lib.hid (HJF.out jl je nx k c HJC.out (by first | rfl | trivial) hlk HC.out)
              have c5 : wr.cell? ⟨q.rb, 5, none⟩ = some (.slice (some ⟨q.jb, 0, none⟩) (4 * q.k) (4 * q.k)) := HMC.out.ms.c 5
              have c6 : wr.cell? ⟨q.rb, 6, none⟩ = some (.slice (some ⟨q.nb, 0, none⟩) (4 * q.k) (4 * q.k)) := HMC.out.ms.c 6
              obtain ⟨j0, j1, g0, g1⟩ := HMC.out.ms.j.at hck
              obtain ⟨m0, m1⟩ := HMC.out.ms.n.at hck
              obtain ⟨hbl, hbe, hbx⟩ := HBC.out c hck
              obtain ⟨li, hli⟩ : ∃ li, li = jl c := ⟨_, rfl⟩
              obtain ⟨ei, hei⟩ : ∃ ei, ei = je c := ⟨_, rfl⟩
              obtain ⟨xi, hxi⟩ : ∃ xi, xi = nx c := ⟨_, rfl⟩
              rw [← hli] at j1 hbl HF
              rw [← hei] at j0 hbe HF
              rw [← hxi] at m0 hbx HF
              clear hli hei hxi
              go_upto_region 15 with (fail)
              go_cut [97] from 77 to 97 (fun bv wc => bv = .bool false ∧ Hid (wc = wr))
              case first =>
                by_cases hlp : 0 < li
                · have hle := HF.out.1 hlp
                  have g0' : decide ((0 : Int) < li) = true := by simp; omega
                  have g0'' : decide (0 < li) = true := by simp; omega
                  have g1' : decide ((ei : Int) ≤ t) = false := by simp; omega
                  have g1'' : decide (ei ≤ t) = false := by simp; omega
                  clear hle hlp
                  go_wp2_with fail
                  go_meet
                  exact ⟨rfl, rfl⟩
                · have g0' : decide ((0 : Int) < li) = false := by simp; omega
                  have g0'' : decide (0 < li) = false := by simp; omega
                  clear hlp
                  go_wp2_with fail
                  go_meet
                  exact ⟨rfl, rfl⟩
              case rest =>
                obtain ⟨rfl, hwc⟩ := hcut
                obtain rfl := hwc.out
                clear hwc
                by_cases hxt : xi ≤ t
                · have hx1 : decide ((xi : Int) ≤ t) = true := by simp; omega
                  have hx2 : decide (xi ≤ t) = true := by simp; omega
                  obtain ⟨E, L, X1, hE, hL, hX, hE6, hL6, hX6, hRL⟩ := HF.out.2 hxt
                  obtain ⟨we1, we2⟩ := wr_sum hE (by omega)
                  obtain ⟨wx1, wx2⟩ := wr_sum hX (by omega)
                  have HRL := Lib.hid hRL
                  have HTA := Lib.hid (fun W (b : Below W0.heap.size W0 W) => (HTK0.out.below b).at hlk)
                  obtain ⟨b3, off3, hta, tc⟩ := HTA.out _ HMC.out.ms.bel
                  subst hta
                  have tc1 := tc.c1; have tc2 := tc.c2
                  rw [hL] at tc2
                  have HE6 := Lib.hid hE6; have HL6 := Lib.hid hL6; have HX6 := Lib.hid hX6
                  clear HF hxt hRL tc hL hE hX hE6 hL6 hX6
                  have HM2 : Hid (MT W0 ((wc.setCell ⟨q.jb, c * 2, none⟩ (.int .i64 (E : Nat))).setCell ⟨q.jb, c * 2 + 1, none⟩ (.int .i64 (L : Nat))).drew q (mix (i + 1) (s.l1 t) (s.st t).1) (mix (i + 1) (s.e1 t) (s.st t).2) (upd jl c L) (upd je c E) nx d2 bp P B (.slice (some ⟨b3, off3, none⟩) n tcap)) := (HMC.out.setJ HQ.out hck E L).drew
                  obtain ⟨s4, s5⟩ := HMC.out.ms.j.mid hck (.int .i64 (E : Nat))
                  have f0 : wc.drew.cell? ⟨q.rb, 5, none⟩ = some (.slice (some ⟨q.jb, 0, none⟩) (4 * q.k) (4 * q.k)) := c5
                  have f2 : wc.drew.cell? ⟨bp, 2, none⟩ = some (.slice (some ⟨b3, off3, none⟩) n tcap) := kb2
                  obtain ⟨z1, hz1⟩ : ∃ z1, z1 = z k 1 := ⟨_, rfl⟩
                  rw [← hz1] at we1 we2 tc1
                  have f3 : wc.drew.cell? ⟨b3, off3 + k * 8 + 1, none⟩ = some (.int .i64 z1) := tc1
                  have f4 : wc.drew.cell? ⟨b3, off3 + k * 8 + 2, none⟩ = some (.int .i64 (L : Nat)) := tc2
                  have s0 : wc.drew.cell? ⟨q.jb, c * 2, none⟩ = some (.int .i64 (ei : Nat)) := j0
                  have s1 : wc.drew.cell? ⟨q.jb, c * 2 + 1, none⟩ = some (.int .i64 (li : Nat)) := j1
                  have s2 : wc.drew.frozen? ⟨q.jb, c * 2, none⟩ = false := g0
                  have s3 : wc.drew.frozen? ⟨q.jb, c * 2 + 1, none⟩ = false := g1
                  have s6 : (wc.setCell ⟨q.jb, c * 2, none⟩ (.int .i64 (E : Nat))).drew.cell? ⟨q.jb, c * 2 + 1, none⟩ = _ := s4
                  have s7 : (wc.setCell ⟨q.jb, c * 2, none⟩ (.int .i64 (E : Nat))).drew.frozen? ⟨q.jb, c * 2 + 1, none⟩ = false := s5
                  clear hz1 s4 s5
                  go_wp2_with fail
                  clear c5 c6 m0 m1 j0 j1 g0 g1 kb2 tc1 tc2
                  refine wp_region_still_tail 21 mixed (by kernel_rfl) ?_
                  simp only [List.take_succ_cons, List.take_zero, List.drop_succ_cons, List.drop_zero]
                  change wpStill _ _ wc.drew _ _ _
                  repeat still_step
                  refine wpStill_nil ?_
                  clear f0 f2 f3 f4
                  go_wp2_with fail
                  clear s0 s1 s2 s3 s6 s7 hx1 hx2
                  generalize ((wc.setCell ⟨q.jb, c * 2, none⟩ (.int .i64 (E : Nat))).setCell ⟨q.jb, c * 2 + 1, none⟩ (.int .i64 (L : Nat))).drew = WB at *
                  have HTB := HTA.out _ HM2.out.ms.bel
                  obtain ⟨b4, off4, hbb, tc⟩ := HTB
                  obtain ⟨rfl, rfl⟩ : b3 = b4 ∧ off3 = off4 := by simpa using hbb
                  have tc0 := tc.c0
                  obtain ⟨z0, hz0⟩ : ∃ z0, z0 = z k 0 := ⟨_, rfl⟩
                  rw [← hz0] at wx1 wx2 tc0
                  have f0 : WB.drew.cell? ⟨q.rb, 6, none⟩ = some (.slice (some ⟨q.nb, 0, none⟩) (4 * q.k) (4 * q.k)) := HM2.out.ms.c 6
                  have f2 : WB.drew.cell? ⟨bp, 2, none⟩ = some (.slice (some ⟨b3, off3, none⟩) n tcap) := HM2.out.b.2.2
                  have f3 : WB.drew.cell? ⟨b3, off3 + k * 8, none⟩ = some (.int .i64 z0) := tc0
                  obtain ⟨n0, n1⟩ := HM2.out.ms.n.at hck
                  have s0 : WB.drew.cell? ⟨q.nb, c, none⟩ = some _ := n0
                  have s1 : WB.drew.frozen? ⟨q.nb, c, none⟩ = false := n1
                  have HM3 : Hid (MT W0 (WB.setCell ⟨q.nb, c, none⟩ (.int .i64 (X1 : Nat))).drew q (mix (i + 1) (s.l1 t) (s.st t).1) (mix (i + 1) (s.e1 t) (s.st t).2) (upd jl c L) (upd je c E) (upd nx c X1) d2 bp P B (.slice (some ⟨b3, off3, none⟩) n tcap)) := (HM2.out.setN HQ.out hck X1).drew
                  clear hbb tc tc0 n0 n1 hz0 HM2 we1 we2
                  refine wp_region_still_tail 14 mixed (by kernel_rfl) ?_
                  simp only [List.take_succ_cons, List.take_zero, List.drop_succ_cons, List.drop_zero]
                  change wpStill _ _ WB.drew _ _ _
                  repeat still_step
                  refine wpStill_nil ?_
                  clear f0 f2 f3
                  have u8 : (WB.setCell ⟨q.nb, c, none⟩ (.int .i64 (X1 : Nat))).drew.cell? ⟨q.rb, 8, none⟩ = some (.slice q.la q.nl q.lc) := HM3.out.ms.c 8
                  by_cases hl2 : 0 < q.nl
                  · have hl0 : decide ((0 : Int) < q.nl) = true := by simp; omega
                    have hl0' : decide (0 < q.nl) = true := by simp; omega
                    have hnz : ((q.nl : Int) == 0) = false := by simp; omega
                    have hnz2 : ¬ q.nl = 0 := by omega
                    obtain ⟨dm, hdm⟩ : ∃ dm, dm = d2 % q.nl := ⟨_, rfl⟩
                    have hmod : (d2 : Int).tmod (q.nl : Int) = (dm : Int) := by rw [Int.tmod_eq_emod_of_nonneg (by omega), hdm]; rfl
                    have hm : dm < q.nl := by rw [hdm]; exact Nat.mod_lt d2 hl2
                    have hmx2 := HNL.out
                    clear hdm
                    go_wp2_with fail
                    generalize (WB.setCell ⟨q.nb, c, none⟩ (.int .i64 (X1 : Nat))).drew = WC at *
                    obtain ⟨b5, off5, hla5, cl⟩ := (HLA.out.below HM3.out.ms.bel).at hm
                    obtain ⟨zl, hzl⟩ : ∃ zl, zl = ls.getD dm 0 := ⟨_, rfl⟩
                    rw [← hzl] at cl
                    have HBr := Lib.hid (fun w => bring_q zl 20 w (by decide) (by decide))
                    have hr20 := bn_lt zl (n := 20) (by decide)
                    generalize bn zl 20 = r5 at *
                    obtain ⟨X2, hX2⟩ : ∃ X2 : Nat, ((X1 : Nat) : Int) + (r5 : Nat) = (X2 : Int) := ⟨X1 + r5, by push_cast; rfl⟩
                    have HX3 : Hid (X1 ≤ X2 ∧ X2 ≤ 1000) := by have := HX6.out; unfold Hid; omega
                    obtain ⟨wy1, wy2⟩ := wr_sum hX2 (by have := HX3.out; omega)
                    have hdm0 : (0 : Int) ≤ dm := by omega
                    have hdm1 : (dm : Int) < q.nl := by omega
                    obtain ⟨n0, n1⟩ := HM3.out.ms.n.at hck
                    rw [upd_at] at n0
                    have HM4 : Hid (MT W0 (WC.setCell ⟨q.nb, c, none⟩ (.int .i64 (X2 : Nat))).drew q (mix (i + 1) (s.l1 t) (s.st t).1) (mix (i + 1) (s.e1 t) (s.st t).2) (upd jl c L) (upd je c E) (upd nx c X2) d2 bp P B (.slice (some ⟨b3, off3, none⟩) n tcap)) := by
                      have := (HM3.out.setN HQ.out hck X2).drew
                      rw [upd_upd] at this
                      exact this
                    have p0 : WC.drew.cell? ⟨q.nb, c, none⟩ = some (.int .i64 (X1 : Nat)) := n0
                    have p1 : WC.drew.frozen? ⟨q.nb, c, none⟩ = false := n1
                    have p2 : WC.drew.cell? ⟨b5, off5 + dm, none⟩ = some (.int .i64 zl) := cl
                    have p3 : WC.drew.cell? ⟨q.rb, 6, none⟩ = some (.slice (some ⟨q.nb, 0, none⟩) (4 * q.k) (4 * q.k)) := HM3.out.ms.c 6
                    have p4 : WC.drew.cell? ⟨q.rb, 8, none⟩ = some (.slice (some ⟨b5, off5, none⟩) q.nl q.lc) := by
                      have := HM3.out.ms.c 8
                      change _ = some (Value.slice q.la q.nl q.lc) at this
                      rw [hla5] at this
                      exact this
                    have p5 : WC.drew.cell? ⟨q.rb, 7, none⟩ = some (.int .i64 (d2 : Nat)) := HM3.out.ms.c 7
                    have HJ5 : Hid (JI ps ins t (upd jl c L) (upd je c E) (upd nx c X2)) := HRL.out X2 HX3.out.1
                    have HB5 : Hid (BD q.k (upd jl c L) (upd je c E) (upd nx c X2)) := HBC.out.more c HL6.out (by have := HE6.out; omega) HX3.out.2
                    have HM5 := Lib.hid (HM4.out.setD HQ.out (d2 + 1))
                    have v0 : (WC.setCell ⟨q.nb, c, none⟩ (.int .i64 (X2 : Nat))).drew.cell? ⟨q.rb, 7, none⟩ = some (.int .i64 (d2 : Nat)) := HM4.out.ms.c 7
                    have v1 : (WC.setCell ⟨q.nb, c, none⟩ (.int .i64 (X2 : Nat))).drew.frozen? ⟨q.rb, 7, none⟩ = false := HM4.out.ms.f 7
                    clear n0 n1 cl u8 s0 s1 hla5 hzl hX2 hr20 HM3 HM4 wx1 wx2
                    refine wp_region_still_tail 31 mixed (by kernel_rfl) ?_
                    simp only [List.take_succ_cons, List.take_zero, List.drop_succ_cons, List.drop_zero]
                    change wpStill _ _ WC.drew _ _ _
                    repeat still_step
                    still_call (HBr.out _)
                    repeat still_step
                    refine wpStill_nil ?_
                    clear p2 p3 p4 p5
                    go_wp2_with fail
                    go_roundw
                    case rel => exact ⟨k + 1, d2 + 1, _, _, _, by omega, by go_num, by omega, HM5, HJ5, HB5⟩
                    case measure => simp [intOf]; omega
                  · have hl0 : decide ((0 : Int) < q.nl) = false := by simp; omega
                    have hl0' : decide (0 < q.nl) = false := by simp; omega
                    have HJ5 : Hid (JI ps ins t (upd jl c L) (upd je c E) (upd nx c X1)) := HRL.out X1 (Nat.le_refl _)
                    have HB5 : Hid (BD q.k (upd jl c L) (upd je c E) (upd nx c X1)) := HBC.out.more c HL6.out (by have := HE6.out; omega) (by have := HX6.out; omega)
                    have HM5 := Lib.hid (HM3.out.setD HQ.out (d2 + 1))
                    have v0 : (WB.setCell ⟨q.nb, c, none⟩ (.int .i64 (X1 : Nat))).drew.cell? ⟨q.rb, 7, none⟩ = some (.int .i64 (d2 : Nat)) := HM3.out.ms.c 7
                    have v1 : (WB.setCell ⟨q.nb, c, none⟩ (.int .i64 (X1 : Nat))).drew.frozen? ⟨q.rb, 7, none⟩ = false := HM3.out.ms.f 7
                    clear HM3
                    go_wp2_with fail
                    go_roundw
                    case rel => exact ⟨k + 1, d2 + 1, _, _, _, by omega, by go_num, by omega, HM5, HJ5, HB5⟩
                    case measure => simp [intOf]; omega
                · have hx1 : decide ((xi : Int) ≤ t) = false := by simp; omega
                  have hx2 : decide (xi ≤ t) = false := by simp; omega
                  clear HF hxt
                  go_wp2_with fail
                  go_roundw
                  case rel => exact ⟨k + 1, d2, jl, je, nx, by omega, by go_num, by omega, HMC, HJC, HBC⟩
                  case measure => simp [intOf]; omega
            · obtain rfl : k = n := by omega
              have HMF := Lib.hid HMC.out.ms
              have hn4 := HN4.out
              clear HMC
              go_wp2_with fail
              go_roundw
              case rel => exact ⟨i + 1, d2, jl, je, nx, by omega, by go_num, by omega, HMF, HJC, HBC⟩
              case measure => simp [intOf]; omega
    · obtain rfl : i = q.k := by omega
      have HF : Hid (BgP W0 q ps ins t d (.returned (.bool true)) wr) := by
        refine ⟨rfl, jl, je, nx, d', ?_, HJ.out, HB.out, hd'⟩
        rw [← HSV.out]
        have := HM.out
        rw [mix_end (fun y hy => by rw [HSV.out]; exact (l1_out _ t (by rw [show (svOf ps ins).k = ps.length from rfl, ← HKL.out]; exact hy)).1), mix_end (fun y hy => by rw [HSV.out]; exact (l1_out _ t (by rw [show (svOf ps ins).k = ps.length from rfl, ← HKL.out]; exact hy)).2)] at this
        exact this
      clear HM HJ HB
      go_wp2_with fail
      go_ret
      exact HF.out
end Go.Proofs.YtbdiekolkniajaaGreat
