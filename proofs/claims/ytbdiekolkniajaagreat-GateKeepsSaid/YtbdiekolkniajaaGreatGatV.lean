/- GateKeeps. -/
import Derived.Test.YtbdiekolkniajaaGreatGatU
import Derived.Deep.RegionHeld3
import Derived.Deep.CutRange
namespace Go.Proofs.YtbdiekolkniajaaGreat
open Go.RowKit Tk De Dl Lo Su Sh Gt
set_option linter.unusedVariables false

/-- a configuration's box, and all that was there -/
def SC (W w : World) (b : Nat) (pv : Value) : Prop := w.cell? ⟨b, 0, none⟩ = some pv ∧ w.cell? ⟨b, 1, none⟩ = some (.slice none 0 0) ∧ Below W.heap.size W w
theorem SC.drew {W w : World} {b : Nat} {pv : Value} (h : SC W w b pv) : SC W w.drew b pv := ⟨h.1, h.2.1, h.2.2.drew⟩
theorem SC.below {W w w' : World} {b : Nat} {pv : Value} (h : SC W w b pv) (q : Below w.heap.size w w') : SC W w' b pv :=
  ⟨(q.cell (World.block_lt_of_cell? _ _ h.1)).trans h.1, (q.cell (World.block_lt_of_cell? _ _ h.2.1)).trans h.2.1, chn h.2.2 q⟩
theorem CB.sc {W : World} {b : Nat} {pv : Value} (h : CB W b pv) : SC W W b pv := ⟨cell_of_row _ _ 0 _ _ _ h, cell_of_row _ _ 1 _ _ _ h, Below.refl _ _⟩
theorem who_S {w W : World} {b : Nat} {pv pw : Value} {ps : List Pn} (hp : PS W pw ps) (hl : ps.length ≤ 4) {N : Nat} (hN : N < 16) (h : SC W w b pv) : Calls Tryz.prog 6 #[.agg #[pw, .slice none 0 0], .int .i64 N] w (fun e w' => ∃ u, e = .returned u ∧ BV w' u (whoL N ps.length) ∧ SC W w' b pv) :=
  (who_any (hp.below h.2.2) hl N hN).mono fun e w' ⟨u, he, ho, hb⟩ => ⟨u, he, ho.bv, h.below hb⟩
theorem bring_S {w W : World} {b : Nat} {pv : Value} (a : Int) (h : SC W w b pv) : Calls Tryz.prog 7 #[.int .i64 a, .int .i64 16] w (fun e w' => e = .returned (.int .i64 (bn a 16 : Nat)) ∧ SC W w' b pv) :=
  (bring_bn a 16 w (by decide) (by decide)).mono fun e w' ⟨he, hw⟩ => ⟨he, hw ▸ h⟩
/-! rows that are made -/
theorem ns_new {W : World} {b K : Nat} (h : b = W.heap.size) : NS (W.alloc (.cells (madeCells #[.int .i64 0] K) 3)) b K (fun _ => 0) := by
  subst h
  exact ns_made (heap_alloc_new W _)
theorem js_new {W : World} {b K : Nat} (h : b = W.heap.size) : JS (W.alloc (.cells (madeCells #[.int .i64 0, .int .i64 0] (K * 2)) 53)) b K (fun _ => 0) (fun _ => 0) := by
  subst h
  refine ⟨_, heap_alloc_new W _, by simp [madeCells], fun i hi => ?_⟩
  unfold madeCells
  simp only [Array.getElem?_map]
  rw [Array.getElem?_eq_getElem (by simp; omega), Array.getElem?_eq_getElem (by simp; omega)]
  constructor
  · simp
  · simp [show (i * 2 + 1) % 2 = 1 by omega]
theorem ns_al {W : World} {g n : Nat} {x : Nat → Nat} (h : NS W g n x) (o : Obj) : NS (W.alloc o) g n x := h.below (below_alloc W o)
theorem js_al {W : World} {g n : Nat} {e l : Nat → Nat} (h : JS W g n e l) (o : Obj) : JS (W.alloc o) g n e l := h.below (below_alloc W o)
theorem infoJb : (Tryz.prog.info? 53).map (fun i => (i.zero, i.size, i.bytes)) = some (some (.agg #[.int .i64 0, .int .i64 0]), 2, 16) := by kernel_rfl
theorem make_jb (n : Nat) (hn : n ≤ 100) (w : World) : (Instr.makeSlice 36 (.int .i64 (n : Int)) (.int .i64 (n : Int))).run Tryz.prog w = .ok (.slice (some ⟨w.heap.size, 0, none⟩) n n) (w.alloc (.cells (madeCells #[.int .i64 0, .int .i64 0] (n * 2)) 53)) := by
  obtain ⟨i, hi, hz0, hz1, hz2⟩ := info_parts infoJb
  have hr := run_make (P := Tryz.prog) w 36 53 i _ Tryz.underlying36 hi hz0 .i64 .i64 n n (by omega) (Int.le_refl _) (by rw [hz2]; omega) (by omega)
  simp only [Int.toNat_natCast, hz1] at hr
  exact hr
theorem infoIn2 : (Tryz.prog.info? 3).map (fun i => (i.zero, i.size, i.bytes)) = some (some (.int .i64 0), 1, 8) := by kernel_rfl
theorem make_in (n : Nat) (hn : n ≤ 100) (w : World) : (Instr.makeSlice 23 (.int .i64 (n : Int)) (.int .i64 (n : Int))).run Tryz.prog w = .ok (.slice (some ⟨w.heap.size, 0, none⟩) n n) (w.alloc (.cells (madeCells #[.int .i64 0] n) 3)) :=
  run_make_row' (P := Tryz.prog) 23 3 (.int .i64 0) 8 Tryz.underlying23 infoIn2 rfl .i64 .i64 n (by omega) (by omega) w
theorem cell_al {w : World} {p : Addr} {v : Value} (h : w.cell? p = some v) (o : Obj) : (w.alloc o).cell? p = some v := ((below_alloc w o).cell (World.block_lt_of_cell? _ _ h)).trans h
theorem cell_ald {w : World} {p : Addr} {v : Value} (h : w.cell? p = some v) (o : Obj) : (w.alloc o).drew.cell? p = some v := cell_al h o
/-- the machine, as it is made -/
theorem ms_made {W0 X : World} {k lb eb jb nb : Nat} {pa ia la : Option Addr} {pc ic nl lc : Nat} (bel : Below W0.heap.size W0 X) (hk : k ≤ 4) (hl : NS X lb k (fun _ => 0)) (he : NS X eb k (fun _ => 0)) (hj : JS X jb (4 * k) (fun _ => 0) (fun _ => 0)) (hn : NS X nb (4 * k) (fun _ => 0))
    (ge : W0.heap.size ≤ lb ∧ W0.heap.size ≤ eb ∧ W0.heap.size ≤ jb ∧ W0.heap.size ≤ nb) (ne : lb ≠ eb ∧ lb ≠ jb ∧ lb ≠ nb ∧ eb ≠ jb ∧ eb ≠ nb ∧ jb ≠ nb) :
    ∃ q : Bk, q.Ok W0.heap.size ∧ q.rb = X.heap.size ∧ q.k = k ∧ q.pa = pa ∧ q.pc = pc ∧ q.ia = ia ∧ q.ic = ic ∧ q.la = la ∧ q.nl = nl ∧ q.lc = lc ∧
      MS W0 (X.alloc (.cells #[.slice pa k pc, .slice none 0 0, .slice ia k ic, .slice (some ⟨lb, 0, none⟩) k k, .slice (some ⟨eb, 0, none⟩) k k, .slice (some ⟨jb, 0, none⟩) (4 * k) (4 * k), .slice (some ⟨nb, 0, none⟩) (4 * k) (4 * k), .int .i64 0, .slice la nl lc] 38)) q (fun _ => 0) (fun _ => 0) (fun _ => 0) (fun _ => 0) (fun _ => 0) 0 := by
  have h1 := hl.lt; have h2 := he.lt; have h3 := hj.lt; have h4 := hn.lt
  obtain ⟨g1, g2, g3, g4⟩ := ge
  obtain ⟨n1, n2, n3, n4, n5, n6⟩ := ne
  refine ⟨⟨X.heap.size, lb, eb, jb, nb, k, pa, ia, la, pc, ic, nl, lc⟩, ⟨⟨bel.size, g1, g2, g3, g4⟩, ⟨?_, ?_, ?_, ?_, n1, n2, n3, n4, n5, n6⟩, hk⟩, rfl, rfl, rfl, rfl, rfl, rfl, rfl, rfl, rfl, ?_⟩
  · show X.heap.size ≠ lb; omega
  · show X.heap.size ≠ eb; omega
  · show X.heap.size ≠ jb; omega
  · show X.heap.size ≠ nb; omega
  · exact ⟨chn bel (below_alloc X _), heap_alloc_new X _, ns_al hl _, ns_al he _, js_al hj _, ns_al hn _⟩
theorem ms_leaf {W0 X : World} {k lb eb jb nb rb : Nat} {pa ia la : Option Addr} {pc ic nl lc : Nat} (bel : Below W0.heap.size W0 X) (hk : k ≤ 4) (hrb : rb = X.heap.size) (hl : NS X lb k (fun _ => 0)) (he : NS X eb k (fun _ => 0)) (hj : JS X jb (4 * k) (fun _ => 0) (fun _ => 0)) (hn : NS X nb (4 * k) (fun _ => 0))
    (ge : W0.heap.size ≤ lb ∧ W0.heap.size ≤ eb ∧ W0.heap.size ≤ jb ∧ W0.heap.size ≤ nb) (ne : lb ≠ eb ∧ lb ≠ jb ∧ lb ≠ nb ∧ eb ≠ jb ∧ eb ≠ nb ∧ jb ≠ nb) :
    ∃ q : Bk, Value.pointer (some ⟨rb, 0, none⟩) = .pointer (some ⟨q.rb, 0, none⟩) ∧ Hid (q.Ok W0.heap.size ∧ q.k = k ∧ q.pa = pa ∧ q.pc = pc ∧ q.ia = ia ∧ q.ic = ic ∧ q.la = la ∧ q.nl = nl ∧ q.lc = lc ∧
      MS W0 (X.alloc (.cells #[.slice pa k pc, .slice none 0 0, .slice ia k ic, .slice (some ⟨lb, 0, none⟩) k k, .slice (some ⟨eb, 0, none⟩) k k, .slice (some ⟨jb, 0, none⟩) (4 * k) (4 * k), .slice (some ⟨nb, 0, none⟩) (4 * k) (4 * k), .int .i64 0, .slice la nl lc] 38)).drew q (fun _ => 0) (fun _ => 0) (fun _ => 0) (fun _ => 0) (fun _ => 0) 0) := by
  obtain ⟨q, h1, h2, h3, h4, h5, h6, h7, h8, h9, h10, h11⟩ := ms_made (pa := pa) (pc := pc) (ia := ia) (ic := ic) (la := la) (nl := nl) (lc := lc) bel hk hl he hj hn ge ne
  exact ⟨q, by rw [hrb, h2], h1, h3, h4, h5, h6, h7, h8, h9, h10, h11.drew⟩
/-- a tick -/
theorem tick_step {W0 w' : World} {q : Bk} {ps : List Pn} {ins : List Bool} {t : Nat} (hT : TkS ps ins t) (hk : q.k = ps.length) {jl je nx : Nat → Nat} {d : Nat} {x : Ending} (hJ : JI ps ins t jl je nx) (hB : BD q.k jl je nx)
    (h : GoP W0 q ((svOf ps ins).l1 t) ((svOf ps ins).e1 t) jl je nx d x w') : x = .returned (.tuple #[]) ∧ ∃ jl', MS W0 w' q ((svOf ps ins).st (t + 1)).1 ((svOf ps ins).st (t + 1)).2 jl' je nx d ∧ JI ps ins (t + 1) jl' je nx ∧ BD q.k jl' je nx := by
  have hok := sv_ok hT.pd.pl hT.pd.w
  have ht := hT.t5
  obtain ⟨he, jl', hm, hc⟩ := h
  refine ⟨he, jl', ?_, ?_⟩
  · have e1 : ((svOf ps ins).st (t + 1)).1 = runL ((svOf ps ins).l1 t) ((svOf ps ins).e1 t) (svOf ps ins).k := rfl
    have e2 : ((svOf ps ins).st (t + 1)).2 = (svOf ps ins).e1 t := rfl
    rw [e1, e2, show (svOf ps ins).k = ps.length from rfl, ← hk]
    exact hm
  · rw [hk] at hc
    rcases hc with ⟨h1, rfl⟩ | ⟨m, h1, h2, h3, ⟨h4, rfl⟩ | ⟨a, h4, h5, h6, rfl⟩⟩
    · exact ⟨ji_idle hJ h1, hB⟩
    · exact ⟨ji_none hT.pd hJ h1 h4, hB⟩
    · have hin : ins.getD m false = true := l1_in hok (t := t) (i := m) (by omega) (by show m < ps.length; omega) h3
      refine ⟨ji_run hT.pd hJ (by omega) hin h1 h4 h5 h6, hB.less _ ?_⟩
      have := (hB (4 * m + a) (by omega)).1
      omega
theorem passed_of {ps : List Pn} {ins : List Bool} (h : ∀ x ∈ ps, Plain x) (h0 : 0 < ps.length) (hl : ps.length ≤ 4) (hi : ins.length = ps.length) (hp : (gtR ps ins).2.2 = 0) : Passed ps ins := by
  obtain ⟨h1, h2⟩ := (gt_ok h h0 hl hi).1 hp
  exact ⟨h, hl, h1, h2⟩
theorem test_S {w W : World} {b : Nat} {pv pw u : Value} {ps : List Pn} {ins : List Bool} {r : Int × Int × Int} (hp : PS W pw ps) (hr : gtR ps ins = r) (hu : BV w u ins) (h : SC W w b pv) : Calls Tryz.prog 8 #[.agg #[pw, .slice none 0 0], u] w (fun e w' => e = .returned (.tuple #[.int .i64 r.1, .int .i64 r.2.1, .int .i64 r.2.2]) ∧ BV w' u ins ∧ SC W w' b pv) := by
  subst hr
  exact (GTest_any ⟨pw, rfl, hp.below h.2.2⟩ hu).mono fun e w' ⟨he, hb⟩ => ⟨he, hu.below hb, h.below hb⟩
set_option maxRecDepth 100000 in
set_option maxHeartbeats 16000000 in
theorem keeps_law {w : World} {v v2 : Value} {ps : List Pn} {ls : List Int} (h : PS w v ps) (n : Int) (h2 : IS w v2 ls) : Calls Tryz.prog 3 #[v, .int .i64 n, v2] w (TrueB w) := by
  have mixed : Tryz.prog.follows .mixedOrders = true := by kernel_rfl
  have HM : Hid (∀ w', Below w.heap.size w w' → Calls Tryz.prog 5 #[v] w' (fun e w'' => ∃ pv, e = .returned (.agg #[pv, .slice none 0 0]) ∧ PW w'' w'.heap.size pv (ml ps 4) ∧ Below w'.heap.size w' w'')) := fun w' q => made_any (h.below q)
  obtain ⟨va, vc, rfl, _, _⟩ := h2.slice
  obtain ⟨nl, hnl⟩ : ∃ nl, nl = ls.length := ⟨_, rfl⟩
  rw [← hnl] at h2 ⊢
  have HLS := Lib.hid h2
  have HPL := Lib.hid (ml_plain ps)
  have HWK := Lib.hid works_any
  have hN := bn_lt n (n := 16) (by decide)
  clear h h2 hnl
  generalize ml ps 4 = l at *
  obtain ⟨N, hNN⟩ : ∃ N, N = bn n 16 := ⟨_, rfl⟩
  rw [← hNN] at hN
  have HNN := Lib.hid hNN
  have HN := Lib.hid hN
  clear hNN hN
  go_enter Tryz.func3, Tryz.ntmps3
  go_wp2_with fail
  refine (HWK.out _).mono ?_
  rintro e w0 ⟨rfl, hb⟩
  have HB0 := Lib.hid hb
  clear hb HWK
  go_wp2_with fail
  refine (HM.out _ HB0.out).mono ?_
  rintro e w1 ⟨pv, rfl, hpw, hb⟩
  have HPS := Lib.hid hpw.ps
  obtain ⟨pa, pc, rfl, _⟩ := hpw.ps.slice
  have HB := Lib.hid (chn HB0.out (hb.alloc hb.size (.cells #[.slice pa l.length pc, .slice none 0 0] 27)))
  have HCB : Hid (CB (w1.alloc (.cells #[.slice pa l.length pc, .slice none 0 0] 27)) w1.heap.size (.slice pa l.length pc)) := heap_alloc_new w1 _
  have HP1 := Lib.hid (HPS.out.below (below_alloc w1 (.cells #[.slice pa l.length pc, .slice none 0 0] 27)))
  clear hpw hb HM HPS HB0
  go_upto_region 4 with (fail)
  generalize w1.alloc (.cells #[.slice pa l.length pc, .slice none 0 0] 27) = W1 at *
  generalize w1.heap.size = cb at *
  have c0 := HCB.out.sc.1
  have HS := Lib.hid HCB.out.sc
  have HLL := Lib.hid HPL.out.2
  by_cases h0 : l.length = 0
  · rw [h0] at c0
    rw [h0]
    go_wp2_with fail
    go_ret
    exact ⟨rfl, HB.out⟩
  · have hz : ((l.length : Int) == 0) = false := by rw [beq_eq_false_iff_ne]; omega
    have hz2 : (l.length == 0) = false := by rw [beq_eq_false_iff_ne]; exact h0
    have HPD := Lib.hid (fun ins hi hp => passed_of (ins := ins) HPL.out.1 (by omega) HPL.out.2 hi hp)
    have HNO := Lib.hid (fun ins hi hne => gt_no (ins := ins) HPL.out.1 (by omega) HPL.out.2 hi hne)
    obtain ⟨r1, hr1⟩ : ∃ r, gtR l (whoL N l.length) = r := ⟨_, rfl⟩
    have HR1 := Lib.hid hr1
    obtain ⟨a1, b1, e1⟩ := r1
    clear hr1 h0
    have HIL := Lib.hid (who_len N l.length)
    obtain ⟨ins, hins⟩ : ∃ ins, ins = whoL N l.length := ⟨_, rfl⟩
    have HWS := Lib.hid (fun w h => who_S (w := w) (b := cb) (pv := .slice pa l.length pc) HP1.out HLL.out HN.out h)
    have HBS := Lib.hid (fun w h => bring_S (w := w) (W := W1) (b := cb) (pv := .slice pa l.length pc) n h)
    rw [← HNN.out] at HBS
    rw [← hins] at HR1 HIL HWS
    clear hins
    have HKL : Hid (l.length = l.length) := rfl
    obtain ⟨k, hk⟩ : ∃ k, k = l.length := ⟨_, rfl⟩
    have HK := Lib.hid hk
    rw [← hk] at HS HP1 HCB HWS HBS HIL HLL hz hz2 c0 ⊢
    clear hk HKL
    go_wp2_with fail
    clear c0
    go_region_held3 (fun w' => w'.cell? ⟨cb, 0, none⟩ = some (.slice pa k pc) ∧ w'.cell? ⟨cb, 1, none⟩ = some (.slice none 0 0) ∧ Below W1.heap.size W1 w')
      (first | assumption | exact SC.drew HS.out | exact HS.out | go_keep)
      (first | (go_at_call 7; refine (HBS.out _ (by assumption)).mono ?_; rintro e w' ⟨rfl, hq0⟩)
             | (go_at_call 6; refine (HWS.out _ (by assumption)).mono ?_; rintro e w' ⟨u, rfl, hu, hq⟩))
    rename_i hHeld
    have hul := hu.slice
    obtain ⟨ua, uc, rfl, _, _⟩ := hul
    rw [HIL.out] at hu ⊢
    have HU := Lib.hid hu
    have HQ := Lib.hid hq
    have HTS := Lib.hid (test_S HP1.out HR1.out hu hq)
    obtain ⟨c0, c1, _⟩ := hq
    clear hHeld hu hq0 HWS HBS HN HNN
    go_wp2_with fail
    refine HTS.out.mono ?_
    rintro e W3 ⟨rfl, hu, hq⟩
    have HU3 := Lib.hid hu
    have HQ3 := Lib.hid hq
    clear c0 c1 HTS HU HQ
    obtain ⟨c0, c1, _⟩ := hq
    clear hu
    by_cases he : e1 = 0
    · subst he
      have HPS := Lib.hid (HPD.out ins (HIL.out.trans HK.out) (by rw [HR1.out]))
      clear HPD HNO HR1
      have HBW := Lib.hid (chn HB.out HQ3.out.2.2)
      have HPP := Lib.hid (HP1.out.below HQ3.out.2.2)
      have HLA := Lib.hid (HLS.out.below HBW.out)
      have hk4 := HLL.out
      obtain ⟨K, hK⟩ : ∃ K : Nat, (4 : Int) * (k : Int) = (K : Int) := ⟨4 * k, by push_cast; rfl⟩
      have HKK : Hid (K = 4 * k) := by unfold Hid; omega
      have hK16 : K ≤ 16 := by omega
      have hwK : IntKind.i64.wrap (K : Int) = (K : Int) := i64_nat (by omega)
      have hm1 := make_in k (by omega)
      have hm2 := make_in K (by omega)
      have hm3 := make_jb K (by omega)
      clear HB HQ3 HLS HP1 HS HCB HPL hz hz2
      go_upto_region 11 with (fail)
      go_cut [13] from 45 to 59 (fun pv wc => ∃ q : Bk, pv = .pointer (some ⟨q.rb, 0, none⟩) ∧ Hid (q.Ok W3.heap.size ∧ q.k = k ∧ q.pa = pa ∧ q.pc = pc ∧ q.ia = ua ∧ q.ic = uc ∧ q.la = va ∧ q.nl = nl ∧ q.lc = vc ∧ MS W3 wc q (fun _ => 0) (fun _ => 0) (fun _ => 0) (fun _ => 0) (fun _ => 0) 0))
      case first =>
        go_region_held3 (fun w' => w'.cell? ⟨cb, 0, none⟩ = some (.slice pa k pc) ∧ w'.cell? ⟨cb, 1, none⟩ = some (.slice none 0 0))
          (first | assumption | exact ⟨c0, c1⟩ | (refine ⟨?_, ?_⟩ <;> (repeat (first | exact c0 | exact c1 | refine cell_ald ?_ _ | refine cell_al ?_ _))))
          (fail)
        all_goals (
          go_wp2_with fail
          go_meet
          obtain rfl := HKK.out
          refine ms_leaf (chn (chn (chn (below_alloc _ _) (below_alloc _ _)) (below_alloc _ _)) (below_alloc _ _)) hk4 (by simp only [World.size_alloc]) ?_ ?_ ?_ ?_ (by omega) (by omega)
          · repeat (first | (refine ns_new ?_; (first | rfl | (simp only [World.size_alloc]; done))) | refine ns_al ?_ _)
          · repeat (first | (refine ns_new ?_; (first | rfl | (simp only [World.size_alloc]; done))) | refine ns_al ?_ _)
          · repeat (first | (refine js_new ?_; (first | rfl | (simp only [World.size_alloc]; done))) | refine js_al ?_ _)
          · repeat (first | (refine ns_new ?_; (first | rfl | (simp only [World.size_alloc]; done))) | refine ns_al ?_ _))
      case rest =>
        obtain ⟨q, rfl, hq⟩ := hcut
        obtain ⟨hq0, hq1, hq2, hq3, hq4, hq5, hq6, hq7, hq8, hq9⟩ := hq.out
        have HOK := Lib.hid hq0
        have HQK : Hid (q.k = l.length) := hq1.trans HK.out
        have HPQ : Hid (PS W3 (.slice q.pa q.k q.pc) l) := by unfold Hid; rw [hq2, hq1, hq3]; exact HPP.out
        have HUQ : Hid (BV W3 (.slice q.ia q.k q.ic) ins) := by unfold Hid; rw [hq4, hq1, hq5]; exact HU3.out
        have HLQ : Hid (IS W3 (.slice q.la q.nl q.lc) ls) := by unfold Hid; rw [hq6, hq7, hq8]; exact HLA.out
        have HM0 := Lib.hid hq9
        have HIL2 : Hid (ins.length = l.length) := HIL.out.trans HK.out
        clear hq hq0 hq1 hq2 hq3 hq4 hq5 hq6 hq7 hq8 hq9 HPP HU3 HLA hm1 hm2 hm3 hwK hK c0 c1
        go_wp2_with fail
        go_loopw [14] (fun tv wr => ∃ (t d : Nat) (jl je nx : Nat → Nat), t ≤ 500 ∧ tv = .int .i64 (t : Nat) ∧ d ≤ 16 * t ∧ Hid (MS W3 wr q ((svOf l ins).st t).1 ((svOf l ins).st t).2 jl je nx d) ∧ Hid (JI l ins t jl je nx) ∧ Hid (BD q.k jl je nx)) (fun tv _ => 500 - (intOf tv).toNat)
        case atStart => exact ⟨0, 0, _, _, _, by omega, rfl, by omega, HM0.out, ji_start l ins, bd_start q.k⟩
        case round =>
          clear HM0
          obtain ⟨t, d, jl, je, nx, ht, rfl, hd, HM, HJ, HB⟩ := hrel
          by_cases hlt : t < 500
          · have HT : Hid (TkS l ins t) := ⟨HPS.out, HIL2.out, hlt⟩
            have hdt : decide ((t : Int) < 500) = true := by simp; omega
            have hdt2 : decide (t < 500) = true := by simp; omega
            have HBG := Lib.hid (begins_any rfl HM.out HOK.out HPQ.out HUQ.out HLQ.out HT.out hd HJ.out HB.out)
            have hkq := HOK.out.k4
            unfold BgP at HBG
            clear HM HJ HB
            go_wp2_with fail
            refine HBG.out.mono ?_
            rintro e w5 ⟨rfl, jl1, je1, nx1, d1, hm, hj, hbd, hd1⟩
            have HJ1 := Lib.hid hj; have HB1 := Lib.hid hbd; have HD1 := Lib.hid hd1
            have HGO := Lib.hid (goes_any hm HOK.out (fun i hi => by
              have h1 := l1_small (sv_ok HPS.out.pl HPS.out.w) (t := t) (i := i) (by omega) (by show i < l.length; rw [← HQK.out]; exact hi)
              exact ⟨h1.1, by omega⟩) hbd)
            clear hm hj hbd hd1 HBG
            go_wp2_with fail
            refine HGO.out.mono ?_
            intro e w6 hg
            obtain ⟨rfl, jl2, hm2, hj2, hb2⟩ := tick_step HT.out HQK.out HJ1.out HB1.out hg
            have HM2 := Lib.hid hm2; have HJ2 := Lib.hid hj2; have HB2 := Lib.hid hb2
            clear hm2 hj2 hb2 hg HGO HJ1 HB1
            go_wp2_with fail
            go_roundw
            case rel => exact ⟨t + 1, d1, jl2, je1, nx1, by omega, by go_num, by have := HD1.out; omega, HM2, HJ2, HB2⟩
            case measure => simp [intOf]; omega
          · obtain rfl : t = 500 := by omega
            have hdt : decide (((500 : Nat) : Int) < 500) = false := by decide
            have HF : Hid (Below w.heap.size w wr) := chn HBW.out HM.out.bel
            clear HM HJ HB
            go_wp2_with fail
            go_ret
            exact ⟨rfl, HF.out⟩
    · have hef : (e1 == 0) = false := by rw [beq_eq_false_iff_ne]; exact he
      have HE := Lib.hid (HNO.out ins (HIL.out.trans HK.out) (by rw [HR1.out]; exact he))
      have HBW := Lib.hid (chn HB.out HQ3.out.2.2)
      rw [HR1.out] at HE
      clear he HPD HNO HR1
      rcases HE.out with h120 | h5
      · obtain rfl : e1 = 120 := h120
        go_wp2_with fail
        go_ret
        exact ⟨rfl, HBW.out⟩
      · obtain rfl : e1 = 5 := h5
        go_wp2_with fail
        go_ret
        exact ⟨rfl, HBW.out⟩
end Go.Proofs.YtbdiekolkniajaaGreat
