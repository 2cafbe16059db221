/- The document's room: New, its walk; which tasks are refused. -/
import Derived.Test.YtkkmfpllgjoceaaGreatRooRf
import Derived.Deep.CutRange
namespace Go.Proofs.YtkkmfpllgjoceaaGreat.Ro.Dr
open Go.RowKit Go.Sort Ac Jo Ro
set_option linter.unusedVariables false
set_option maxRecDepth 100000

theorem tasks_no {n : Nat} {z : Nat → Nat → Int} (h : 4 < n ∨ ∃ i, i < n ∧ Jo.tok (z i) = false) : Dm.De.tasksOK n z = false := by
  unfold Dm.De.tasksOK
  rcases h with h | ⟨i, hi, h⟩
  · rw [decide_eq_false (by omega)]; rfl
  · rw [Dm.De.allT_no hi h, Bool.and_false]
theorem new_no {w : World} {v : Value} {n : Nat} {z : Nat → Nat → Int} (h : St.TK w v n z) (hq : 4 < n ∨ ∃ i, i < n ∧ Jo.tok (z i) = false) : Calls Tryz.prog 8 #[v] w (NoP 2 w) := by
  have HC := Lib.hid (Dm.rtasks_fit (tasks_no hq) h)
  clear h hq
  go_enter Tryz.func8, Tryz.ntmps8
  go_wp2_with fail
  refine HC.out.mono ?_
  rintro e w1 ⟨rfl, hb⟩
  have HB := Lib.hid hb
  clear hb HC
  go_wp2_with fail
  go_ret2
  exact ⟨rfl, HB.out⟩
/-- the row is copied behind none, wherever the row of none lies -/
theorem copied {W : World} {v : Value} {n g : Nat} {z : Nat → Nat → Int} (h : St.TK W v n z) (hn : n ≤ 4) :
    ∃ (ad : Addr) (c : Nat) (w2 : World), (Builtin.append_ #[22, 22] 22 #[.slice (some ⟨g, 0, none⟩) 0 0, v]).run Tryz.prog W = .ok (.slice (some ad) n c) w2 ∧ St.TK w2 (.slice (some ad) n c) n z ∧ Below W.heap.size W w2 ∧ (∀ k, (Value.slice (some ad) n c).ownBlock = some k → k = g ∨ (W.heap.size ≤ k ∧ k < w2.heap.size)) := by
  obtain ⟨v', w2, hrun, htk, hb2, ⟨ad, c, rfl⟩, hob⟩ := St.app_tlit (g := g) h (by omega) 22
  exact ⟨ad, c, w2, hrun, htk, hb2, hob⟩
set_option maxHeartbeats 4000000 in
theorem new_ok {w : World} {v : Value} {n : Nat} {z : Nat → Nat → Int} (h : St.TK w v n z) (hn : n ≤ 4) (hz : ∀ i, i < n → Jo.tok (z i) = true) : Calls Tryz.prog 8 #[v] w (RNew JJ (noRm n z) w) := by
  obtain ⟨a, cap, rfl, hn1, hn2⟩ := h.slice
  have HC := Lib.hid (Dm.rtasks_fit (tasks_ok hn hz) h)
  have HT := Lib.hid h
  have HZ := Lib.hid hz
  have hmk := run_make_row' (P := Tryz.prog) 81 97 (.pointer none) 8 Tryz.underlying81 infoDj rfl .i64 .i64 n (by omega) (by omega)
  clear h hz
  go_enter Tryz.func8, Tryz.ntmps8
  go_wp2_with fail
  refine HC.out.mono ?_
  rintro e w1 ⟨rfl, hb1⟩
  have HB1 := Lib.hid hb1
  have HT1 := Lib.hid (HT.out.below hb1)
  clear hb1 HC
  have hA := below_al w1 (.cells #[] 55)
  have hB := hA.alloc hA.size (.cells (madeCells #[.pointer none] n) 97)
  have hC0 := below_al w1 (.cells (madeCells #[.pointer none] n) 97)
  have hC := hC0.alloc hC0.size (.cells #[] 55)
  obtain ⟨ad1, c1, wa, ra, ta, ba, oa⟩ := copied (g := w1.heap.size) (HT1.out.below (below_drew hA)) hn
  obtain ⟨ad2, c2, wb, rb', tb, bb, ob⟩ := copied (g := w1.heap.size) (HT1.out.below (below_drew hB)) hn
  obtain ⟨ad3, c3, wc3, rc, tc, bc, oc⟩ := copied (g := w1.heap.size + 1) (HT1.out.below (below_drew hC)) hn
  have HRA := Lib.hid ra
  have HRB := Lib.hid rb'
  have HRC := Lib.hid rc
  have HFA := Lib.hid (And.intro ta (And.intro ba oa))
  have HFB := Lib.hid (And.intro tb (And.intro bb ob))
  have HFC := Lib.hid (And.intro tc (And.intro bc oc))
  have hs1 := HB1.out.size
  have hbA : Below w.heap.size w wa := (below_drew (HB1.out.trans (hA.mono hs1))).trans (ba.mono (by show w.heap.size ≤ (w1.alloc (.cells #[] 55)).heap.size; rw [World.size_alloc]; omega))
  have hbB : Below w.heap.size w wb := (below_drew (HB1.out.trans (hB.mono hs1))).trans (bb.mono (by show w.heap.size ≤ ((w1.alloc (.cells #[] 55)).alloc (.cells (madeCells #[.pointer none] n) 97)).heap.size; rw [World.size_alloc, World.size_alloc]; omega))
  have hbC : Below w.heap.size w wc3 := (below_drew (HB1.out.trans (hC.mono hs1))).trans (bc.mono (by show w.heap.size ≤ ((w1.alloc (.cells (madeCells #[.pointer none] n) 97)).alloc (.cells #[] 55)).heap.size; rw [World.size_alloc, World.size_alloc]; omega))
  have szA : ((w1.alloc (.cells #[] 55)).drew).heap.size = w1.heap.size + 1 := by show (w1.alloc (.cells #[] 55)).heap.size = _; rw [World.size_alloc]
  have szB : (((w1.alloc (.cells #[] 55)).alloc (.cells (madeCells #[.pointer none] n) 97)).drew).heap.size = w1.heap.size + 2 := by show ((w1.alloc (.cells #[] 55)).alloc (.cells (madeCells #[.pointer none] n) 97)).heap.size = _; rw [World.size_alloc, World.size_alloc]
  have szC : (((w1.alloc (.cells (madeCells #[.pointer none] n) 97)).alloc (.cells #[] 55)).drew).heap.size = w1.heap.size + 2 := by show ((w1.alloc (.cells (madeCells #[.pointer none] n) 97)).alloc (.cells #[] 55)).heap.size = _; rw [World.size_alloc, World.size_alloc]
  rw [szA] at ba oa
  rw [szB] at bb ob
  rw [szC] at bc oc
  have ssA := ba.size
  have ssB := bb.size
  have ssC := bc.size
  rw [szA] at ssA
  rw [szB] at ssB
  rw [szC] at ssC
  have joB : wb.heap[w1.heap.size + 1]? = some (.cells (madeCells #[.pointer none] n) 97 (0, 0)) := by
    refine (bb.block _ (by omega)).trans ?_
    have := heap_alloc_new (w1.alloc (.cells #[] 55)) (.cells (madeCells #[.pointer none] n) 97)
    rw [World.size_alloc] at this
    exact this
  have joC : wc3.heap[w1.heap.size]? = some (.cells (madeCells #[.pointer none] n) 97 (0, 0)) := by
    refine (bc.block _ (by omega)).trans ?_
    exact ((below_al (w1.alloc (.cells (madeCells #[.pointer none] n) 97)) (.cells #[] 55)).block _ (by rw [World.size_alloc]; omega)).trans (heap_alloc_new w1 _)
  have HNA : Hid (∃ (rb jv a1 : Nat) (tv : Value), Value.pointer (some ⟨wa.heap.size + 1, 0, none⟩) = .pointer (some ⟨rb, 0, none⟩) ∧ Hid (NB w ((wa.alloc (.cells (madeCells #[.pointer none] n) 97)).alloc (.cells #[.slice (some ad1) n c1, .slice none 0 0, .pointer none, .pointer none, .slice (some ⟨wa.heap.size, 0, none⟩) n n] 86)) n z rb jv a1 tv (.slice none 0 0) 0 (fun _ => 0))) := Lib.hid ⟨_, _, _, _, by rw [World.size_alloc], Lib.hid (NB.start (hbA.alloc hbA.size (.cells (madeCells #[.pointer none] n) 97)) (ta.below (below_al wa _)) (fun q hq => by have := oa q hq; rw [World.size_alloc]; omega) (heap_alloc_new wa _) hbA.size)⟩
  have HNB : Hid (∃ (rb jv a1 : Nat) (tv : Value), Value.pointer (some ⟨wb.heap.size, 0, none⟩) = .pointer (some ⟨rb, 0, none⟩) ∧ Hid (NB w (wb.alloc (.cells #[.slice (some ad2) n c2, .slice none 0 0, .pointer none, .pointer none, .slice (some ⟨w1.heap.size + 1, 0, none⟩) n n] 86)) n z rb jv a1 tv (.slice none 0 0) 0 (fun _ => 0))) := Lib.hid ⟨_, _, _, _, rfl, Lib.hid (NB.start hbB tb (fun q hq => by have := ob q hq; omega) joB (by omega))⟩
  have HNC : Hid (∃ (rb jv a1 : Nat) (tv : Value), Value.pointer (some ⟨wc3.heap.size, 0, none⟩) = .pointer (some ⟨rb, 0, none⟩) ∧ Hid (NB w (wc3.alloc (.cells #[.slice (some ad3) n c3, .slice none 0 0, .pointer none, .pointer none, .slice (some ⟨w1.heap.size, 0, none⟩) n n] 86)) n z rb jv a1 tv (.slice none 0 0) 0 (fun _ => 0))) := Lib.hid ⟨_, _, _, _, rfl, Lib.hid (NB.start hbC tc (fun q hq => by have := oc q hq; omega) joC hs1)⟩
  clear ra ta ba oa rb' tb bb ob rc tc bc oc hA hB hC0 hC hbA hbB hbC szA szB szC ssA ssB ssC joB joC HFA HFB HFC hs1
  go_upto_region 3 with (fail)
  go_cut [4] from 15 to 22 (fun v wc => ∃ (rb jv a1 : Nat) (tv : Value), v = .pointer (some ⟨rb, 0, none⟩) ∧ Hid (NB w wc n z rb jv a1 tv (.slice none 0 0) 0 (fun _ => 0)))
  case first =>
    go_region_law (first | (refine St.step_append_eq rfl (.tmp 15) (.tmp 16) 22 rfl _ _ _ (by simp [Act.eval]) (by simp [Act.eval]) HRA.out ?_) | (refine St.step_append_eq rfl (.tmp 15) (.tmp 16) 22 rfl _ _ _ (by simp [Act.eval]) (by simp [Act.eval]) HRB.out ?_) | (refine St.step_append_eq rfl (.tmp 15) (.tmp 16) 22 rfl _ _ _ (by simp [Act.eval]) (by simp [Act.eval]) HRC.out ?_))
    · go_wp2_with fail
      go_meet
      case rel => exact HNA.out
    · go_wp2_with fail
      go_meet
      case rel => exact HNB.out
    · go_wp2_with fail
      go_meet
      case rel => exact HNC.out
  case rest =>
    clear HNA HNB HNC HRA HRB HRC HT1 HB1 hmk
    obtain ⟨rb, jv, a1, tv, rfl, HN⟩ := hcut
    go_wp2_with fail
    go_loopw [5] (fun i wr => ∃ (k : Nat) (gv : Value) (ga : Nat → Nat), k ≤ n ∧ i = .int .i64 k ∧ Hid (NB w wr n z rb jv a1 tv gv k ga)) (fun i _ => n - (intOf i).toNat)
    case atStart => exact ⟨0, _, _, Nat.zero_le _, rfl, HN.out⟩
    case round =>
      clear HN
      obtain ⟨k, gv, ga, hk, rfl, HN⟩ := hrel
      by_cases hlt : k < n
      · have hd : decide ((k : Int) < (n : Int)) = true := by simp; omega
        obtain ⟨tb, off, rfl, ⟨t0, t1, t2, t3, t4, t5, t6, t7⟩⟩ := (HT.out.below HN.out.bel).at hlt
        have htok := tok_bd (HZ.out k hlt)
        have hwp : Sg.Sp.wp (z k 0) = 0 := by unfold Sg.Sp.wp; rw [if_pos ⟨htok.1, htok.2.1⟩]
        have HG := Lib.hid (Sg.rnew_yes wr hwp)
        obtain ⟨ga0, gc0, hgf⟩ := St.own_slice HN.out.ow
        have HST : Hid (∀ w2, Sg.DG w2 wr.heap.size (z k 0) 0 → Below wr.heap.size wr w2 → w2.cell? ⟨rb, 0 + 1, none⟩ = some gv ∧ ∃ ad c w3, (Builtin.append_ #[82, 82] 82 #[gv, .slice (some ⟨w2.heap.size, 0, none⟩) 1 1]).run Tryz.prog (w2.alloc (.cells #[.pointer (some ⟨wr.heap.size, 0, none⟩)] 87)) = .ok (.slice ad (k + 1) c) w3 ∧ w3.frozen? ⟨rb, 0 + 1, none⟩ = false ∧ (∃ u, w3.cell? ⟨rb, 0 + 1, none⟩ = some u) ∧ NB w (w3.setCell ⟨rb, 1, none⟩ (.slice ad (k + 1) c)) n z rb jv a1 tv (.slice ad (k + 1) c) (k + 1) (fun i => if i = k then wr.heap.size else ga i)) := Lib.hid (fun w2 hg hb => by
          have h2 := HN.out.below hb
          have hown : (w2.alloc (.cells #[.pointer (some ⟨wr.heap.size, 0, none⟩)] 87)).ownsRow a1 87 1 gv k (pcls ga k) := World.ownsRow.alloc h2.ow _
          obtain ⟨v', w3, hrun, hown', hgr, hbel⟩ := app_dg hown wr.heap.size (g := w2.heap.size) (heap_alloc_new w2 _) (by rw [World.size_alloc]; have := h2.sz; omega) (by omega) 82
          obtain ⟨ad, c, rfl⟩ := St.own_slice hown'
          have hal := below_al w2 (.cells #[.pointer (some ⟨wr.heap.size, 0, none⟩)] 87)
          have hob2 := (hal.block rb (lt_of_block h2.ob)).trans h2.ob
          have hob3 := (hgr.block rb (lt_of_block hob2) (fun y => by have := (World.ownsRow.lt h2.ow rb y.symm).1; have := h2.rj; omega)).trans hob2
          refine ⟨cell_of_row _ _ 1 _ _ _ h2.ob, ad, c, w3, hrun, frozen_of_row _ _ 1 _ _ hob3, ⟨_, cell_of_row _ _ 1 _ _ _ hob3⟩, ?_⟩
          exact HN.out.step hb (Nat.le_refl _) hg rfl hgr hbel hown')
        subst hgf
        clear htok hwp HN
        generalize z k 0 = z0 at *
        go_wp2_with fail
        refine HG.out.mono ?_
        rintro e w2 ⟨rfl, hg, hb⟩
        obtain ⟨cg, ad, c, w3, hrun, f3, ⟨u3, d3⟩, hnb⟩ := HST.out w2 hg hb
        have HRUN := Lib.hid hrun
        have HNB := Lib.hid hnb
        clear hrun hnb hg hb HG HST t0 t1 t2 t3 t4 t5 t6 t7
        generalize wr.heap.size = gk at *
        go_wp2_with (at_builtin; refine St.wpList_append_eq rfl _ _ 82 82 rfl _ _ _ _ rfl rfl HRUN.out ?_)
        go_roundw
        case rel => exact ⟨k + 1, _, _, by omega, by go_num, HNB.out⟩
        case measure => simp [intOf]; omega
      · obtain rfl : k = n := by omega
        have hd : decide ((k : Int) < (k : Int)) = false := by simp
        have HQN := Lib.hid (Rq.rnew_yes wr hn)
        have HSN : Hid (∀ w2, Below wr.heap.size wr w2 → Calls Tryz.prog 43 #[.slice a k cap] w2 (St.RewP k z w2)) := Lib.hid (fun w2 hb => St.rnew_any (HT.out.below (chn HN.out.bel hb)))
        have hn4 := hn
        go_wp2_with fail
        refine HQN.out.mono ?_
        rintro e w2 ⟨qb, lv, rfl, dq, q1, b1⟩
        have HS2 := Lib.hid (HSN.out w2 b1)
        have HQ := Lib.hid (And.intro dq (And.intro q1 b1))
        clear dq q1 b1 HQN HSN
        go_wp2_with fail
        refine HS2.out.mono ?_
        intro e w3 hq
        unfold St.RewP at hq
        rw [if_pos hn4] at hq
        obtain ⟨sb, sv, rfl, so, b2, q2, q3⟩ := hq
        have HF := Lib.hid (HN.out.fin hn4 HQ.out.1 HQ.out.2.1 HQ.out.2.2 so q2 q3 b2)
        have hN3 := HN.out.below (chn HQ.out.2.2 b2)
        have g2 : w3.frozen? ⟨rb, 0 + 2, none⟩ = false := frozen_of_row _ _ 2 _ _ hN3.ob
        have g2c : w3.cell? ⟨rb, 0 + 2, none⟩ = some (.pointer none) := cell_of_row _ _ 2 _ _ _ hN3.ob
        have hob2 := heap_setCell_same w3 rb 2 _ _ (.pointer (some ⟨qb, 0, none⟩)) hN3.ob
        have g3 : (w3.setCell ⟨rb, 2, none⟩ (.pointer (some ⟨qb, 0, none⟩))).frozen? ⟨rb, 0 + 3, none⟩ = false := frozen_of_row _ _ 3 _ _ hob2
        have g3c : (w3.setCell ⟨rb, 2, none⟩ (.pointer (some ⟨qb, 0, none⟩))).cell? ⟨rb, 0 + 3, none⟩ = some (.pointer none) := cell_of_row _ _ 3 _ _ _ hob2
        clear so b2 q2 q3 hN3 hob2 HQ HS2 HN
        go_wp2_with fail
        go_ret2
        exact HF.out
end Go.Proofs.YtkkmfpllgjoceaaGreat.Ro.Dr
