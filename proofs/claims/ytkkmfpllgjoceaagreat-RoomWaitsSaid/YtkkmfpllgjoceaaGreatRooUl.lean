/- A step of a play: the walk. -/
import Derived.Test.YtkkmfpllgjoceaaGreatRooU
import Derived.Test.YtkkmfpllgjoceaaGreatZb
import Derived.Deep.RegionHeld3
import Derived.Deep.CutRange
namespace Go.Proofs.YtkkmfpllgjoceaaGreat.Ro
open Go.RowKit Go.Sort Ac Jo
set_option linter.unusedVariables false
set_option maxRecDepth 100000

section
variable {X : Nat → Option Obj} {Q : Rprg} {B : Nat} {W w w' : World} {pb rb : Nat} {tv ov : Value} {s s' : Rm} {now : Int} {O : List Int}
theorem own_cases (h : Rinv s) (r : Int) : (ownr s r s.n = none ∧ ∀ e ∈ s.E, e.2 ≠ r) ∨ ∃ i : Nat, ownr s r s.n = some i ∧ ∃ e ∈ s.E, e.1 = i ∧ e.2 = r := by
  have key : ∀ m, (ownr s r m = none ∧ ∀ i, i < m → r ∉ heldV s (i : Nat)) ∨ ∃ i : Nat, ownr s r m = some i ∧ r ∈ heldV s i := by
    intro m
    induction m with
    | zero => exact Or.inl ⟨rfl, fun i hi => by omega⟩
    | succ m ih =>
      unfold ownr
      rcases ih with ⟨h1, h2⟩ | ⟨i, h1, h2⟩
      · rw [h1]
        simp only
        by_cases hr : r ∈ heldV s m
        · rw [if_pos hr]; exact Or.inr ⟨m, rfl, hr⟩
        · rw [if_neg hr]
          refine Or.inl ⟨rfl, fun i hi => ?_⟩
          by_cases e : i = m
          · subst e; exact hr
          · exact h2 i (by omega)
      · rw [h1]; exact Or.inr ⟨i, rfl, h2⟩
  rcases key s.n with ⟨h1, h2⟩ | ⟨i, h1, h2⟩
  · refine Or.inl ⟨h1, fun e he hr => ?_⟩
    have h3 := asked_job h (h.own e he)
    have h4 := h2 e.1.toNat (by omega)
    rw [show ((e.1.toNat : Nat) : Int) = e.1 by omega] at h4
    unfold heldV at h4
    rw [if_pos h3.1] at h4
    exact h4 (St.Sk.held_mem.2 (by rw [← hr]; exact he))
  · refine Or.inr ⟨i, h1, ?_⟩
    unfold heldV at h2
    split at h2
    · exact ⟨_, St.Sk.held_mem.1 h2, rfl, rfl⟩
    · cases h2
/-- who has a resource that who goes on locks -/
theorem lock_facts (h : Pl s now) {k : Nat} (g : Goes s.ev s.dl s.E s.bg (k : Int)) (r : Int) : ∃ (oi : Int) (ob : Bool), ownV s r = .tuple #[.int .i64 oi, .bool ob] ∧ (s.us k r = true → ob = true → oi = k) ∧ (ob = false → lockRE s k r ≠ 131) := by
  rcases own_cases h.iv r with ⟨h1, h2⟩ | ⟨i, h1, e, he, h3, h4⟩
  · refine ⟨0, false, (by unfold ownV; rw [h1]), (fun _ q => by cases q), (fun _ q => ?_)⟩
    unfold lockRE at q
    split at q
    · rename_i q2
      have := (h.goes_in g).2.2
      exact q2 this
    · split at q
      · cases q
      · unfold St.Sk.lockE at q
        split at q
        · split at q
          · split at q
            · rename_i hh
              have := St.Sk.has_iff.1 hh
              obtain ⟨e, he, hr⟩ := List.mem_map.1 this
              exact h2 e he hr
            · split at q <;> cases q
          · cases q
        · cases q
  · refine ⟨i, true, (by unfold ownV; rw [h1]), (fun hu _ => ?_), (fun q => by cases q)⟩
    have := h.free g hu e he h4
    rw [h3] at this
    exact this
theorem us_bit {k : Nat} {r : Int} (hk : k < s.n) (h0 : 0 ≤ r) (h1 : r < 8) : s.us k r = (bits BinOp.and IntKind.i64 (s.z k 3 / 2 ^ r.toNat) 1 == 1) := by
  unfold Rm.us St.Lv.us St.Lv.bit
  rw [show (decide (0 ≤ (k : Int)) && decide ((k : Int) < s.n)) = true by simp; omega, show (decide (0 ≤ r) && decide (r < 8)) = true by simp; omega]
  simp
/-- a number more in the play's order -/
theorem PL.app (h : PL X Q B W w pb rb tv ov s now O) (x : Int) (hO : O.length ≤ 1000) : ∃ v' w', (Builtin.append_ #[41, 41] 41 #[ov, .slice (some ⟨w.heap.size, 0, none⟩) 1 1]).run Tryz.prog (w.alloc (.cells #[.int .i64 x] 3)) = .ok v' w' ∧ w'.heap[pb]? = w.heap[pb]? ∧ PL X Q B W (w'.setCell ⟨pb, 3, none⟩ v') pb rb tv v' s now (O ++ [x]) := by
  have hsz := h.rm.szw
  obtain ⟨v', w', hrun, hown, hgr, hvb⟩ := St.app_num2 (w := w.alloc (.cells #[.int .i64 x] 3)) 41 x (World.ownsRow.alloc h.od _) (g := w.heap.size) (heap_alloc_new w _) (Nat.le_trans hsz (by simp)) hO
  have hso := own_ge h.od
  have hp := lt_of_block h.ob
  have ht := own_ge h.tk
  have hal : Below w.heap.size w (w.alloc (.cells #[.int .i64 x] 3)) := below_al w _
  have hblk : ∀ k, k < w.heap.size → ov.ownBlock ≠ some k → w'.heap[k]? = w.heap[k]? := fun k hk hne => (hgr.block k (Nat.lt_of_lt_of_le hk hal.size) (fun e => hne e.symm)).trans (hal.block k hk)
  have hpb := hblk pb hp (fun e => h.d1 pb e rfl)
  refine ⟨v', w', hrun, hpb, ?_⟩
  have hob := heap_setCell_same w' pb 3 _ _ v' (hpb.trans h.ob)
  have hn : ∀ k, k ≠ pb → (w'.setCell ⟨pb, 3, none⟩ v').heap[k]? = w'.heap[k]? := fun k hk => Below.heap_setCell _ _ _ _ hk
  have hfresh : ∀ k, v'.ownBlock = some k → ov.ownBlock = some k ∨ w.heap.size ≤ k := fun k hk => by
    rcases hvb with e | e
    · exact Or.inl (e ▸ hk)
    · exact Or.inr (Nat.le_trans hal.size (e k hk))
  have hon : Only (PF X pb tv ov) w w' := ⟨hgr.os.trans hal.os, hgr.tape.trans hal.tape, hgr.output.trans hal.output, Nat.le_trans hal.size hgr.size, fun k hk hne => hblk k hk (fun e => hne (Or.inr (Or.inr (Or.inl e))))⟩
  have hne : ∀ k, v'.ownBlock = some k → k ≠ pb := fun k hk e => by
    rcases hfresh k hk with q | q
    · exact h.d1 k q e
    · omega
  refine ⟨hob, row_keep h.tk (fun k hk => (hn k (h.d2 k hk)).trans (hblk k (ht k hk).2 (fun e => h.d3 k e hk))), row_keep hown (fun k hk => hn k (hne k hk)), ?_, hne, h.d2, fun k hk e => ?_, h.pbB, fun k o hk => ?_, fun k hk => ?_⟩
  · refine h.rm.to (F' := PF X pb tv v') (hon.trans (Only.set w' 3 v' (Or.inl rfl))) ?_ ?_
    · rintro k (rfl | hk | hk | hk)
      · exact h.pbB
      · exact (ht k hk).1
      · exact (hso k hk).1
      · exact (h.x1 k hk).1
    · rintro k (hk | hk | hk | hk)
      · exact Or.inl (Or.inl hk)
      · exact Or.inl (Or.inr (Or.inl hk))
      · rcases hfresh k hk with q | q
        · exact Or.inl (Or.inr (Or.inr (Or.inl q)))
        · refine Or.inr ⟨q, ?_⟩
          have := (own_ge hown k hk).2
          simpa [World.setCell] using this
      · exact Or.inl (Or.inr (Or.inr (Or.inr hk)))
  · rcases hfresh k hk with q | q
    · exact h.d3 k q e
    · have := (ht k e).2; omega
  · have h1 := h.xk k o hk
    have h2 := h.x1 k (by rw [hk]; rfl)
    exact (hn k h2.2.1).trans ((hblk k (lt_of_block h1) h2.2.2.2).trans h1)
  · obtain ⟨x1, x2, x3, x4⟩ := h.x1 k hk
    refine ⟨x1, x2, x3, fun e => ?_⟩
    obtain ⟨o, ho⟩ := Option.isSome_iff_exists.1 hk
    have h1 := lt_of_block (h.xk k o ho)
    rcases hfresh k e with q | q
    · exact x4 q
    · omega
set_option maxHeartbeats 8000000 in
theorem step_lock0 (h : PL X Q B W w pb rb tv ov s now O) (hp : Pl s now) (hO : O.length ≤ 900) (hnow : now ≤ 1000000) {x : Int} (hx0 : 0 ≤ x) (hx1 : x < 9600) (q : ¬ isRel s x) {k : Nat} (hw : who s = some (k : Int)) (g : Goes s.ev s.dl s.E s.bg (k : Int)) (hk2 : kindX x = 0) : Calls Tryz.prog 16 #[.pointer (some ⟨pb, 0, none⟩), .int .i64 x] w (PLP X Q (.bool true) B W pb rb tv (stepS s now x) (stepN s now x) (stepO s x O)) := by
  have hnow0 := hp.now0
  have hst : stepS s now x = actS s k x := by unfold stepS; rw [if_neg q, hw]
  have hso : stepO s x O = actO s k x O := by unfold stepO; rw [if_neg q, hw]
  rw [hst, show stepN s now x = now + 1 from if_neg q, hso]
  clear hst hso
  obtain ⟨ta, tcap, rfl, ht1, ht2⟩ := (St.NT.tk h.tk).slice
  have hn4 := h.rm.iv.n4
  have d1 : (x.tmod 3 == 0) = false ∨ ((x.tmod 3 == 0) = true ∧ s.n = 0) := by
    by_cases e : x.tmod 3 = 0
    · exact Or.inr ⟨by simpa using e, by have : ¬ 0 < s.n := fun y => q ⟨e, y⟩; omega⟩
    · exact Or.inl (by simpa using e)
  have hin := hp.goes_in g
  have hkn : k < s.n := by omega
  have d1 : (x.tmod 3 == 0) = false := by
    rcases d1 with d1 | ⟨_, d2⟩
    · exact d1
    · omega
  obtain ⟨m3, hm3⟩ : ∃ m3, x.tmod 3 = m3 := ⟨_, rfl⟩
  rw [hm3] at d1
  obtain ⟨y, hy, hy0, hy1⟩ : ∃ y, x.tdiv 3 = y ∧ 0 ≤ y ∧ y ≤ 3200 := ⟨_, rfl, by rw [Int.tdiv_eq_ediv_of_nonneg hx0]; omega, by rw [Int.tdiv_eq_ediv_of_nonneg hx0]; omega⟩
  have hwy : wrap64 y = y := by unfold wrap64; omega
  obtain ⟨y2, hy2, hy20, hy21⟩ : ∃ y, x.tdiv 24 = y ∧ 0 ≤ y ∧ y ≤ 400 := ⟨_, rfl, by rw [Int.tdiv_eq_ediv_of_nonneg hx0]; omega, by rw [Int.tdiv_eq_ediv_of_nonneg hx0]; omega⟩
  have hwy2 : wrap64 y2 = y2 := by unfold wrap64; omega
  have hkd : y.tmod 8 = kindX x := by rw [← hy]; rfl
  have hrs : y2.tmod 4 = resX x := by rw [← hy2]; rfl
  have hrr : 0 ≤ resX x ∧ resX x < 4 := by rw [← hrs, Int.tmod_eq_emod_of_nonneg hy20]; omega
  have HA := Lib.hid hin.2.2
  have HG := Lib.hid g
  have HP := Lib.hid hp
  have HT := Lib.hid (h.tick (now + 1))
  have hs4 : actS s k x = lockR s k (resX x) := by unfold actS; rw [if_pos (by omega)]
  obtain ⟨O', hO', w1, w2⟩ : ∃ O', actO s k x O = O' ∧ Hid (lockRE s k (resX x) = 0 ∧ (heldV (lockR s k (resX x)) k).length = 1 → O' = O ++ [(k : Int)]) ∧ Hid (¬ (lockRE s k (resX x) = 0 ∧ (heldV (lockR s k (resX x)) k).length = 1) → O' = O) := ⟨_, rfl, fun q => by unfold actO; rw [if_pos (by omega), if_pos q], fun q => by unfold actO; rw [if_pos (by omega), if_neg q]⟩
  rw [hs4, hO']
  clear hs4 hO'
  have HLF := Lib.hid (lock_facts hp g (resX x))
  have HUS := Lib.hid (us_bit (s := s) hkn hrr.1 (by omega : resX x < 8))
  obtain ⟨c0, c1, c2, c3⟩ := h.cells
  obtain ⟨e0, e1, e2, e3⟩ := HT.out.cells
  have f2 : w.frozen? ⟨pb, 0 + 2, none⟩ = false := frozen_of_row _ _ 2 _ _ h.ob
  have HW : Hid (Calls Tryz.prog 19 #[.pointer (some ⟨rb, 0, none⟩)] (w.setCell ⟨pb, 2, none⟩ (.int .i64 (now + 1))) (VB (.tuple #[.int .i64 k, .bool true]) (w.setCell ⟨pb, 2, none⟩ (.int .i64 (now + 1))))) := by
    obtain ⟨S, j⟩ := HT.out.rm.at
    have := Q.who j HT.out.rm.iv
    unfold whoV at this
    rw [hw] at this
    exact this
  generalize resX x = rs at *
  generalize kindX x = kd at *
  generalize hn : s.n = n at *
  have HN := Lib.hid hn
  have z1 : decide ((k : Int) < 0) = false := by simp
  have z2 : decide ((n : Int) ≤ (k : Int)) = false := by simp; omega
  have z3 : decide (n ≤ k) = false := by simp; omega
  clear h q hw hp hn hin g hx0 hx1 hy0 hy1 hy20 hy21
  go_enter Tryz.func16, Tryz.ntmps16
  go_wp2_with fail
  refine HW.out.mono ?_
  rintro e w2 ⟨rfl, hb⟩
  have HT2 := Lib.hid (HT.out.below hb)
  clear hb HW HT c0 c1 c2 c3 e0 e1 e2 e3 f2
  obtain ⟨g0, g1, g2, g3⟩ := HT2.out.cells
  subst hk2
  obtain ⟨oi, ob, hov, hu1, hu2⟩ := HLF.out
  go_wp2_with fail
  refine (pheld_any HT2.out rs).mono ?_
  rw [hov]
  rintro e w3 ⟨rfl, hb⟩
  have HT3 := Lib.hid (HT2.out.below hb)
  clear hb HT2 g0 g1 g2 g3 hov HLF
  obtain ⟨g0, g1, g2, g3⟩ := HT3.out.cells
  have HC : Hid (Calls Tryz.prog 22 #[.pointer (some ⟨rb, 0, none⟩), .int .i64 k, .int .i64 rs] w3 (OFP Q (.int .i64 (lockRE s k rs)) B W rb (lockR s k rs) (PF X pb (.slice ta n tcap) ov) w3)) := HT3.out.rm.wr (HT3.out.rm.iv.lock k rs) (fun S j => Q.lock j HT3.out.rm.iv k rs)
  have HNZ := Lib.hid (lockR_nz s k rs)
  generalize lockRE s k rs = er at *
  generalize lockR s k rs = s1 at *
  go_wp2_with fail
  refine HC.out.mono ?_
  rintro e w4 hq
  obtain ⟨rfl, hl⟩ := HT3.out.call hq (HNZ.out.1) HNZ.out.2
  have HT4 := Lib.hid hl
  clear hl hq HC HT3 g0 g1 g2 g3
  obtain ⟨g0, g1, g2, g3⟩ := HT4.out.cells
  obtain ⟨tb, toff, htk, _, _, _, d3, _⟩ := (St.NT.tk HT4.out.tk).at (i := k) hkn
  subst htk
  rw [HNZ.out.2] at d3
  have hus := HUS.out
  generalize s.z k 3 = zz at *
  generalize s.us k rs = ub at *
  clear HUS
  have hr0 : decide (rs < 0) = false := by simp; omega
  have hr1 : 0 ≤ rs := hrr.1
  have hr2 : rs < 64 := by omega
  have hbt := hus.symm
  clear hus
  by_cases he : er = 0
  · subst he
    obtain ⟨hv, hhv⟩ : ∃ hv, heldV s1 k = hv := ⟨_, rfl⟩
    have HH : Hid (Calls Tryz.prog 18 #[.pointer (some ⟨rb, 0, none⟩), .int .i64 k] w4 (NumP w4 hv)) := by
      have := held_at (w' := w4) HT4.out.rm k
      rw [hhv] at this
      exact this
    rw [hhv] at w1 w2
    clear hhv
    cases ub with
    | false =>
      clear hu1 hu2
      go_wp2_with fail
      refine HH.out.mono ?_
      rintro e w5 ⟨rv, rfl, hnr, hb⟩
      obtain ⟨xa, xc, hform⟩ := hnr.is_form
      subst hform
      have HT5 := Lib.hid (HT4.out.below hb)
      clear hnr hb HH HT4 g0 g1 g2 g3
      obtain ⟨g0, g1, g2, g3⟩ := HT5.out.cells
      by_cases hz : hv.length = 1
      · obtain rfl := w1.out ⟨(by first | exact rfl | trivial), hz⟩
        clear w1 w2
        rw [hz]
        obtain ⟨v', w6, hrun, hpb, hl⟩ := HT5.out.app k (by omega)
        obtain ⟨oa, oc, ho⟩ := St.NR.is_form hl.od
        subst ho
        rw [show (O ++ [(k : Int)]).length = O.length + 1 by simp] at hl
        have HRUN := Lib.hid hrun
        have HL := Lib.hid hl
        have f3 : w6.frozen? ⟨pb, 0 + 3, none⟩ = false := frozen_of_row _ _ 3 _ _ (hpb.trans HT5.out.ob)
        have a3 : w6.cell? ⟨pb, 0 + 3, none⟩ = some ov := cell_of_row _ _ 3 _ _ _ (hpb.trans HT5.out.ob)
        clear hrun hl hpb
        go_wp2_with (at_builtin; refine St.wpList_append_eq rfl _ _ 41 41 rfl _ _ _ _ rfl rfl HRUN.out ?_)
        go_ret
        exact ⟨rfl, _, HL.out⟩
      · obtain rfl := w2.out (fun y => hz y.2)
        clear w1 w2
        have hz2 : ((hv.length : Int) == 1) = false := by simp; intro e; exact hz (by omega)
        have hz3 : (hv.length == 1) = false := by simpa using hz
        generalize hv.length = hvl at *
        go_wp2_with fail
        go_ret
        exact ⟨rfl, _, HT5.out⟩
    | true =>
      cases ob with
      | false =>
        clear hu1 hu2
        go_wp2_with fail
        refine HH.out.mono ?_
        rintro e w5 ⟨rv, rfl, hnr, hb⟩
        obtain ⟨xa, xc, hform⟩ := hnr.is_form
        subst hform
        have HT5 := Lib.hid (HT4.out.below hb)
        clear hnr hb HH HT4 g0 g1 g2 g3
        obtain ⟨g0, g1, g2, g3⟩ := HT5.out.cells
        by_cases hz : hv.length = 1
        · obtain rfl := w1.out ⟨(by first | exact rfl | trivial), hz⟩
          clear w1 w2
          rw [hz]
          obtain ⟨v', w6, hrun, hpb, hl⟩ := HT5.out.app k (by omega)
          obtain ⟨oa, oc, ho⟩ := St.NR.is_form hl.od
          subst ho
          rw [show (O ++ [(k : Int)]).length = O.length + 1 by simp] at hl
          have HRUN := Lib.hid hrun
          have HL := Lib.hid hl
          have f3 : w6.frozen? ⟨pb, 0 + 3, none⟩ = false := frozen_of_row _ _ 3 _ _ (hpb.trans HT5.out.ob)
          have a3 : w6.cell? ⟨pb, 0 + 3, none⟩ = some ov := cell_of_row _ _ 3 _ _ _ (hpb.trans HT5.out.ob)
          clear hrun hl hpb
          go_wp2_with (at_builtin; refine St.wpList_append_eq rfl _ _ 41 41 rfl _ _ _ _ rfl rfl HRUN.out ?_)
          go_ret
          exact ⟨rfl, _, HL.out⟩
        · obtain rfl := w2.out (fun y => hz y.2)
          clear w1 w2
          have hz2 : ((hv.length : Int) == 1) = false := by simp; intro e; exact hz (by omega)
          have hz3 : (hv.length == 1) = false := by simpa using hz
          generalize hv.length = hvl at *
          go_wp2_with fail
          go_ret
          exact ⟨rfl, _, HT5.out⟩
      | true =>
        obtain rfl := hu1 rfl rfl
        have hkk : ((k : Int) != (k : Int)) = false := by simp
        clear hu1 hu2
        go_wp2_with fail
        refine HH.out.mono ?_
        rintro e w5 ⟨rv, rfl, hnr, hb⟩
        obtain ⟨xa, xc, hform⟩ := hnr.is_form
        subst hform
        have HT5 := Lib.hid (HT4.out.below hb)
        clear hnr hb HH HT4 g0 g1 g2 g3
        obtain ⟨g0, g1, g2, g3⟩ := HT5.out.cells
        by_cases hz : hv.length = 1
        · obtain rfl := w1.out ⟨(by first | exact rfl | trivial), hz⟩
          clear w1 w2
          rw [hz]
          obtain ⟨v', w6, hrun, hpb, hl⟩ := HT5.out.app k (by omega)
          obtain ⟨oa, oc, ho⟩ := St.NR.is_form hl.od
          subst ho
          rw [show (O ++ [(k : Int)]).length = O.length + 1 by simp] at hl
          have HRUN := Lib.hid hrun
          have HL := Lib.hid hl
          have f3 : w6.frozen? ⟨pb, 0 + 3, none⟩ = false := frozen_of_row _ _ 3 _ _ (hpb.trans HT5.out.ob)
          have a3 : w6.cell? ⟨pb, 0 + 3, none⟩ = some ov := cell_of_row _ _ 3 _ _ _ (hpb.trans HT5.out.ob)
          clear hrun hl hpb
          go_wp2_with (at_builtin; refine St.wpList_append_eq rfl _ _ 41 41 rfl _ _ _ _ rfl rfl HRUN.out ?_)
          go_ret
          exact ⟨rfl, _, HL.out⟩
        · obtain rfl := w2.out (fun y => hz y.2)
          clear w1 w2
          have hz2 : ((hv.length : Int) == 1) = false := by simp; intro e; exact hz (by omega)
          have hz3 : (hv.length == 1) = false := by simpa using hz
          generalize hv.length = hvl at *
          go_wp2_with fail
          go_ret
          exact ⟨rfl, _, HT5.out⟩
  · obtain rfl := w2.out (fun y => he y.1)
    have he2 : (er == 0) = false := by simpa using he
    clear w1 w2 he
    cases ub with
    | false =>
      clear hu1 hu2
      go_wp2_with fail
      go_ret
      exact ⟨rfl, _, HT4.out⟩
    | true =>
      cases ob with
      | false =>
        have he3 : (er == 131) = false := by simpa using hu2 rfl
        clear hu1 hu2
        go_wp2_with fail
        go_ret
        exact ⟨rfl, _, HT4.out⟩
      | true =>
        obtain rfl := hu1 rfl rfl
        have hkk : ((k : Int) != (k : Int)) = false := by simp
        clear hu1 hu2
        by_cases he4 : er = 131
        · subst he4
          go_wp2_with fail
          go_ret
          exact ⟨rfl, _, HT4.out⟩
        · have he3 : (er == 131) = false := by simpa using he4
          clear he4
          go_wp2_with fail
          go_ret
          exact ⟨rfl, _, HT4.out⟩
set_option maxHeartbeats 8000000 in
theorem step_lock1 (h : PL X Q B W w pb rb tv ov s now O) (hp : Pl s now) (hO : O.length ≤ 900) (hnow : now ≤ 1000000) {x : Int} (hx0 : 0 ≤ x) (hx1 : x < 9600) (q : ¬ isRel s x) {k : Nat} (hw : who s = some (k : Int)) (g : Goes s.ev s.dl s.E s.bg (k : Int)) (hk2 : kindX x = 1) : Calls Tryz.prog 16 #[.pointer (some ⟨pb, 0, none⟩), .int .i64 x] w (PLP X Q (.bool true) B W pb rb tv (stepS s now x) (stepN s now x) (stepO s x O)) := by
  have hnow0 := hp.now0
  have hst : stepS s now x = actS s k x := by unfold stepS; rw [if_neg q, hw]
  have hso : stepO s x O = actO s k x O := by unfold stepO; rw [if_neg q, hw]
  rw [hst, show stepN s now x = now + 1 from if_neg q, hso]
  clear hst hso
  obtain ⟨ta, tcap, rfl, ht1, ht2⟩ := (St.NT.tk h.tk).slice
  have hn4 := h.rm.iv.n4
  have d1 : (x.tmod 3 == 0) = false ∨ ((x.tmod 3 == 0) = true ∧ s.n = 0) := by
    by_cases e : x.tmod 3 = 0
    · exact Or.inr ⟨by simpa using e, by have : ¬ 0 < s.n := fun y => q ⟨e, y⟩; omega⟩
    · exact Or.inl (by simpa using e)
  have hin := hp.goes_in g
  have hkn : k < s.n := by omega
  have d1 : (x.tmod 3 == 0) = false := by
    rcases d1 with d1 | ⟨_, d2⟩
    · exact d1
    · omega
  obtain ⟨m3, hm3⟩ : ∃ m3, x.tmod 3 = m3 := ⟨_, rfl⟩
  rw [hm3] at d1
  obtain ⟨y, hy, hy0, hy1⟩ : ∃ y, x.tdiv 3 = y ∧ 0 ≤ y ∧ y ≤ 3200 := ⟨_, rfl, by rw [Int.tdiv_eq_ediv_of_nonneg hx0]; omega, by rw [Int.tdiv_eq_ediv_of_nonneg hx0]; omega⟩
  have hwy : wrap64 y = y := by unfold wrap64; omega
  obtain ⟨y2, hy2, hy20, hy21⟩ : ∃ y, x.tdiv 24 = y ∧ 0 ≤ y ∧ y ≤ 400 := ⟨_, rfl, by rw [Int.tdiv_eq_ediv_of_nonneg hx0]; omega, by rw [Int.tdiv_eq_ediv_of_nonneg hx0]; omega⟩
  have hwy2 : wrap64 y2 = y2 := by unfold wrap64; omega
  have hkd : y.tmod 8 = kindX x := by rw [← hy]; rfl
  have hrs : y2.tmod 4 = resX x := by rw [← hy2]; rfl
  have hrr : 0 ≤ resX x ∧ resX x < 4 := by rw [← hrs, Int.tmod_eq_emod_of_nonneg hy20]; omega
  have HA := Lib.hid hin.2.2
  have HG := Lib.hid g
  have HP := Lib.hid hp
  have HT := Lib.hid (h.tick (now + 1))
  have hs4 : actS s k x = lockR s k (resX x) := by unfold actS; rw [if_pos (by omega)]
  obtain ⟨O', hO', w1, w2⟩ : ∃ O', actO s k x O = O' ∧ Hid (lockRE s k (resX x) = 0 ∧ (heldV (lockR s k (resX x)) k).length = 1 → O' = O ++ [(k : Int)]) ∧ Hid (¬ (lockRE s k (resX x) = 0 ∧ (heldV (lockR s k (resX x)) k).length = 1) → O' = O) := ⟨_, rfl, fun q => by unfold actO; rw [if_pos (by omega), if_pos q], fun q => by unfold actO; rw [if_pos (by omega), if_neg q]⟩
  rw [hs4, hO']
  clear hs4 hO'
  have HLF := Lib.hid (lock_facts hp g (resX x))
  have HUS := Lib.hid (us_bit (s := s) hkn hrr.1 (by omega : resX x < 8))
  obtain ⟨c0, c1, c2, c3⟩ := h.cells
  obtain ⟨e0, e1, e2, e3⟩ := HT.out.cells
  have f2 : w.frozen? ⟨pb, 0 + 2, none⟩ = false := frozen_of_row _ _ 2 _ _ h.ob
  have HW : Hid (Calls Tryz.prog 19 #[.pointer (some ⟨rb, 0, none⟩)] (w.setCell ⟨pb, 2, none⟩ (.int .i64 (now + 1))) (VB (.tuple #[.int .i64 k, .bool true]) (w.setCell ⟨pb, 2, none⟩ (.int .i64 (now + 1))))) := by
    obtain ⟨S, j⟩ := HT.out.rm.at
    have := Q.who j HT.out.rm.iv
    unfold whoV at this
    rw [hw] at this
    exact this
  generalize resX x = rs at *
  generalize kindX x = kd at *
  generalize hn : s.n = n at *
  have HN := Lib.hid hn
  have z1 : decide ((k : Int) < 0) = false := by simp
  have z2 : decide ((n : Int) ≤ (k : Int)) = false := by simp; omega
  have z3 : decide (n ≤ k) = false := by simp; omega
  clear h q hw hp hn hin g hx0 hx1 hy0 hy1 hy20 hy21
  go_enter Tryz.func16, Tryz.ntmps16
  go_wp2_with fail
  refine HW.out.mono ?_
  rintro e w2 ⟨rfl, hb⟩
  have HT2 := Lib.hid (HT.out.below hb)
  clear hb HW HT c0 c1 c2 c3 e0 e1 e2 e3 f2
  obtain ⟨g0, g1, g2, g3⟩ := HT2.out.cells
  subst hk2
  obtain ⟨oi, ob, hov, hu1, hu2⟩ := HLF.out
  go_wp2_with fail
  refine (pheld_any HT2.out rs).mono ?_
  rw [hov]
  rintro e w3 ⟨rfl, hb⟩
  have HT3 := Lib.hid (HT2.out.below hb)
  clear hb HT2 g0 g1 g2 g3 hov HLF
  obtain ⟨g0, g1, g2, g3⟩ := HT3.out.cells
  have HC : Hid (Calls Tryz.prog 22 #[.pointer (some ⟨rb, 0, none⟩), .int .i64 k, .int .i64 rs] w3 (OFP Q (.int .i64 (lockRE s k rs)) B W rb (lockR s k rs) (PF X pb (.slice ta n tcap) ov) w3)) := HT3.out.rm.wr (HT3.out.rm.iv.lock k rs) (fun S j => Q.lock j HT3.out.rm.iv k rs)
  have HNZ := Lib.hid (lockR_nz s k rs)
  generalize lockRE s k rs = er at *
  generalize lockR s k rs = s1 at *
  go_wp2_with fail
  refine HC.out.mono ?_
  rintro e w4 hq
  obtain ⟨rfl, hl⟩ := HT3.out.call hq (HNZ.out.1) HNZ.out.2
  have HT4 := Lib.hid hl
  clear hl hq HC HT3 g0 g1 g2 g3
  obtain ⟨g0, g1, g2, g3⟩ := HT4.out.cells
  obtain ⟨tb, toff, htk, _, _, _, d3, _⟩ := (St.NT.tk HT4.out.tk).at (i := k) hkn
  subst htk
  rw [HNZ.out.2] at d3
  have hus := HUS.out
  generalize s.z k 3 = zz at *
  generalize s.us k rs = ub at *
  clear HUS
  have hr0 : decide (rs < 0) = false := by simp; omega
  have hr1 : 0 ≤ rs := hrr.1
  have hr2 : rs < 64 := by omega
  have hbt := hus.symm
  clear hus
  by_cases he : er = 0
  · subst he
    obtain ⟨hv, hhv⟩ : ∃ hv, heldV s1 k = hv := ⟨_, rfl⟩
    have HH : Hid (Calls Tryz.prog 18 #[.pointer (some ⟨rb, 0, none⟩), .int .i64 k] w4 (NumP w4 hv)) := by
      have := held_at (w' := w4) HT4.out.rm k
      rw [hhv] at this
      exact this
    rw [hhv] at w1 w2
    clear hhv
    cases ub with
    | false =>
      clear hu1 hu2
      go_wp2_with fail
      refine HH.out.mono ?_
      rintro e w5 ⟨rv, rfl, hnr, hb⟩
      obtain ⟨xa, xc, hform⟩ := hnr.is_form
      subst hform
      have HT5 := Lib.hid (HT4.out.below hb)
      clear hnr hb HH HT4 g0 g1 g2 g3
      obtain ⟨g0, g1, g2, g3⟩ := HT5.out.cells
      by_cases hz : hv.length = 1
      · obtain rfl := w1.out ⟨(by first | exact rfl | trivial), hz⟩
        clear w1 w2
        rw [hz]
        obtain ⟨v', w6, hrun, hpb, hl⟩ := HT5.out.app k (by omega)
        obtain ⟨oa, oc, ho⟩ := St.NR.is_form hl.od
        subst ho
        rw [show (O ++ [(k : Int)]).length = O.length + 1 by simp] at hl
        have HRUN := Lib.hid hrun
        have HL := Lib.hid hl
        have f3 : w6.frozen? ⟨pb, 0 + 3, none⟩ = false := frozen_of_row _ _ 3 _ _ (hpb.trans HT5.out.ob)
        have a3 : w6.cell? ⟨pb, 0 + 3, none⟩ = some ov := cell_of_row _ _ 3 _ _ _ (hpb.trans HT5.out.ob)
        clear hrun hl hpb
        go_wp2_with (at_builtin; refine St.wpList_append_eq rfl _ _ 41 41 rfl _ _ _ _ rfl rfl HRUN.out ?_)
        go_ret
        exact ⟨rfl, _, HL.out⟩
      · obtain rfl := w2.out (fun y => hz y.2)
        clear w1 w2
        have hz2 : ((hv.length : Int) == 1) = false := by simp; intro e; exact hz (by omega)
        have hz3 : (hv.length == 1) = false := by simpa using hz
        generalize hv.length = hvl at *
        go_wp2_with fail
        go_ret
        exact ⟨rfl, _, HT5.out⟩
    | true =>
      cases ob with
      | false =>
        clear hu1 hu2
        go_wp2_with fail
        refine HH.out.mono ?_
        rintro e w5 ⟨rv, rfl, hnr, hb⟩
        obtain ⟨xa, xc, hform⟩ := hnr.is_form
        subst hform
        have HT5 := Lib.hid (HT4.out.below hb)
        clear hnr hb HH HT4 g0 g1 g2 g3
        obtain ⟨g0, g1, g2, g3⟩ := HT5.out.cells
        by_cases hz : hv.length = 1
        · obtain rfl := w1.out ⟨(by first | exact rfl | trivial), hz⟩
          clear w1 w2
          rw [hz]
          obtain ⟨v', w6, hrun, hpb, hl⟩ := HT5.out.app k (by omega)
          obtain ⟨oa, oc, ho⟩ := St.NR.is_form hl.od
          subst ho
          rw [show (O ++ [(k : Int)]).length = O.length + 1 by simp] at hl
          have HRUN := Lib.hid hrun
          have HL := Lib.hid hl
          have f3 : w6.frozen? ⟨pb, 0 + 3, none⟩ = false := frozen_of_row _ _ 3 _ _ (hpb.trans HT5.out.ob)
          have a3 : w6.cell? ⟨pb, 0 + 3, none⟩ = some ov := cell_of_row _ _ 3 _ _ _ (hpb.trans HT5.out.ob)
          clear hrun hl hpb
          go_wp2_with (at_builtin; refine St.wpList_append_eq rfl _ _ 41 41 rfl _ _ _ _ rfl rfl HRUN.out ?_)
          go_ret
          exact ⟨rfl, _, HL.out⟩
        · obtain rfl := w2.out (fun y => hz y.2)
          clear w1 w2
          have hz2 : ((hv.length : Int) == 1) = false := by simp; intro e; exact hz (by omega)
          have hz3 : (hv.length == 1) = false := by simpa using hz
          generalize hv.length = hvl at *
          go_wp2_with fail
          go_ret
          exact ⟨rfl, _, HT5.out⟩
      | true =>
        obtain rfl := hu1 rfl rfl
        have hkk : ((k : Int) != (k : Int)) = false := by simp
        clear hu1 hu2
        go_wp2_with fail
        refine HH.out.mono ?_
        rintro e w5 ⟨rv, rfl, hnr, hb⟩
        obtain ⟨xa, xc, hform⟩ := hnr.is_form
        subst hform
        have HT5 := Lib.hid (HT4.out.below hb)
        clear hnr hb HH HT4 g0 g1 g2 g3
        obtain ⟨g0, g1, g2, g3⟩ := HT5.out.cells
        by_cases hz : hv.length = 1
        · obtain rfl := w1.out ⟨(by first | exact rfl | trivial), hz⟩
          clear w1 w2
          rw [hz]
          obtain ⟨v', w6, hrun, hpb, hl⟩ := HT5.out.app k (by omega)
          obtain ⟨oa, oc, ho⟩ := St.NR.is_form hl.od
          subst ho
          rw [show (O ++ [(k : Int)]).length = O.length + 1 by simp] at hl
          have HRUN := Lib.hid hrun
          have HL := Lib.hid hl
          have f3 : w6.frozen? ⟨pb, 0 + 3, none⟩ = false := frozen_of_row _ _ 3 _ _ (hpb.trans HT5.out.ob)
          have a3 : w6.cell? ⟨pb, 0 + 3, none⟩ = some ov := cell_of_row _ _ 3 _ _ _ (hpb.trans HT5.out.ob)
          clear hrun hl hpb
          go_wp2_with (at_builtin; refine St.wpList_append_eq rfl _ _ 41 41 rfl _ _ _ _ rfl rfl HRUN.out ?_)
          go_ret
          exact ⟨rfl, _, HL.out⟩
        · obtain rfl := w2.out (fun y => hz y.2)
          clear w1 w2
          have hz2 : ((hv.length : Int) == 1) = false := by simp; intro e; exact hz (by omega)
          have hz3 : (hv.length == 1) = false := by simpa using hz
          generalize hv.length = hvl at *
          go_wp2_with fail
          go_ret
          exact ⟨rfl, _, HT5.out⟩
  · obtain rfl := w2.out (fun y => he y.1)
    have he2 : (er == 0) = false := by simpa using he
    clear w1 w2 he
    cases ub with
    | false =>
      clear hu1 hu2
      go_wp2_with fail
      go_ret
      exact ⟨rfl, _, HT4.out⟩
    | true =>
      cases ob with
      | false =>
        have he3 : (er == 131) = false := by simpa using hu2 rfl
        clear hu1 hu2
        go_wp2_with fail
        go_ret
        exact ⟨rfl, _, HT4.out⟩
      | true =>
        obtain rfl := hu1 rfl rfl
        have hkk : ((k : Int) != (k : Int)) = false := by simp
        clear hu1 hu2
        by_cases he4 : er = 131
        · subst he4
          go_wp2_with fail
          go_ret
          exact ⟨rfl, _, HT4.out⟩
        · have he3 : (er == 131) = false := by simpa using he4
          clear he4
          go_wp2_with fail
          go_ret
          exact ⟨rfl, _, HT4.out⟩
set_option maxHeartbeats 8000000 in
theorem step_lock2 (h : PL X Q B W w pb rb tv ov s now O) (hp : Pl s now) (hO : O.length ≤ 900) (hnow : now ≤ 1000000) {x : Int} (hx0 : 0 ≤ x) (hx1 : x < 9600) (q : ¬ isRel s x) {k : Nat} (hw : who s = some (k : Int)) (g : Goes s.ev s.dl s.E s.bg (k : Int)) (hk2 : kindX x = 2) : Calls Tryz.prog 16 #[.pointer (some ⟨pb, 0, none⟩), .int .i64 x] w (PLP X Q (.bool true) B W pb rb tv (stepS s now x) (stepN s now x) (stepO s x O)) := by
  have hnow0 := hp.now0
  have hst : stepS s now x = actS s k x := by unfold stepS; rw [if_neg q, hw]
  have hso : stepO s x O = actO s k x O := by unfold stepO; rw [if_neg q, hw]
  rw [hst, show stepN s now x = now + 1 from if_neg q, hso]
  clear hst hso
  obtain ⟨ta, tcap, rfl, ht1, ht2⟩ := (St.NT.tk h.tk).slice
  have hn4 := h.rm.iv.n4
  have d1 : (x.tmod 3 == 0) = false ∨ ((x.tmod 3 == 0) = true ∧ s.n = 0) := by
    by_cases e : x.tmod 3 = 0
    · exact Or.inr ⟨by simpa using e, by have : ¬ 0 < s.n := fun y => q ⟨e, y⟩; omega⟩
    · exact Or.inl (by simpa using e)
  have hin := hp.goes_in g
  have hkn : k < s.n := by omega
  have d1 : (x.tmod 3 == 0) = false := by
    rcases d1 with d1 | ⟨_, d2⟩
    · exact d1
    · omega
  obtain ⟨m3, hm3⟩ : ∃ m3, x.tmod 3 = m3 := ⟨_, rfl⟩
  rw [hm3] at d1
  obtain ⟨y, hy, hy0, hy1⟩ : ∃ y, x.tdiv 3 = y ∧ 0 ≤ y ∧ y ≤ 3200 := ⟨_, rfl, by rw [Int.tdiv_eq_ediv_of_nonneg hx0]; omega, by rw [Int.tdiv_eq_ediv_of_nonneg hx0]; omega⟩
  have hwy : wrap64 y = y := by unfold wrap64; omega
  obtain ⟨y2, hy2, hy20, hy21⟩ : ∃ y, x.tdiv 24 = y ∧ 0 ≤ y ∧ y ≤ 400 := ⟨_, rfl, by rw [Int.tdiv_eq_ediv_of_nonneg hx0]; omega, by rw [Int.tdiv_eq_ediv_of_nonneg hx0]; omega⟩
  have hwy2 : wrap64 y2 = y2 := by unfold wrap64; omega
  have hkd : y.tmod 8 = kindX x := by rw [← hy]; rfl
  have hrs : y2.tmod 4 = resX x := by rw [← hy2]; rfl
  have hrr : 0 ≤ resX x ∧ resX x < 4 := by rw [← hrs, Int.tmod_eq_emod_of_nonneg hy20]; omega
  have HA := Lib.hid hin.2.2
  have HG := Lib.hid g
  have HP := Lib.hid hp
  have HT := Lib.hid (h.tick (now + 1))
  have hs4 : actS s k x = lockR s k (resX x) := by unfold actS; rw [if_pos (by omega)]
  obtain ⟨O', hO', w1, w2⟩ : ∃ O', actO s k x O = O' ∧ Hid (lockRE s k (resX x) = 0 ∧ (heldV (lockR s k (resX x)) k).length = 1 → O' = O ++ [(k : Int)]) ∧ Hid (¬ (lockRE s k (resX x) = 0 ∧ (heldV (lockR s k (resX x)) k).length = 1) → O' = O) := ⟨_, rfl, fun q => by unfold actO; rw [if_pos (by omega), if_pos q], fun q => by unfold actO; rw [if_pos (by omega), if_neg q]⟩
  rw [hs4, hO']
  clear hs4 hO'
  have HLF := Lib.hid (lock_facts hp g (resX x))
  have HUS := Lib.hid (us_bit (s := s) hkn hrr.1 (by omega : resX x < 8))
  obtain ⟨c0, c1, c2, c3⟩ := h.cells
  obtain ⟨e0, e1, e2, e3⟩ := HT.out.cells
  have f2 : w.frozen? ⟨pb, 0 + 2, none⟩ = false := frozen_of_row _ _ 2 _ _ h.ob
  have HW : Hid (Calls Tryz.prog 19 #[.pointer (some ⟨rb, 0, none⟩)] (w.setCell ⟨pb, 2, none⟩ (.int .i64 (now + 1))) (VB (.tuple #[.int .i64 k, .bool true]) (w.setCell ⟨pb, 2, none⟩ (.int .i64 (now + 1))))) := by
    obtain ⟨S, j⟩ := HT.out.rm.at
    have := Q.who j HT.out.rm.iv
    unfold whoV at this
    rw [hw] at this
    exact this
  generalize resX x = rs at *
  generalize kindX x = kd at *
  generalize hn : s.n = n at *
  have HN := Lib.hid hn
  have z1 : decide ((k : Int) < 0) = false := by simp
  have z2 : decide ((n : Int) ≤ (k : Int)) = false := by simp; omega
  have z3 : decide (n ≤ k) = false := by simp; omega
  clear h q hw hp hn hin g hx0 hx1 hy0 hy1 hy20 hy21
  go_enter Tryz.func16, Tryz.ntmps16
  go_wp2_with fail
  refine HW.out.mono ?_
  rintro e w2 ⟨rfl, hb⟩
  have HT2 := Lib.hid (HT.out.below hb)
  clear hb HW HT c0 c1 c2 c3 e0 e1 e2 e3 f2
  obtain ⟨g0, g1, g2, g3⟩ := HT2.out.cells
  subst hk2
  obtain ⟨oi, ob, hov, hu1, hu2⟩ := HLF.out
  go_wp2_with fail
  refine (pheld_any HT2.out rs).mono ?_
  rw [hov]
  rintro e w3 ⟨rfl, hb⟩
  have HT3 := Lib.hid (HT2.out.below hb)
  clear hb HT2 g0 g1 g2 g3 hov HLF
  obtain ⟨g0, g1, g2, g3⟩ := HT3.out.cells
  have HC : Hid (Calls Tryz.prog 22 #[.pointer (some ⟨rb, 0, none⟩), .int .i64 k, .int .i64 rs] w3 (OFP Q (.int .i64 (lockRE s k rs)) B W rb (lockR s k rs) (PF X pb (.slice ta n tcap) ov) w3)) := HT3.out.rm.wr (HT3.out.rm.iv.lock k rs) (fun S j => Q.lock j HT3.out.rm.iv k rs)
  have HNZ := Lib.hid (lockR_nz s k rs)
  generalize lockRE s k rs = er at *
  generalize lockR s k rs = s1 at *
  go_wp2_with fail
  refine HC.out.mono ?_
  rintro e w4 hq
  obtain ⟨rfl, hl⟩ := HT3.out.call hq (HNZ.out.1) HNZ.out.2
  have HT4 := Lib.hid hl
  clear hl hq HC HT3 g0 g1 g2 g3
  obtain ⟨g0, g1, g2, g3⟩ := HT4.out.cells
  obtain ⟨tb, toff, htk, _, _, _, d3, _⟩ := (St.NT.tk HT4.out.tk).at (i := k) hkn
  subst htk
  rw [HNZ.out.2] at d3
  have hus := HUS.out
  generalize s.z k 3 = zz at *
  generalize s.us k rs = ub at *
  clear HUS
  have hr0 : decide (rs < 0) = false := by simp; omega
  have hr1 : 0 ≤ rs := hrr.1
  have hr2 : rs < 64 := by omega
  have hbt := hus.symm
  clear hus
  by_cases he : er = 0
  · subst he
    obtain ⟨hv, hhv⟩ : ∃ hv, heldV s1 k = hv := ⟨_, rfl⟩
    have HH : Hid (Calls Tryz.prog 18 #[.pointer (some ⟨rb, 0, none⟩), .int .i64 k] w4 (NumP w4 hv)) := by
      have := held_at (w' := w4) HT4.out.rm k
      rw [hhv] at this
      exact this
    rw [hhv] at w1 w2
    clear hhv
    cases ub with
    | false =>
      clear hu1 hu2
      go_wp2_with fail
      refine HH.out.mono ?_
      rintro e w5 ⟨rv, rfl, hnr, hb⟩
      obtain ⟨xa, xc, hform⟩ := hnr.is_form
      subst hform
      have HT5 := Lib.hid (HT4.out.below hb)
      clear hnr hb HH HT4 g0 g1 g2 g3
      obtain ⟨g0, g1, g2, g3⟩ := HT5.out.cells
      by_cases hz : hv.length = 1
      · obtain rfl := w1.out ⟨(by first | exact rfl | trivial), hz⟩
        clear w1 w2
        rw [hz]
        obtain ⟨v', w6, hrun, hpb, hl⟩ := HT5.out.app k (by omega)
        obtain ⟨oa, oc, ho⟩ := St.NR.is_form hl.od
        subst ho
        rw [show (O ++ [(k : Int)]).length = O.length + 1 by simp] at hl
        have HRUN := Lib.hid hrun
        have HL := Lib.hid hl
        have f3 : w6.frozen? ⟨pb, 0 + 3, none⟩ = false := frozen_of_row _ _ 3 _ _ (hpb.trans HT5.out.ob)
        have a3 : w6.cell? ⟨pb, 0 + 3, none⟩ = some ov := cell_of_row _ _ 3 _ _ _ (hpb.trans HT5.out.ob)
        clear hrun hl hpb
        go_wp2_with (at_builtin; refine St.wpList_append_eq rfl _ _ 41 41 rfl _ _ _ _ rfl rfl HRUN.out ?_)
        go_ret
        exact ⟨rfl, _, HL.out⟩
      · obtain rfl := w2.out (fun y => hz y.2)
        clear w1 w2
        have hz2 : ((hv.length : Int) == 1) = false := by simp; intro e; exact hz (by omega)
        have hz3 : (hv.length == 1) = false := by simpa using hz
        generalize hv.length = hvl at *
        go_wp2_with fail
        go_ret
        exact ⟨rfl, _, HT5.out⟩
    | true =>
      cases ob with
      | false =>
        clear hu1 hu2
        go_wp2_with fail
        refine HH.out.mono ?_
        rintro e w5 ⟨rv, rfl, hnr, hb⟩
        obtain ⟨xa, xc, hform⟩ := hnr.is_form
        subst hform
        have HT5 := Lib.hid (HT4.out.below hb)
        clear hnr hb HH HT4 g0 g1 g2 g3
        obtain ⟨g0, g1, g2, g3⟩ := HT5.out.cells
        by_cases hz : hv.length = 1
        · obtain rfl := w1.out ⟨(by first | exact rfl | trivial), hz⟩
          clear w1 w2
          rw [hz]
          obtain ⟨v', w6, hrun, hpb, hl⟩ := HT5.out.app k (by omega)
          obtain ⟨oa, oc, ho⟩ := St.NR.is_form hl.od
          subst ho
          rw [show (O ++ [(k : Int)]).length = O.length + 1 by simp] at hl
          have HRUN := Lib.hid hrun
          have HL := Lib.hid hl
          have f3 : w6.frozen? ⟨pb, 0 + 3, none⟩ = false := frozen_of_row _ _ 3 _ _ (hpb.trans HT5.out.ob)
          have a3 : w6.cell? ⟨pb, 0 + 3, none⟩ = some ov := cell_of_row _ _ 3 _ _ _ (hpb.trans HT5.out.ob)
          clear hrun hl hpb
          go_wp2_with (at_builtin; refine St.wpList_append_eq rfl _ _ 41 41 rfl _ _ _ _ rfl rfl HRUN.out ?_)
          go_ret
          exact ⟨rfl, _, HL.out⟩
        · obtain rfl := w2.out (fun y => hz y.2)
          clear w1 w2
          have hz2 : ((hv.length : Int) == 1) = false := by simp; intro e; exact hz (by omega)
          have hz3 : (hv.length == 1) = false := by simpa using hz
          generalize hv.length = hvl at *
          go_wp2_with fail
          go_ret
          exact ⟨rfl, _, HT5.out⟩
      | true =>
        obtain rfl := hu1 rfl rfl
        have hkk : ((k : Int) != (k : Int)) = false := by simp
        clear hu1 hu2
        go_wp2_with fail
        refine HH.out.mono ?_
        rintro e w5 ⟨rv, rfl, hnr, hb⟩
        obtain ⟨xa, xc, hform⟩ := hnr.is_form
        subst hform
        have HT5 := Lib.hid (HT4.out.below hb)
        clear hnr hb HH HT4 g0 g1 g2 g3
        obtain ⟨g0, g1, g2, g3⟩ := HT5.out.cells
        by_cases hz : hv.length = 1
        · obtain rfl := w1.out ⟨(by first | exact rfl | trivial), hz⟩
          clear w1 w2
          rw [hz]
          obtain ⟨v', w6, hrun, hpb, hl⟩ := HT5.out.app k (by omega)
          obtain ⟨oa, oc, ho⟩ := St.NR.is_form hl.od
          subst ho
          rw [show (O ++ [(k : Int)]).length = O.length + 1 by simp] at hl
          have HRUN := Lib.hid hrun
          have HL := Lib.hid hl
          have f3 : w6.frozen? ⟨pb, 0 + 3, none⟩ = false := frozen_of_row _ _ 3 _ _ (hpb.trans HT5.out.ob)
          have a3 : w6.cell? ⟨pb, 0 + 3, none⟩ = some ov := cell_of_row _ _ 3 _ _ _ (hpb.trans HT5.out.ob)
          clear hrun hl hpb
          go_wp2_with (at_builtin; refine St.wpList_append_eq rfl _ _ 41 41 rfl _ _ _ _ rfl rfl HRUN.out ?_)
          go_ret
          exact ⟨rfl, _, HL.out⟩
        · obtain rfl := w2.out (fun y => hz y.2)
          clear w1 w2
          have hz2 : ((hv.length : Int) == 1) = false := by simp; intro e; exact hz (by omega)
          have hz3 : (hv.length == 1) = false := by simpa using hz
          generalize hv.length = hvl at *
          go_wp2_with fail
          go_ret
          exact ⟨rfl, _, HT5.out⟩
  · obtain rfl := w2.out (fun y => he y.1)
    have he2 : (er == 0) = false := by simpa using he
    clear w1 w2 he
    cases ub with
    | false =>
      clear hu1 hu2
      go_wp2_with fail
      go_ret
      exact ⟨rfl, _, HT4.out⟩
    | true =>
      cases ob with
      | false =>
        have he3 : (er == 131) = false := by simpa using hu2 rfl
        clear hu1 hu2
        go_wp2_with fail
        go_ret
        exact ⟨rfl, _, HT4.out⟩
      | true =>
        obtain rfl := hu1 rfl rfl
        have hkk : ((k : Int) != (k : Int)) = false := by simp
        clear hu1 hu2
        by_cases he4 : er = 131
        · subst he4
          go_wp2_with fail
          go_ret
          exact ⟨rfl, _, HT4.out⟩
        · have he3 : (er == 131) = false := by simpa using he4
          clear he4
          go_wp2_with fail
          go_ret
          exact ⟨rfl, _, HT4.out⟩
end
end Go.Proofs.YtkkmfpllgjoceaaGreat.Ro
