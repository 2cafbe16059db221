/- The document's Copy: the walk. -/
import Derived.Test.YthbhkcofhhkcoaaConfS
import Derived.Test.YthbhkcofhhkcoaaConfG
namespace Go.Proofs.Ythbhkcofhhkcoaa
open Go.RowKit Pk Cn
set_option linter.unusedVariables false

theorem pt_one (per bud : Int) (tv : Value) (h : tv.oneCell' = true) : ∀ u ∈ [Value.int .i64 per, .int .i64 bud, tv], u.oneCell' = true := by
  intro u hu
  simp only [List.mem_cons, List.not_mem_nil, or_false] at hu
  rcases hu with rfl | rfl | rfl
  · rfl
  · rfl
  · exact h
theorem TW.form {w : World} {B : Nat} {v : Value} {ts : List Tk} (h : TW w B v ts) : ∃ a cap, v = .slice a ts.length cap := by obtain ⟨a, cap, h1, _⟩ := h.ts.slice; exact ⟨a, cap, h1⟩
theorem PW.form {w : World} {B : Nat} {v : Value} {ps : List Pt} (h : PW w B v ps) : ∃ a cap, v = .slice a ps.length cap := by obtain ⟨a, cap, h1, _⟩ := h.ps.slice; exact ⟨a, cap, h1⟩
theorem PW.own {w : World} {B : Nat} {v : Value} {ps : List Pt} (h : PW w B v ps) : ∀ k, v.ownBlock = some k → B ≤ k ∧ k < w.heap.size := by obtain ⟨l, _, h2, _⟩ := h; exact h2.lt

set_option maxRecDepth 100000 in
set_option maxHeartbeats 4000000 in
theorem copyC_any {w : World} {C : Nat} {v : Value} {c : Cf} (h : CF w C v c) (hz : CfgSize c) : Calls Try.prog 16 #[v] w (fun e w' => ∃ v', e = .returned v' ∧ CF w' w.heap.size v' c ∧ Below w.heap.size w w') := by
  obtain ⟨i0, hi, hz0, hz1, hz2⟩ := info_parts infoPt
  obtain ⟨pv, ov, rfl, hp, ho⟩ := h
  obtain ⟨a, cap, rfl, hn1, hn2⟩ := hp.slice
  obtain ⟨ao, co, rfl, ho1, ho2⟩ := OS.slice ho
  obtain ⟨ps, os⟩ := c
  obtain ⟨hs1, hs2, hs3⟩ := hz
  dsimp only at hp ho hn1 ho1 hs1 hs2 hs3
  obtain ⟨n, hn⟩ : ∃ n, n = ps.length := ⟨_, rfl⟩
  obtain ⟨m, hm⟩ : ∃ m, m = os.length := ⟨_, rfl⟩
  rw [← hn] at hp hn1 hs1 hs3 ⊢
  rw [← hm] at ho ho1 hs2 ⊢
  have hmx : n ≤ 9223372036854775807 ∧ m ≤ 9223372036854775807 := by omega
  obtain ⟨W, hW⟩ : ∃ W, W = ((w.alloc (.cells #[.slice a n cap, .slice ao m co] 25)).alloc (.cells #[.slice none 0 0, .slice none 0 0] 25)).alloc (.cells #[.slice none 0 0, .slice none 0 0] 25) := ⟨_, rfl⟩
  obtain ⟨hx0, hx1, hx2, hwB⟩ := three_new w (.cells #[.slice a n cap, .slice ao m co] 25) (.cells #[.slice none 0 0, .slice none 0 0] 25) (.cells #[.slice none 0 0, .slice none 0 0] 25)
  rw [← hW] at hx0 hx1 hx2 hwB
  have hWs : W.heap.size = w.heap.size + 3 := by rw [hW]; simp
  have HP := Lib.hid hp; have HO := Lib.hid ho
  have HN := Lib.hid hn; have HM := Lib.hid hm; have HWB := Lib.hid hwB; have HS3 := Lib.hid hs3; have HX0 := Lib.hid hx0; have HX1 := Lib.hid hx1; have HX2 := Lib.hid hx2; have HWS := Lib.hid hWs
  clear hp ho hn hm hwB hx0 hx1 hx2 hs3 hWs
  go_enter Try.func16, Try.ntmps16
  go_wp2_with fail
  rw [← hW]
  clear hW
  go_loopw [4] (fun i wr => ∃ (k : Nat) (sv : Value), k ≤ n ∧ i = .int .i64 k ∧ Hid (PW wr W.heap.size sv (ps.take k)) ∧ Hid (wr.heap[w.heap.size + 1 + 1]? = some (.cells #[sv, .slice none 0 0] 25 (0, 0))) ∧ Hid (Only (fun b => b = w.heap.size + 1 + 1) W wr)) (fun i _ => n - (intOf i).toNat)
  case atStart => exact ⟨0, .slice none 0 0, by omega, rfl, PW.nil _ _, HX2, Only.refl _ _⟩
  case round =>
    obtain ⟨k, sv, hk, rfl, HPW, HB, HW⟩ := hrel
    have hWs := HWS.out
    have hsz := HW.out.size
    have hcb := (HW.out.block w.heap.size (by omega) (by omega)).trans HX0.out
    obtain ⟨z0, z1⟩ := pz2 hcb
    obtain ⟨y0, y1⟩ := pz2 HB.out
    have hbw : Below w.heap.size w wr := HWB.out.trans (HW.out.below (by omega) (fun b _ hb => by omega))
    have hoB : w.heap.size + 1 + 1 < wr.heap.size := by omega
    by_cases hlt : k < n
    · obtain ⟨b, off, tv, rfl, _, c1, c2, c3, hts⟩ := (HP.out.below hbw).at hlt
      have hsz3 := HS3.out k hlt
      have hkl : k < ps.length := by have := HN.out; omega
      obtain ⟨p, hpe⟩ : ∃ p, p = ps.getD k pt0 := ⟨_, rfl⟩
      rw [← hpe] at c1 c2 hts hsz3
      have HTK : Hid (ps.take (k + 1) = ps.take k ++ [p]) := by
        unfold Hid
        rw [hpe, List.take_add_one]
        simp [List.getElem?_eq_getElem hkl, List.getD]
      have HTL : Hid ((ps.take k).length = k) := by unfold Hid; rw [List.length_take]; omega
      clear hpe hkl
      obtain ⟨per, bud, ts⟩ := p
      dsimp only at c1 c2 hts hsz3
      obtain ⟨ta, tcap, rfl, t1, t2⟩ := hts.slice
      have hA := (Below.refl wr.heap.size wr).alloc (Nat.le_refl _) (.cells #[.int .i64 per, .int .i64 bud, .slice ta ts.length tcap] 28)
      obtain ⟨nv, w1, hrun, htw, hgr⟩ := app_tasks (B := W.heap.size) (TS.below hts hA) (by simp; omega) hsz3 26
      have hb1 : w1.heap[wr.heap.size]? = some (.cells #[.int .i64 per, .int .i64 bud, .slice ta ts.length tcap] 28 (0, 0)) := (hgr.block _ (by simp) (by simp)).trans (heap_alloc_new wr _)
      have f1 : w1.frozen? ⟨wr.heap.size, 2, none⟩ = false := frozen_of_row w1 _ 2 _ _ hb1
      have k1 : w1.cell? ⟨wr.heap.size, 2, none⟩ = some (.slice ta ts.length tcap) := cell_of_row w1 _ 2 _ _ _ hb1
      have hg1 : wr.grownBy w1 none := grown_trans (World.grownBy_alloc wr _ none) hgr (fun j hj => by cases hj)
      have hg2 : wr.grownBy (w1.setCell ⟨wr.heap.size, 2, none⟩ nv) none := grown_trans hg1 set_grown (fun j hj => by have := Option.some.inj hj; omega)
      have hb2 : (w1.setCell ⟨wr.heap.size, 2, none⟩ nv).heap[wr.heap.size]? = some (.cells #[.int .i64 per, .int .i64 bud, nv] 28 (0, 0)) := heap_set_same hb1
      have htw2 : TW (w1.setCell ⟨wr.heap.size, 2, none⟩ nv) W.heap.size nv ts := World.ownsRow.kept htw set_grown (Or.inr (own_ne htw hb1 (by decide)))
      obtain ⟨na, ncap, hnv⟩ := htw.form
      obtain ⟨sa, scap, hsv⟩ := HPW.out.form
      have HPW2 := Lib.hid (HPW.out.old hg2)
      have ho2 := (hg2.block (w.heap.size + 1 + 1) hoB (by simp)).trans HB.out
      have HW2 := Lib.hid (HW.out.grown hg2 (fun j hj => by cases hj))
      have hsz2 : W.heap.size ≤ (w1.setCell ⟨wr.heap.size, 2, none⟩ nv).heap.size := HW2.out.size
      have HTW2 := Lib.hid htw2; have HRUN := Lib.hid hrun; have HO2 := Lib.hid ho2
      have hoB2 : w.heap.size + 1 + 1 < (w1.setCell ⟨wr.heap.size, 2, none⟩ nv).heap.size := by omega
      rw [HTL.out] at hsv
      clear hts hsz3 hA htw hgr hg1 hg2 htw2 ho2 hrun HB HPW HW hbw hcb
      obtain ⟨p0, p1, p2⟩ := pz_of hb2
      obtain ⟨x0, x1⟩ := pz2 HO2.out
      obtain ⟨L, hL, hrow, hall⟩ := HPW2.out
      have hLk : L.length = k := by have := congrArg List.length hL; rw [List.length_map] at this; rw [this]; exact HTL.out
      have hrow' := hrow
      rw [hLk] at hrow
      have HROW := Lib.hid hrow; have HALL := Lib.hid hall; have HL := Lib.hid hL; have HLK := Lib.hid hLk
      clear hL hrow hrow' hall hLk HPW2 f1
      have f1 : w1.frozen? ⟨wr.heap.size, 2, none⟩ = false := frozen_of_row w1 _ 2 _ _ hb1
      have HB1 := Lib.hid hb1; have HB2 := Lib.hid hb2
      have hsz1 : W.heap.size ≤ w1.heap.size := by simpa [World.setCell] using hsz2
      clear hb1 hb2 hWs
      subst hnv hsv
      go_wp2_with (first
        | (at_builtin; refine wpList_append_eq rfl (.tmp 20) (.tmp 22) 26 26 rfl _ _ _ _ rfl rfl HRUN.out ?_)
        | (at_builtin; refine wpList_append_own _ rfl (.tmp 26) (.tmp 28) 22 rfl W.heap.size 28 i0 _ 3 40 Try.underlying22 hi hz0 hz1 hz2 rfl (by decide) _ _ _ rfl (World.ownsRow.alloc HROW.out _) ⟨w1.heap.size, 0, none⟩ 1 1 [.int .i64 per, .int .i64 bud, .slice na ts.length ncap] rfl rfl ?q1 ?q2 ?c3 ?c4 ?c5 ?c6))
      case q1 => exact lit_add (by simp [World.setCell]) _ _
      case q2 => exact pt_one per bud _ rfl
      case c3 => unfold maxLen; omega
      case c4 => omega
      case c5 => simp [World.setCell]; omega
      case c6 =>
        intro v' w3 hown hgrow _
        have hWs := HWS.out
        clear f1 k1 p0 p1 p2 x0 x1 y0 y1 z0 z1 c1 c2 c3
        have hoB2' : w.heap.size + 1 + 1 < w1.heap.size := by simpa [World.setCell] using hoB2
        have hne : some (w.heap.size + 1 + 1) ≠ (Value.slice sa k scap).ownBlock := fun e => by have := (HROW.out.lt _ e.symm).1; omega
        have hol := (Below.heap_alloc (w1.setCell ⟨wr.heap.size, 2, none⟩ (.slice na ts.length ncap)) (.cells #[.int .i64 per, .int .i64 bud, .slice na ts.length ncap] 28) _ hoB2).trans HO2.out
        have ho3 := (hgrow.block (w.heap.size + 1 + 1) (by simp; omega) hne).trans hol
        have f3 : w3.frozen? ⟨w.heap.size + 1 + 1, 0, none⟩ = false := frozen_of_row w3 _ 0 _ _ ho3
        have k3 : w3.cell? ⟨w.heap.size + 1 + 1, 0, none⟩ = some (.slice sa k scap) := cell_of_row w3 _ 0 _ _ _ ho3
        have hHW3 := (HW2.out.alloc (.cells #[.int .i64 per, .int .i64 bud, .slice na ts.length ncap] 28)).grown hgrow (fun j hj => (HROW.out.lt _ hj).1)
        have hpw3 : PW w3 W.heap.size v' (ps.take (k + 1)) := by
          refine ⟨L ++ [(⟨per, bud, ts⟩, .slice na ts.length ncap)], by rw [List.map_append, HL.out, HTK.out]; rfl, ?_, fun q hq => ?_⟩
          · rw [List.length_append, HLK.out, List.flatMap_append]
            clear hWs
            simpa [pcs] using hown
          · rcases List.mem_append.1 hq with hq | hq
            · exact World.ownsRow.kept (World.ownsRow.alloc (HALL.out q hq) _) hgrow (own_two (World.ownsRow.alloc (HALL.out q hq) (.cells #[.int .i64 per, .int .i64 bud, .slice na ts.length ncap] 28)) (World.ownsRow.alloc HROW.out _) (by decide))
            · rw [List.mem_singleton] at hq
              subst hq
              exact World.ownsRow.kept (World.ownsRow.alloc HTW2.out _) hgrow (own_two (World.ownsRow.alloc HTW2.out (.cells #[.int .i64 per, .int .i64 bud, .slice na ts.length ncap] 28)) (World.ownsRow.alloc HROW.out _) (by decide))
        have HPW4 : Hid (PW (w3.setCell ⟨w.heap.size + 1 + 1, 0, none⟩ v') W.heap.size v' (ps.take (k + 1))) := hpw3.set (by omega)
        have HO4 : Hid ((w3.setCell ⟨w.heap.size + 1 + 1, 0, none⟩ v').heap[w.heap.size + 1 + 1]? = some (.cells #[v', .slice none 0 0] 25 (0, 0))) := heap_set_same ho3
        have HW4 : Hid (Only (fun b => b = w.heap.size + 1 + 1) W (w3.setCell ⟨w.heap.size + 1 + 1, 0, none⟩ v')) := Only.setCell hHW3 (p := ⟨w.heap.size + 1 + 1, 0, none⟩) (Or.inl rfl) v'
        obtain ⟨va, vcap, hv'⟩ := hpw3.form
        have hl1 : (ps.take (k + 1)).length = k + 1 := by rw [HTK.out, List.length_append, HTL.out]; rfl
        rw [hl1] at hv'
        clear hl1 hown hgrow hne hol ho3 hHW3 hpw3 HROW HALL HL HTW2 HO2 HW2 HRUN HB1 HB2
        subst hv'
        go_wp2_with fail
        go_roundw
        case rel => exact ⟨k + 1, _, by omega, by go_num, HPW4, HO4, HW4⟩
        case measure => simp [intOf]; omega
    · have e : k = n := by omega
      subst e
      have hpw : PW wr W.heap.size sv ps := by have := HPW.out; rwa [HN.out, List.take_length] at this
      obtain ⟨sa, scap, hsv⟩ := hpw.form
      obtain ⟨qv, w1, hrun, hqw, hgr⟩ := app_ports (B := W.heap.size) (OS.below HO.out hbw) hsz (by rw [← HM.out]; exact hs2) 23
      have hb1 := (hgr.block (w.heap.size + 1 + 1) hoB (by simp)).trans HB.out
      have hr1 := (hgr.block (w.heap.size + 1) (by omega) (by simp)).trans ((HW.out.block (w.heap.size + 1) (by omega) (by omega)).trans HX1.out)
      have f1 : w1.frozen? ⟨w.heap.size + 1 + 1, 1, none⟩ = false := frozen_of_row w1 _ 1 _ _ hb1
      have k1 : w1.cell? ⟨w.heap.size + 1 + 1, 1, none⟩ = some (.slice none 0 0) := cell_of_row w1 _ 1 _ _ _ hb1
      have hb2 : (w1.setCell ⟨w.heap.size + 1 + 1, 1, none⟩ qv).heap[w.heap.size + 1 + 1]? = some (.cells #[sv, qv] 25 (0, 0)) := heap_set_same hb1
      have hr2 : (w1.setCell ⟨w.heap.size + 1 + 1, 1, none⟩ qv).heap[w.heap.size + 1]? = some (.cells #[.slice none 0 0, .slice none 0 0] 25 (0, 0)) := (heap_set_other (by omega)).trans hr1
      obtain ⟨x0, x1⟩ := pz2 hb2
      have g0 : (w1.setCell ⟨w.heap.size + 1 + 1, 1, none⟩ qv).frozen? ⟨w.heap.size + 1, 0, none⟩ = false := frozen_of_row _ _ 0 _ _ hr2
      have g1 : (w1.setCell ⟨w.heap.size + 1 + 1, 1, none⟩ qv).frozen? ⟨w.heap.size + 1, 1, none⟩ = false := frozen_of_row _ _ 1 _ _ hr2
      obtain ⟨r0, r1⟩ := pz2 hr2
      obtain ⟨qa, qcap, hqv, _⟩ := hqw.os.slice
      have HPS : Hid (PS (w1.setCell ⟨w.heap.size + 1 + 1, 1, none⟩ qv) W.heap.size sv ps) := ((hpw.old hgr).set (by omega)).ps
      have hqne : qv.ownBlock = none ∨ qv.ownBlock ≠ some (w.heap.size + 1 + 1) := by
        cases hv : qv.ownBlock with
        | none => exact Or.inl rfl
        | some j => exact Or.inr fun e => by have h1 := (World.ownsRow.lt hqw j hv).1; have h2 := Option.some.inj e; omega
      have hqw2 : OW (w1.setCell ⟨w.heap.size + 1 + 1, 1, none⟩ qv) W.heap.size qv os := World.ownsRow.kept hqw set_grown hqne
      have HOS := Lib.hid hqw2.os
      have hw2 := Only.setCell (HW.out.grown hgr (fun j hj => by cases hj)) (p := ⟨w.heap.size + 1 + 1, 1, none⟩) (Or.inl rfl) qv
      have HB2 : Hid (Below w.heap.size w (w1.setCell ⟨w.heap.size + 1 + 1, 1, none⟩ qv)) := HWB.out.trans (hw2.below (by omega) (fun b _ hb => by omega))
      have HRUN := Lib.hid hrun; have HR2 := Lib.hid hr2
      have hpl : ps.length = k := HN.out.symm
      have hol : os.length = m := HM.out.symm
      rw [hpl] at hsv
      rw [hol] at hqv
      clear hqne hqw2 hpw hrun hqw hgr hb1 hr1 hb2 hr2 hw2 hpl hol HPW HW hcb hbw
      subst hsv hqv
      go_wp2_with (at_builtin; refine wpList_append_eq rfl (.tmp 32) (.tmp 34) 23 23 rfl _ _ _ _ rfl rfl HRUN.out ?_)
      go_wp2_with fail
      clear g0 g1 r0 r1 x0 x1 f1 k1 z0 z1 y0 y1
      obtain ⟨e0, e1, eo⟩ := two_end (P := .slice sa k scap) (O := .slice qa m qcap) HR2.out
      refine bodyPost_ret (v := .agg #[.slice sa k scap, .slice qa m qcap]) (by simp [results, Try.results16, go_sem, e0, e1]) rfl ?_
      refine ⟨_, rfl, ⟨_, _, rfl, PS.mono (PS.keep HPS.out (Kp.only eo (fun b hb => by omega))) (by omega), OS.mono (SS.keep HOS.out (Kp.only eo (fun b hb => by omega))) (by omega)⟩, HB2.out.trans (eo.below (by have := HB2.out.size; omega) (fun b _ hb => by omega))⟩
end Go.Proofs.Ythbhkcofhhkcoaa
