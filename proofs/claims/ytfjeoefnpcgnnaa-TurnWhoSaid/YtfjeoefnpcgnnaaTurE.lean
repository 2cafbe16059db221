/- The document's plans. -/
import Derived.Test.YtfjeoefnpcgnnaaTurQ
import Derived.Deep.RegionHeld3
namespace Go.Proofs.Ytfjeoefnpcgnnaa.Pw
open Go.RowKit Go.Sort Pu
set_option linter.unusedVariables false
set_option maxRecDepth 100000

theorem rnew_all (p q t : Int) (w : World) : Calls Try.prog 14 #[.int .i64 p, .int .i64 q, .int .i64 t] w (fun E w' => ∃ v, E = .returned (.tuple #[v, .int .i64 (nwE p q t)]) ∧ Below w.heap.size w w') := by
  by_cases h : nwE p q t = 0
  · refine (rnew_yes w h).mono ?_
    rintro E w' ⟨rfl, _, hb⟩
    exact ⟨_, by rw [h], hb⟩
  · refine (rnew_no w h).mono ?_
    rintro E w' ⟨rfl, rfl⟩
    exact ⟨_, rfl, Below.refl _ _⟩
set_option maxHeartbeats 4000000 in
theorem rasked_any {w : World} {v u : Value} {m : Nat} {p q : Nat → Int} {bs : List Int} (h : SV w v m p q) (hb : IS w u bs) (n : Int) : Calls Try.prog 28 #[v, u, .int .i64 n] w (VB (.int .i64 (plE m p q bs n)) w) := by
  obtain ⟨a, cap, rfl, hn1, hn2⟩ := h.slice
  obtain ⟨a2, cap2, rfl, hn3, hn4⟩ := hb.slice
  have hmx : m ≤ 9223372036854775807 := by unfold maxLen at hn2; omega
  have hbx : bs.length ≤ 9223372036854775807 := by unfold maxLen at hn4; omega
  have HV := Lib.hid h
  have HU := Lib.hid hb
  clear h hb hn1 hn2 hn3 hn4
  have HB0 := Lib.hid (Below.refl w.heap.size w)
  by_cases hx : 4 < m ∨ n < 0 ∨ 1000 < n
  · rw [plE_many hx]
    by_cases h4 : 4 < m
    · have d4 : decide (4 < (m : Int)) = true := by simp; omega
      clear hx
      go_enter Try.func28, Try.ntmps28
      go_wp2_with fail
      go_ret
      exact ⟨rfl, HB0.out⟩
    · have d4 : decide (4 < (m : Int)) = false := by simp; omega
      by_cases h5 : n < 0
      · have d5 : decide (n < 0) = true := by simpa using h5
        clear hx
        go_enter Try.func28, Try.ntmps28
        go_wp2_with fail
        go_ret
        exact ⟨rfl, HB0.out⟩
      · have d5 : decide (n < 0) = false := by simp; omega
        have d6 : decide (1000 < n) = true := by simp; omega
        clear hx
        go_enter Try.func28, Try.ntmps28
        go_wp2_with fail
        go_ret
        exact ⟨rfl, HB0.out⟩
  · have d4 : decide (4 < (m : Int)) = false := by simp; omega
    have d5 : decide (n < 0) = false := by simp; omega
    have d6 : decide (1000 < n) = false := by simp; omega
    have hm4 : m ≤ 4 := by omega
    by_cases hl : bs.length = m
    · have HZ := Lib.hid (fun i hi h3 => plE_bad (p := p) (q := q) hx hl (i := i) hi h3)
      have HY := Lib.hid (plE_ok (p := p) (q := q) hx hl)
      rw [hl] at HU ⊢
      have dl : ((m : Int) != (m : Int)) = false := by simp
      clear hx hl hbx
      generalize plE m p q bs n = R at *
      go_enter Try.func28, Try.ntmps28
      go_wp2_with fail
      go_loopw [7] (fun i wr => ∃ j : Nat, j ≤ m ∧ i = .int .i64 j ∧ Hid (∀ i, i < j → okAt (p i) (q i) (bs.getD i 0)) ∧ Hid (Below w.heap.size w wr)) (fun i _ => m - (intOf i).toNat)
      case atStart => exact ⟨0, Nat.zero_le _, rfl, fun i hi => by omega, Below.refl _ _⟩
      case round =>
        obtain ⟨j, hjm, rfl, HO, HB⟩ := hrel
        by_cases hj : j < m
        · obtain ⟨g, off, ta, tn, tc, rfl, c0, c1, c2⟩ := (HV.out.below HB.out).at hj
          obtain ⟨g2, off2, rfl, e0⟩ := (HU.out.below HB.out).at hj
          have HN := Lib.hid (rnew_all (p j) (q j) 0)
          have HM := Lib.hid (nwE_at0 (p j) (q j))
          have HZj := Lib.hid (HZ.out j hj)
          have HS0 := Lib.hid (And.intro c0 c1)
          have hI : (j : Int) < (m : Int) := by omega
          have hI0 : (0 : Int) ≤ j := by omega
          have HOK : Hid (∀ bb, okAt (p j) (q j) bb → bb = bs.getD j 0 → ∀ i, i < j + 1 → okAt (p i) (q i) (bs.getD i 0)) := fun bb hbb he i hi => by
            by_cases e : i = j
            · rw [e, ← he]; exact hbb
            · exact HO.out i (by omega)
          have HE := Lib.hid (show w.heap.size ≤ wr.heap.size from HB.out.size)
          have HC := Lib.hid e0
          clear e0 HO
          generalize p j = pj at *
          generalize q j = qj at *
          go_wp2_with fail
          go_region_held3 (fun w' => w'.cell? ⟨g, off + j * 3, none⟩ = some (.int .i64 pj) ∧ w'.cell? ⟨g, off + j * 3 + 1, none⟩ = some (.int .i64 qj))
            (first | assumption | exact HS0.out | go_keep)
            (first | (go_at_call 14; refine (HN.out _).mono ?_; rintro E w5 ⟨vp, rfl, hq⟩; have HB5 := Lib.hid hq; have hS5 := And.intro ((hq.cell (lt_of_cell HS0.out.1)).trans HS0.out.1) ((hq.cell (lt_of_cell HS0.out.2)).trans HS0.out.2); clear hq))
          all_goals
            have HB6 := Lib.hid (HB.out.trans (Below.mono (show Below wr.heap.size wr w5 from (bdn wr 1).trans HB5.out) HB.out.size))
            have e5 : w5.cell? ⟨g2, off2 + j, none⟩ = some (.int .i64 (bs.getD j 0)) := ((show Below wr.heap.size wr w5 from (bdn wr 1).trans HB5.out).cell (lt_of_cell HC.out)).trans HC.out
            obtain ⟨bb, hbb⟩ : ∃ bb, bb = bs.getD j 0 := ⟨_, rfl⟩
            have HOK2 := Lib.hid (fun x => HOK.out bb x hbb)
            rw [← hbb] at e5 HZj
            clear HOK hbb HC HB5 hS5 HB
            rw [HM.out]
            by_cases hm : may pj qj
            · rw [if_pos hm]
              by_cases b1 : bb < 0
              · have db : decide (bb < 0) = true := by simpa using b1
                have hR := HZj.out (fun x => by have := x.2.1; omega)
                clear hm b1 HZj HOK2
                go_wp2_with fail
                go_ret
                exact ⟨by rw [hR]; rfl, HB6.out⟩
              · have db : decide (bb < 0) = false := by simp; omega
                by_cases b2 : 1000 < bb
                · have db2 : decide (1000 < bb) = true := by simpa using b2
                  have hR := HZj.out (fun x => by have := x.2.2; omega)
                  clear hm b1 b2 HZj HOK2
                  go_wp2_with fail
                  go_ret
                  exact ⟨by rw [hR]; rfl, HB6.out⟩
                · have db2 : decide (1000 < bb) = false := by simp; omega
                  have HF := Lib.hid (HOK2.out ⟨hm, by omega, by omega⟩)
                  clear hm b1 b2 HZj HOK2
                  go_wp2_with fail
                  go_roundw
                  case rel => exact ⟨j + 1, by omega, by go_num, HF.out, HB6.out⟩
                  case measure => simp [intOf]; omega
            · rw [if_neg hm]
              have hR := HZj.out (fun x => hm x.1)
              clear hm HZj HOK2
              go_wp2_with fail
              go_ret
              exact ⟨by rw [hR]; rfl, HB6.out⟩
        · obtain rfl : j = m := by omega
          have hR := HY.out HO.out
          clear HY HZ HO
          go_wp2_with fail
          go_ret
          exact ⟨by rw [hR]; rfl, HB.out⟩
    · have dl : ((bs.length : Int) != (m : Int)) = true := bne_iff_ne.2 (by omega)
      rw [plE_len hx hl]
      clear hx
      go_enter Try.func28, Try.ntmps28
      go_wp2_with fail
      go_ret
      exact ⟨rfl, HB0.out⟩

theorem rplan_no {w : World} {v u : Value} {m : Nat} {p q : Nat → Int} {bs : List Int} (h : SV w v m p q) (hb : IS w u bs) {n : Int} (hE : plE m p q bs n ≠ 0) : Calls Try.prog 10 #[v, u, .int .i64 n] w (VB (.tuple #[.slice none 0 0, .int .i64 (plE m p q bs n)]) w) := by
  have H := Lib.hid (rasked_any h hb n)
  have hz : (plE m p q bs n != 0) = true := by simpa using hE
  generalize plE m p q bs n = R at *
  clear h hb hE
  go_enter Try.func10, Try.ntmps10
  go_wp2_with fail
  refine H.out.mono ?_
  rintro E w1 ⟨rfl, hq⟩
  have HB := Lib.hid hq
  clear hq
  go_wp2_with fail
  go_ret2
  exact ⟨rfl, HB.out⟩
theorem infoP : (Try.prog.info? 39).map (fun i => (i.zero, i.size, i.bytes)) = some (some (.pointer none), 1, 8) := by kernel_rfl
set_option maxHeartbeats 60000000 in
theorem rplan_yes {w : World} {v u : Value} {m : Nat} {P B b : Nat → Nat} {bs : List Int} (h : SV w v m (fun i => (P i : Nat)) (fun i => (B i : Nat))) (hb : IS w u bs) (hl : bs.length = m) (hbs : ∀ i, i < m → bs.getD i 0 = (b i : Nat)) (hS : Srv m P B b) {N : Nat} (hN : N ≤ 1000) : Calls Try.prog 10 #[v, u, .int .i64 N] w (PlanP m P B b N w) := by
  have H := Lib.hid (rasked_any h hb N)
  rw [plE_ok (by obtain ⟨h1, _⟩ := hS; omega) hl (fun i hi => by
    obtain ⟨⟨q1, q2, q3, q4⟩, q5⟩ := hS.2 i hi
    rw [hbs i hi]; exact ⟨⟨⟨by omega, by omega⟩, by omega, by omega⟩, by omega, by omega⟩)] at H
  obtain ⟨a, cap, rfl, hn1, hn2⟩ := h.slice
  obtain ⟨a2, cap2, rfl, hn3, hn4⟩ := hb.slice
  rw [hl] at hb hn3 H ⊢
  have hm4 : m ≤ 4 := hS.1
  have HV := Lib.hid h
  have HU := Lib.hid hb
  have HS := Lib.hid hS.2
  have HBS := Lib.hid hbs
  have hmk := run_make_row' (P := Try.prog) 33 39 (.pointer none) 8 Try.underlying33 infoP rfl .i64 .i64 m (by omega) (by omega)
  clear h hb hS hbs hl hn1 hn2 hn3 hn4
  go_enter Try.func10, Try.ntmps10
  go_wp2_with fail
  refine H.out.mono ?_
  rintro E w1 ⟨rfl, hq⟩
  have HM := Lib.hid (PM.start (PD := DP) (T := 39) m (Nat.le_refl _) hq)
  have HA := Lib.hid (At.start (n := m) (P := P) (B := B) (b := b) (k := 0))
  clear hq H
  go_wp2_with fail
  generalize w1.alloc (.cells (madeCells #[.pointer none] m) 39) = W1 at *
  generalize w1.heap.size = g at *
  clear hmk
  go_loopw [10, 11] (fun ov i wr => ∃ (t k : Nat) (c : Nat → Nat) (s : Nat → Option St) (o : Value), t ≤ N ∧ k ≤ 5 * t ∧ i = .int .i64 t ∧ ov = o ∧ Hid (PM DP 39 w.heap.size w wr g m c s o (ticks m P B b t)) ∧ Hid (At m P B b k t 0 s)) (fun _ i _ => N - (intOf i).toNat)
  case atStart => exact ⟨0, 0, _, _, _, Nat.zero_le _, Nat.zero_le _, rfl, rfl, HM.out, HA.out⟩
  case round =>
    clear HM HA
    obtain ⟨t, k, c, s, ov, htN, hkt, rfl, hov, HM, HA⟩ := hrel
    obtain rfl := hov.symm
    by_cases ht : t < N
    · have hdt : decide ((t : Int) < (N : Int)) = true := by simp; omega
      have HBS2 := Lib.hid (fun i (hi : i < m) => HBS.out i hi)
      go_wp2_with fail
      obtain ⟨wo, rfl⟩ : ∃ wo, wo = wr := ⟨_, rfl⟩
      go_loopw [12] (fun jv W => ∃ (j k2 : Nat) (c : Nat → Nat) (s : Nat → Option St), j ≤ m ∧ k2 ≤ k + j ∧ jv = .int .i64 j ∧ Hid (PM DP 39 w.heap.size w W g m c s ov (ticks m P B b t)) ∧ Hid (At m P B b k2 t j s)) (fun jv _ => m - (intOf jv).toNat)
      case atStart => exact ⟨0, k, c, s, Nat.zero_le _, Nat.le_refl _, rfl, HM.out, HA.out⟩
      case round =>
        clear HM HA
        obtain ⟨j, k2, c2, s2, hj, hk2, rfl, HM, HA⟩ := hrel
        by_cases hjm : j < m
        · obtain ⟨g2, off2, rfl, e0⟩ := (HU.out.below HM.out.bel).at hjm
          rw [HBS.out j hjm] at e0
          obtain ⟨hPj, hbj⟩ := HS.out j hjm
          have hI : (j : Int) < (m : Int) := by omega
          have hI0 : (0 : Int) ≤ j := by omega
          have HE0 := Lib.hid e0
          rcases Nat.lt_trichotomy (b j) t with hlt | heq | hgt
          · have dn : ((b j : Int) == (t : Int)) = false := by simp; omega
            obtain ⟨x, hx, okx, te, ha⟩ := HA.out.turns hjm hlt hPj.1
            have hp := HM.out.pu j x hjm hx
            have HT := Lib.hid (rturn_any hp.1 okx (by omega) t)
            have cp : wr.cell? ⟨g, j, none⟩ = some (.pointer (some ⟨c2 j, 0, none⟩)) := by have := (HM.out.at hjm).1; unfold ptr at this; rwa [hx] at this
            have HA2 := Lib.hid ha
            have HX := Lib.hid hx
            clear HA ha hp hx hPj hlt
            generalize b j = bj at *
            go_wp2_with fail
            refine HT.out.mono ?_
            rintro E w3 ⟨rfl, hd, ho⟩
            have HM2 := Lib.hid (HM.out.op pk_doc hjm HX.out ho hd)
            clear hd ho HM HT
            go_wp2_with fail
            go_roundw
            case rel => exact ⟨j + 1, k2 + 1, c2, _, by omega, by omega, by go_num, HM2.out, HA2.out⟩
            case measure => simp [intOf]; omega
          · have dn : ((b j : Int) == (t : Int)) = true := by simp; omega
            obtain ⟨a1, ⟨a2, a3, a4⟩, a5, a6, ha⟩ := HA.out.begins hjm heq hPj (by omega)
            obtain ⟨g1, off1, ta, tn, tc, rfl, l0, l1, l2⟩ := (HV.out.below HM.out.bel).at hjm
            have HS0 := Lib.hid (And.intro l0 l1)
            have HN := Lib.hid (rnew_yes wr.drew a1)
            have HA2 := Lib.hid ha
            have HOK := Lib.hid (And.intro a4 a5)
            clear HA ha a1 a2 a3 a4 a5 a6 hPj heq
            generalize b j = bj at *
            generalize (nwS ↑(P j) ↑(B j) ↑t) = x0 at *
            generalize P j = pj at *
            generalize B j = qj at *
            go_wp2_with fail
            go_region_held3 (fun w' => w'.cell? ⟨g1, off1 + j * 3, none⟩ = some (.int .i64 (pj : Nat)) ∧ w'.cell? ⟨g1, off1 + j * 3 + 1, none⟩ = some (.int .i64 (qj : Nat)))
              (first | assumption | exact HS0.out | go_keep)
              (first | (go_at_call 14; refine HN.out.mono ?_; rintro E w5 ⟨rfl, hd5, hq5⟩; have HP5 := Lib.hid (And.intro hd5 hq5); have hS5 := And.intro ((hq5.cell (lt_of_cell HS0.out.1)).trans HS0.out.1) ((hq5.cell (lt_of_cell HS0.out.2)).trans HS0.out.2); clear hd5 hq5))
            all_goals
              have hz := (HM.out.drew pk_doc).below pk_doc HP5.out.2
              obtain ⟨z0, z1⟩ := hz.at hjm
              have HMp := Lib.hid ((HM.out.drew pk_doc).put pk_doc hjm HP5.out.2 HP5.out.1 (Nat.le_refl _) (by decide))
              have cp : (w5.setCell ⟨g, j, none⟩ (.pointer (some ⟨wr.drew.heap.size, 0, none⟩))).cell? ⟨g, j, none⟩ = some (.pointer (some ⟨wr.drew.heap.size, 0, none⟩)) := by have := (HMp.out.at hjm).1; unfold ptr at this; rwa [setS_at, setS_at] at this
              have HT := Lib.hid (rturn_any (HMp.out.pu j x0 hjm (setS_at _ _ _)).1 HOK.out.2 (by omega) t)
              rw [setS_at] at HT
              rw [HOK.out.1] at HT
              clear hz HM HN hS5
              go_wp2_with fail
              refine HT.out.mono ?_
              rintro E w6 ⟨rfl, hd, ho⟩
              have HM2 := Lib.hid (HMp.out.op pk_doc hjm (setS_at _ _ _) (by rw [setS_at]; exact ho) (by rw [setS_at]; exact hd))
              rw [show setS (setS s2 j (some x0)) j (some x0) = setS s2 j (some x0) by funext i; unfold setS; split <;> rfl] at HM2
              clear hd ho HMp HT
              go_wp2_with fail
              go_roundw
              case rel => exact ⟨j + 1, k2 + 1, _, _, by omega, by omega, by go_num, HM2.out, HA2.out⟩
              case measure => simp [intOf]; omega
          · have dn : ((b j : Int) == (t : Int)) = false := by simp; omega
            obtain ⟨hx, ha⟩ := HA.out.ahead hjm hgt
            have cp : wr.cell? ⟨g, j, none⟩ = some (.pointer none) := by have := (HM.out.at hjm).1; unfold ptr at this; rwa [hx] at this
            have HA2 := Lib.hid ha
            clear HA ha hx hPj hgt
            generalize b j = bj at *
            go_wp2_with fail
            go_roundw
            case rel => exact ⟨j + 1, k2 + 1, c2, _, by omega, by omega, by go_num, HM.out, HA2.out⟩
            case measure => simp [intOf]; omega
        · obtain rfl : j = m := by omega
          obtain ⟨hw, hok⟩ := HA.out.who
          have HW := rwho_any (HM.out.dw (by unfold maxLen; omega)) hok
          rw [show min j 4 = j by omega, hw] at HW
          have HWH := Lib.hid HW
          clear hw hok HW
          have HL := Lib.hid (ticks_len j P B b t)
          have HTS := Lib.hid (ticks_succ j P B b t)
          rcases Tu.pl_cases (n := j) (P := P) (B := B) (b := b) (t := t) with ⟨z, _⟩ | ⟨i, z, z1, _⟩
          · have HA3 := Lib.hid (HA.out.none z)
            rw [z] at HWH HTS
            clear HA z
            go_wp2_with fail
            refine HWH.out.mono ?_
            rintro E w5 ⟨rfl, hq⟩
            obtain ⟨oa, oc, w6, hrun, hpm⟩ := (HM.out.below pk_doc hq).app pk_doc (by decide) (-1) (by rw [HL.out]; omega)
            rw [← HTS.out, ticks_len] at hrun hpm
            have HRUN := Lib.hid hrun
            have HPM := Lib.hid hpm
            clear hrun hpm hq HM HWH
            go_wp2_with (at_builtin; refine wpList_append_eq rfl (.tmp 81) (.tmp 82) 23 23 rfl _ _ _ _ rfl rfl HRUN.out ?_)
            go_roundw
            case rel => exact ⟨t + 1, k2, c2, _, _, by omega, by omega, by go_num, rfl, HPM.out, HA3.out⟩
            case measure => simp [intOf]; omega
          · obtain ⟨z2, x, hx, okx, ce, ha⟩ := HA.out.runs z
            have HA3 := Lib.hid ha
            have HX := Lib.hid hx
            have HOK := Lib.hid (And.intro okx ce)
            rw [z] at HWH HTS
            have hI : (i : Int) < (j : Int) := by omega
            have hI0 : (0 : Int) ≤ i := by omega
            have dI : decide ((0 : Int) ≤ (i : Int)) = true := by simp
            have dJ : (if (i : Int) < 0 then (0 : Int) else (i : Int)) = i := if_neg (by omega)
            unfold WhoP at HWH
            rw [dI, dJ] at HWH
            clear HA z ha hx okx ce dI dJ
            go_wp2_with fail
            refine HWH.out.mono ?_
            rintro E w5 ⟨rfl, hq⟩
            have hz := HM.out.below pk_doc hq
            have cp : w5.cell? ⟨g, i, none⟩ = some (.pointer (some ⟨c2 i, 0, none⟩)) := by have := (hz.at z1).1; unfold ptr at this; rwa [HX.out] at this
            have HZ := Lib.hid hz
            have HC := Lib.hid (rcharge_any (hz.pu i x z1 HX.out).1 HOK.out.1)
            clear hq hz HM HWH
            go_wp2_with fail
            refine HC.out.mono ?_
            rintro E w6 ⟨rfl, hd, ho⟩
            obtain ⟨oa, oc, w7, hrun, hpm⟩ := (HZ.out.op pk_doc z1 HX.out ho hd).app pk_doc (by decide) i (by rw [HL.out]; omega)
            rw [← HTS.out, ticks_len] at hrun hpm
            have HRUN := Lib.hid hrun
            have HPM := Lib.hid hpm
            clear hrun hpm hd ho HZ HC
            go_wp2_with (at_builtin; refine wpList_append_eq rfl (.tmp 89) (.tmp 91) 23 23 rfl _ _ _ _ rfl rfl HRUN.out ?_)
            go_roundw
            case rel => exact ⟨t + 1, k2 + 1, c2, _, _, by omega, by omega, by go_num, rfl, HPM.out, HA3.out⟩
            case measure => simp [intOf]; omega
    · obtain rfl : t = N := by omega
      have hdt : decide ((t : Int) < (t : Int)) = false := by simp
      have hF := Lib.hid (And.intro HM.out.nr HM.out.bel)
      clear HM HA
      go_wp2_with fail
      go_ret2
      exact ⟨_, rfl, hF.out⟩

theorem rplan_ok {w : World} {v u : Value} {m : Nat} {p q : Nat → Int} {bs : List Int} (h : SV w v m p q) (hb : IS w u bs) {n : Int} (hE : plE m p q bs n = 0) : Calls Try.prog 10 #[v, u, .int .i64 n] w (PlanI m p q bs n w) := by
  obtain ⟨h1, h2, h3, h4, h5⟩ := plE_zero hE
  obtain ⟨N, rfl⟩ := Int.eq_ofNat_of_zero_le h2
  refine (rplan_yes (P := fun i => (p i).toNat) (B := fun i => (q i).toNat) (b := fun i => (bs.getD i 0).toNat) (h.congr fun i hi => ?_) hb h4 (fun i hi => ?_) ⟨h1, fun i hi => ?_⟩ (N := N) (by omega)).mono ?_
  · obtain ⟨⟨⟨a1, a2⟩, a3, a4⟩, a5, a6⟩ := h5 i hi; exact ⟨(Int.toNat_of_nonneg (by omega)).symm, (Int.toNat_of_nonneg (by omega)).symm⟩
  · obtain ⟨⟨⟨a1, a2⟩, a3, a4⟩, a5, a6⟩ := h5 i hi; exact (Int.toNat_of_nonneg a5).symm
  · obtain ⟨⟨⟨a1, a2⟩, a3, a4⟩, a5, a6⟩ := h5 i hi
    have x1 : 1 ≤ (p i).toNat := by omega
    have x2 : (p i).toNat ≤ 64 := by omega
    have x3 : 1 ≤ (q i).toNat := by omega
    have x4 : (q i).toNat ≤ (p i).toNat := by omega
    have x5 : (bs.getD i 0).toNat ≤ 1000 := by omega
    exact ⟨⟨x1, x2, x3, x4⟩, x5⟩
  · rintro E w' ⟨r, rfl, hr, hb⟩
    exact ⟨r, rfl, hr.is, hb⟩
end Go.Proofs.Ytfjeoefnpcgnnaa.Pw
