/- Wait, Of, More: the document's. -/
import Derived.Test.YtldnlioafneejaaDelH
import Derived.Test.YtldnlioafneejaaDelI
namespace Go.Proofs.Ytldnlioafneejaa
open Go.RowKit Tk De Dl Go.Sort
set_option linter.unusedVariables false

theorem rcheck9_fit {w : World} {v : Value} {ps : List Pn} {E : Int} (hE : chkPE ps = E) (h : PS w v ps) : Calls Try.prog 13 #[v] w (YI E w) := by subst hE; exact rcheck9_any h
theorem chkPE_no {ps : List Pn} (h : chkP ps = false) : chkPE ps = 2 := by unfold chkPE; rw [h]; rfl
theorem chkPE_yes {ps : List Pn} (h : chkP ps = true) : chkPE ps = 0 := by unfold chkPE; rw [h]; rfl
set_option maxRecDepth 100000 in
set_option maxHeartbeats 4000000 in
theorem rWait_any {w : World} {v : Value} {ps : List Pn} (h : PS w v ps) (q k : Int) : Calls Try.prog 9 #[v, .int .i64 q, .int .i64 k] w (TwoB (waR ps q k).1 (waR ps q k).2 w) := by
  obtain ⟨a, cap, rfl, hn1, hn2⟩ := h.slice
  obtain ⟨m, hm⟩ : ∃ m, m = ps.length := ⟨_, rfl⟩
  rw [← hm] at h hn1 ⊢
  have hmx : m ≤ 9223372036854775807 := by unfold maxLen at hn2; omega
  clear hn1 hn2
  obtain ⟨X, hX⟩ : ∃ X, X = waR ps q k := ⟨_, rfl⟩
  rw [← hX]
  cases hok : chkP ps with
  | false =>
    have HC := Lib.hid (rcheck9_fit (chkPE_no hok) h)
    have HE : Hid (X = (0, 2)) := by unfold Hid; rw [hX]; unfold waR; rw [hok]; rfl
    clear hX hok h hm
    go_enter Try.func9, Try.ntmps9
    go_wp2_with fail
    refine HC.out.mono ?_
    rintro e w1 ⟨rfl, hb⟩
    have HB := Lib.hid hb
    clear hb
    go_wp2_with fail
    go_ret2
    exact ⟨by rw [HE.out]; rfl, HB.out⟩
  | true =>
    have HC := Lib.hid (rcheck9_fit (chkPE_yes hok) h)
    have HX : Hid (X = if 0 ≤ q ∧ q < m ∧ 0 ≤ k ∧ k < (ps.getD q.toNat p0).n then (wait ps q.toNat ((ps.getD q.toNat p0).z k.toNat), 0) else (0, 9)) := by unfold Hid; rw [hX]; unfold waR; rw [hok, if_pos rfl, hm]
    have HOK := Lib.hid hok
    have HP := Lib.hid h
    clear hX hok h hm
    cases h0 : decide (q < 0) with
    | true =>
      have HE : Hid (X = (0, 9)) := HX.out.trans (if_neg (fun hc => by have := of_decide_eq_true h0; omega))
      clear HX
      go_enter Try.func9, Try.ntmps9
      go_wp2_with fail
      refine HC.out.mono ?_
      rintro e w1 ⟨rfl, hb⟩
      have HB := Lib.hid hb
      clear hb
      go_wp2_with fail
      go_ret2
      exact ⟨by rw [HE.out]; rfl, HB.out⟩
    | false =>
      cases h1 : decide ((m : Int) ≤ q) with
      | true =>
        have HE : Hid (X = (0, 9)) := HX.out.trans (if_neg (fun hc => by have := of_decide_eq_true h1; omega))
        clear HX
        go_enter Try.func9, Try.ntmps9
        go_wp2_with fail
        refine HC.out.mono ?_
        rintro e w1 ⟨rfl, hb⟩
        have HB := Lib.hid hb
        clear hb
        go_wp2_with fail
        go_ret2
        exact ⟨by rw [HE.out]; rfl, HB.out⟩
      | false =>
        obtain ⟨qn, rfl⟩ : ∃ qn : Nat, q = qn := ⟨q.toNat, by have := of_decide_eq_false h0; omega⟩
        have hq : qn < m := by have := of_decide_eq_false h1; omega
        have hqm : (qn : Int) < m := by omega
        have hq0 : (0 : Int) ≤ qn := by omega
        rw [show ((qn : Int)).toNat = qn by omega] at HX
        cases h2 : decide (k < 0) with
        | true =>
          have HE : Hid (X = (0, 9)) := HX.out.trans (if_neg (fun hc => by have := of_decide_eq_true h2; omega))
          clear HX
          go_enter Try.func9, Try.ntmps9
          go_wp2_with fail
          refine HC.out.mono ?_
          rintro e w1 ⟨rfl, hb⟩
          have HB := Lib.hid hb
          clear hb
          go_wp2_with fail
          go_ret2
          exact ⟨by rw [HE.out]; rfl, HB.out⟩
        | false =>
          obtain ⟨b, off, ta, tcap, rfl, d0, d1, d2, hT, l1, l2, l3⟩ := HP.out.at hq
          obtain ⟨p, hp⟩ : ∃ p, p = ps.getD qn p0 := ⟨_, rfl⟩
          rw [← hp] at d0 d1 d2 hT l1 l3 HX
          clear hp
          obtain ⟨per, bud, n, z⟩ := p
          dsimp only at d0 d1 d2 hT l1 l3 HX
          have HT := Lib.hid hT
          have HD0 := Lib.hid d0; have HD1 := Lib.hid d1; have HD2 := Lib.hid d2
          have hnx : n ≤ 9223372036854775807 := by omega
          clear hT d0 d1 d2 l1 l3
          cases h3 : decide ((n : Int) ≤ k) with
          | true =>
            have HE : Hid (X = (0, 9)) := HX.out.trans (if_neg (fun hc => by have := of_decide_eq_true h3; omega))
            clear HX
            go_enter Try.func9, Try.ntmps9
            go_wp2_with fail
            refine HC.out.mono ?_
            rintro e w1 ⟨rfl, hb⟩
            have HB := Lib.hid hb
            have e2 := (hb.cell (World.block_lt_of_cell? _ _ HD2.out)).trans HD2.out
            clear hb
            go_wp2_with fail
            go_ret2
            exact ⟨by rw [HE.out]; rfl, HB.out⟩
          | false =>
            obtain ⟨kn, rfl⟩ : ∃ kn : Nat, k = kn := ⟨k.toNat, by have := of_decide_eq_false h2; omega⟩
            have hkn : kn < n := by have := of_decide_eq_false h3; omega
            have hkI : (kn : Int) < n := by omega
            have hk0 : (0 : Int) ≤ kn := by omega
            have HE : Hid (X = (wait ps qn (z kn), 0)) := by
              refine HX.out.trans ?_
              rw [if_pos ⟨by omega, by omega, by omega, by omega⟩, show ((kn : Int)).toNat = kn by omega]
            clear HX
            go_enter Try.func9, Try.ntmps9
            go_wp2_with fail
            refine HC.out.mono ?_
            rintro e w1 ⟨rfl, hb⟩
            have HB := Lib.hid hb
            have e2 := (hb.cell (World.block_lt_of_cell? _ _ HD2.out)).trans HD2.out
            obtain ⟨tb, toff, rfl, t0, t1, t2, t3, t4, t5, t6, t7⟩ := (HT.out.below hb).at hkn
            have HW := Lib.hid (rwait_any (q := qn) (t := z kn) (HP.out.below hb) HOK.out)
            unfold tv at HW
            clear hb
            go_wp2_with fail
            refine HW.out.mono ?_
            rintro e w2 ⟨rfl, hb2⟩
            have HB2 := Lib.hid (chn HB.out hb2)
            clear hb2 HW e2 t0 t1 t2 t3 t4 t5 t6 t7
            go_wp2_with fail
            go_ret2
            exact ⟨by rw [HE.out]; rfl, HB2.out⟩
end Go.Proofs.Ytldnlioafneejaa
