/- DelayFalls. -/
import Derived.Test.YtldnlioafneejaaDelR
namespace Go.Proofs.Ytldnlioafneejaa
open Go.RowKit Tk De Dl
set_option linter.unusedVariables false

theorem deR_yes {l : List Pn} (h : chkP l = true) {i : Nat} (hi : i < l.length) {T : Nat} : deR l i T = (del l i T (l.getD i p0).n, 0) := by
  unfold deR
  have e : ((i : Nat) : Int).toNat = i := by omega
  rw [h, if_pos rfl, if_pos (by omega), if_neg (by omega), e]
theorem waR_yes {l : List Pn} (h : chkP l = true) {i k : Nat} (hi : i < l.length) (hk : k < (l.getD i p0).n) : waR l i k = (wait l i ((l.getD i p0).z k), 0) := by
  unfold waR
  have e : ((i : Nat) : Int).toNat = i := by omega
  have e2 : ((k : Nat) : Int).toNat = k := by omega
  rw [h, if_pos rfl, e, if_pos (by omega), e2]
theorem moR_yes {l : List Pn} (h : chkP l = true) {i : Nat} (hi : i < l.length) : moR l i = (mors l i, 0) := by
  unfold moR
  have e : ((i : Nat) : Int).toNat = i := by omega
  rw [h, if_pos rfl, if_pos (by omega), e]
/-- what min and max of two naturals stand as -/
theorem min_forms (A B : Nat) : ∃ M : Nat, M = min A B ∧ min (A : Int) (B : Int) = (M : Int) ∧ (if (B : Int) < (A : Int) then (B : Int) else (A : Int)) = (M : Int) ∧ (if B < A then ((B : Nat) : Int) else (A : Int)) = (M : Int) :=
  ⟨min A B, rfl, by omega, by split <;> omega, by split <;> omega⟩
theorem max_forms (A B : Nat) : ∃ M : Nat, M = max A B ∧ max (A : Int) (B : Int) = (M : Int) ∧ (if (A : Int) < (B : Int) then (B : Int) else (A : Int)) = (M : Int) ∧ (if A < B then ((B : Nat) : Int) else (A : Int)) = (M : Int) :=
  ⟨max A B, rfl, by omega, by split <;> omega, by split <;> omega⟩
theorem falls_task {l : List Pn} (h : chkP l = true) {q T k : Nat} (hq : q < l.length) (hk : k < (l.getD q p0).n) (hT : (T : Int) < (l.getD q p0).z k 1) :
    decide (del l q T (l.getD q p0).n < (l.getD q p0).z k 4) = false ∧ decide (del l q T (l.getD q p0).n < (l.getD q p0).z k 6) = false := by
  have hb := chkP_at h hq
  have ht := hb.t k hk
  have h1 := del_ge (l := l) (q := q) (T := T) hk hT
  have h2 := del_nn (l := l) (q := q) (T := T) (l.getD q p0).n
  have h3 := wait_bd h q ((l.getD q p0).z k)
  have h4 := ht.n0
  have h5 := ht.n1
  have h6 := ht.g0
  unfold del1 at h1
  rw [decide_eq_false_iff_not, decide_eq_false_iff_not]
  by_cases hg : 0 < (l.getD q p0).z k 5
  · rw [if_pos hg] at h1
    have := h4 hg
    omega
  · rw [if_neg hg] at h1
    have := h5 (by omega)
    omega
theorem falls_zero {l : List Pn} (h : chkP l = true) {q : Nat} (hq : q < l.length) : del l q 64 (l.getD q p0).n = 0 := by
  refine del_zero fun i hi => ?_
  have := tOK_iff.1 ((chkP_at h hq).t i hi).ok
  omega
set_option maxRecDepth 100000 in
set_option maxHeartbeats 8000000 in
theorem falls_law {w : World} {v : Value} {ps : List Pn} (h : PS w v ps) (a b : Int) : Calls Try.prog 6 #[v, .int .i64 a, .int .i64 b] w (TrueB w) := by
  have HMD := Lib.hid (made_any h 4 (Nat.le_refl 4))
  have HOK := Lib.hid (ml_ok (ps := ps) (Nat.le_refl 4))
  obtain ⟨va, vc, rfl, _, _⟩ := h.slice
  generalize ml ps 4 = L at *
  generalize ps.length = pl at *
  have BA := Lib.hid (fun w => bring_bn a 70 w (by decide) (by decide))
  have BB := Lib.hid (fun w => bring_bn b 70 w (by decide) (by decide))
  generalize bn a 70 = A at *
  generalize bn b 70 = B at *
  obtain ⟨mn, hmn, n1, n2, n3⟩ := min_forms A B
  obtain ⟨mx, hmx, x1, x2, x3⟩ := max_forms A B
  have HLE : Hid ((mn : Int) ≤ mx) := by unfold Hid; omega
  clear h hmn hmx
  go_enter Try.func6, Try.ntmps6
  go_wp2_with fail
  refine HMD.out.mono ?_
  rintro e w1 ⟨r, rfl, hpw, hb⟩
  have HB := Lib.hid hb
  have hps := hpw.ps
  obtain ⟨ra, rc, rfl, l1, l2⟩ := hps.slice
  obtain ⟨n, hn⟩ : ∃ n, n = L.length := ⟨_, rfl⟩
  rw [← hn] at hps l1 ⊢
  have HN := Lib.hid hn
  have hn4 : n ≤ 4 := by rw [hn]; exact chkP_len HOK.out
  have HP := Lib.hid hps
  clear hpw hb hps HMD hn l1 l2
  go_wp2_with fail
  refine (BA.out _).mono ?_
  rintro e w' ⟨rfl, rfl⟩
  go_wp2_with fail
  refine (BB.out _).mono ?_
  rintro e w' ⟨rfl, rfl⟩
  have hnx : n ≤ 9223372036854775807 := by omega
  clear BA BB
  go_wp2_with fail
  go_loopw [7] (fun i wr => ∃ k : Nat, k ≤ n ∧ i = .int .i64 k ∧ Hid (Below w1.heap.size w1 wr)) (fun i _ => n - (intOf i).toNat)
  case atStart => exact ⟨0, by omega, rfl, Below.refl _ _⟩
  case round =>
    obtain ⟨q, hq, rfl, HW⟩ := hrel
    obtain ⟨wo, rfl⟩ : ∃ wo, wo = wr := ⟨_, rfl⟩
    by_cases hlt : q < n
    · have hql : q < L.length := by rw [← HN.out]; exact hlt
      have hqI : (q : Int) < n := by omega
      have hq0 : (0 : Int) ≤ q := by omega
      have O1 := Lib.hid (fun W (b : Below w1.heap.size w1 W) => Of_fit (deR_yes (T := mn) HOK.out hql) (HP.out.below b))
      have O2 := Lib.hid (fun W (b : Below w1.heap.size w1 W) => Of_fit (deR_yes (T := mx) HOK.out hql) (HP.out.below b))
      have O3 := Lib.hid (fun W (b : Below w1.heap.size w1 W) => Of_fit (deR_yes (T := 64) HOK.out hql) (HP.out.below b))
      have hz0 := falls_zero HOK.out hql
      have hfa := del_fall (l := L) (q := q) HLE.out (L.getD q p0).n
      have HFT := Lib.hid (fun k (hk : k < (L.getD q p0).n) (hT : (mx : Int) < (L.getD q p0).z k 1) => falls_task HOK.out hql hk hT)
      rw [show (((64 : Nat)) : Int) = 64 from rfl, hz0] at O3
      generalize del L q mn (L.getD q p0).n = X at *
      generalize del L q mx (L.getD q p0).n = Y at *
      have hyx : decide (X < Y) = false := by simp; omega
      clear hz0 hfa hql
      go_wp2_with fail
      refine (O1.out _ HW.out).mono ?_
      rintro e v1 ⟨rfl, hb⟩
      have B1 := Lib.hid (chn HW.out hb)
      clear hb O1
      go_wp2_with fail
      refine (O2.out _ B1.out).mono ?_
      rintro e v2 ⟨rfl, hb⟩
      have B2 := Lib.hid (chn B1.out hb)
      clear hb O2
      go_wp2_with fail
      refine (O3.out _ B2.out).mono ?_
      rintro e v3 ⟨rfl, hb⟩
      have B3 := Lib.hid (chn B2.out hb)
      clear hb O3 B1 B2
      go_wp2_with fail
      go_loopw [14] (fun i wr => ∃ j : Nat, j ≤ (L.getD q p0).n ∧ i = .int .i64 j ∧ Hid (Below w1.heap.size w1 wr)) (fun i _ => (L.getD q p0).n - (intOf i).toNat)
      case atStart => exact ⟨0, by omega, rfl, B3.out⟩
      case round =>
        clear B3
        obtain ⟨j, hj, rfl, HB2⟩ := hrel
        obtain ⟨b1, off, ta, tcap, rfl, d0, d1, d2, hT, t1, t2, t3⟩ := (HP.out.below HB2.out).at hlt
        obtain ⟨p, hp⟩ : ∃ p, p = L.getD q p0 := ⟨_, rfl⟩
        rw [← hp] at d0 d1 d2 hT t1 t3 HFT hj ⊢
        clear hp
        obtain ⟨per, bud, m, z⟩ := p
        dsimp only at d0 d1 d2 hT t1 t3 HFT hj ⊢
        have hmx2 : m ≤ 9223372036854775807 := by omega
        by_cases hjm : j < m
        · obtain ⟨tb, toff, rfl, c0, c1, c2, c3, c4, c5, c6, c7⟩ := hT.at hjm
          have hjI : (j : Int) < m := by omega
          have hj0 : (0 : Int) ≤ j := by omega
          have HB3 := Lib.hid (HB2.out.alloc HB2.out.size (tko (z j)))
          unfold tko at HB3
          cases hd : decide ((mx : Int) < z j 1) with
          | false =>
            clear HFT hT t1 t3
            go_wp2_with fail
            go_roundw
            case rel => exact ⟨j + 1, by omega, by go_num, HB3⟩
            case measure => simp [intOf]; omega
          | true =>
            obtain ⟨y1, y2⟩ := HFT.out j hjm (of_decide_eq_true hd)
            clear HFT hT t1 t3
            go_wp2_with fail
            go_roundw
            case rel => exact ⟨j + 1, by omega, by go_num, HB3⟩
            case measure => simp [intOf]; omega
        · obtain rfl : j = m := by omega
          clear HFT
          go_wp2_with fail
          go_roundw
          case rel => exact ⟨q + 1, by omega, by go_num, HB2⟩
          case measure => simp [intOf]; omega
    · obtain rfl : q = n := by omega
      have HWK := Lib.hid (works_any wo)
      go_wp2_with fail
      refine HWK.out.mono ?_
      rintro e v1 ⟨rfl, hb⟩
      have B1 := Lib.hid (chn HB.out (chn HW.out hb))
      clear hb HWK
      go_wp2_with fail
      go_ret
      exact ⟨rfl, B1.out⟩
end Go.Proofs.Ytldnlioafneejaa
