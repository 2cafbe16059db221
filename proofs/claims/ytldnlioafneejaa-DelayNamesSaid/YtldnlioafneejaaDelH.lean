/- Waits, Check: the document's. -/
import Derived.Test.YtldnlioafneejaaDelG
namespace Go.Proofs.Ytldnlioafneejaa
open Go.RowKit Tk De Dl Go.Sort
set_option linter.unusedVariables false

theorem wt_none {ps : List Pn} {q k : Nat} {g : Int} (h : ¬ 0 < g) : wt ps q g (k + 1) = wt ps q g k := by
  rw [wt, add1, if_neg (fun hc => h hc.1), Int.add_zero]
set_option maxRecDepth 100000 in
set_option maxHeartbeats 4000000 in
theorem rwait_any {w : World} {a : Option Addr} {m cap q : Nat} {t : Nat → Int} {ps : List Pn} (hP : PS w (.slice a m cap) ps) (hok : chkP ps = true) :
    Calls Try.prog 23 #[.slice a m cap, .int .i64 q, tv t] w (YI (wait ps q t) w) := by
  have hml := hP.len
  have hm4 : m ≤ 4 := by rw [hml]; exact chkP_len hok
  obtain ⟨R, hR⟩ : ∃ R, R = wait ps q t := ⟨_, rfl⟩
  have HR : Hid (R = wt ps q (t 5) m) := by unfold Hid; rw [hR, hml]; rfl
  rw [← hR]
  have HP := Lib.hid hP
  have HK0 := Lib.hid (heap_alloc_new w (tko t))
  have HB0 := Lib.hid ((Below.refl _ w).alloc (Nat.le_refl _) (tko t))
  have HPB : Hid (∀ i, i < m → PB (ps.getD i p0)) := fun i hi => chkP_at hok (by omega)
  have HWB : Hid (∀ i, i ≤ m → 0 ≤ wt ps q (t 5) i ∧ wt ps q (t 5) i ≤ 128 * i) := fun i hi => wt_bd hok q _ (by omega)
  have HS0 : Hid (∀ i, ¬ 0 < t 5 → wt ps q (t 5) (i + 1) = wt ps q (t 5) i) := fun i => wt_none
  have HS1 : Hid (∀ i, i = q ∨ uses (ps.getD i p0) (t 5) = false → wt ps q (t 5) (i + 1) = wt ps q (t 5) i) := fun i => wt_skip
  have HS2 : Hid (∀ i, 0 < t 5 → i ≠ q → uses (ps.getD i p0) (t 5) = true → wt ps q (t 5) (i + 1) = wt ps q (t 5) i + 2 * (ps.getD i p0).per) := fun i hg => wt_take hg
  have mixed : Try.prog.follows .mixedOrders = true := by kernel_rfl
  unfold tko at HK0 HB0
  unfold tv
  clear hR hP hok hml
  generalize t 0 = t0 at *
  generalize t 1 = t1 at *
  generalize t 2 = t2 at *
  generalize t 3 = t3 at *
  generalize t 4 = t4 at *
  generalize t 5 = g at *
  generalize t 6 = t6 at *
  generalize t 7 = t7 at *
  go_enter Try.func23, Try.ntmps23
  go_wp2_with fail
  go_loopw [7, 8] (fun s i wr => ∃ (k : Nat) (S : Int), k ≤ m ∧ i = .int .i64 k ∧ s = .int .i64 S ∧ Hid (S = wt ps q g k) ∧ Hid (wr.heap[w.heap.size]? = some (.cells #[.int .i64 t0, .int .i64 t1, .int .i64 t2, .int .i64 t3, .int .i64 t4, .int .i64 g, .int .i64 t6, .int .i64 t7] 39 (0, 0))) ∧ Hid (Below w.heap.size w wr)) (fun _ i _ => m - (intOf i).toNat)
  case atStart => exact ⟨0, 0, Nat.zero_le _, rfl, rfl, rfl, HK0.out, HB0.out⟩
  case round =>
    clear HK0 HB0
    obtain ⟨k, S, hk, rfl, rfl, HS, HK, HB⟩ := hrel
    by_cases hlt : k < m
    · obtain ⟨b, off, ta, tcap, rfl, d0, d1, d2, hT, l1, l2, l3⟩ := (HP.out.below HB.out).at hlt
      have hpb := HPB.out k hlt
      have hwb := HWB.out k hk
      rw [← HS.out] at hwb
      have hp1 := hpb.p1; have hp2 := hpb.p2
      have K0 := Lib.hid (HS0.out k); have K1 := Lib.hid (HS1.out k); have K2 := Lib.hid (HS2.out k)
      obtain ⟨p, hp⟩ : ∃ p, p = ps.getD k p0 := ⟨_, rfl⟩
      rw [← hp] at d0 d1 d2 hT l1 l3 hp1 hp2 K1 K2
      clear hp hpb
      obtain ⟨per, bud, pn, z⟩ := p
      dsimp only [uses] at d0 d1 d2 hT l1 l3 hp1 hp2 K1 K2
      have hw1 : wrap64 (2 * per) = 2 * per := by unfold wrap64; omega
      have hw2 : wrap64 (S + 2 * per) = S + 2 * per := by unfold wrap64; omega
      have hkm : (k : Int) < m := by omega
      have hk0 : (0 : Int) ≤ k := by omega
      have e5 := cell_of_row _ _ 5 _ _ _ HK.out
      change _ = some (Value.int .i64 g) at e5
      have HUS := Lib.hid (fun W (bw : Below wr.heap.size wr W) => ruses_any (w := W) (per := per) (bud := bud) (hT.below bw) l2 l3 g)
      clear hp1 hp2 hwb hT l1 l3
      have k5 := cell_regrown e5
      have k0 := cell_regrown d0; have k1 := cell_regrown d1; have k2 := cell_regrown d2
      have cQ := Lib.hid (fun d os => Calls.regrown_of (HUS.out _ (below_regrown wr d os)))
      unfold pv at cQ
      have HW : Hid (∀ W', Below wr.heap.size wr W' → W'.heap[w.heap.size]? = some (.cells #[.int .i64 t0, .int .i64 t1, .int .i64 t2, .int .i64 t3, .int .i64 t4, .int .i64 g, .int .i64 t6, .int .i64 t7] 39 (0, 0)) ∧ Below w.heap.size w W' ∧ W'.cell? ⟨b, off + k * 3, none⟩ = some (.int .i64 per)) := fun W' bw =>
        ⟨(bw.block _ (lt_of_block HK.out)).trans HK.out, HB.out.trans (bw.mono HB.out.size), (bw.cell (World.block_lt_of_cell? _ _ d0)).trans d0⟩
      clear HK HB HUS d0 d1 d2 e5
      cases hg : decide (0 < g) with
      | false =>
        have HE : Hid (S = wt ps q g (k + 1)) := HS.out.trans (K0.out (by have := of_decide_eq_false hg; omega)).symm
        clear K0 K1 K2 HS
        go_wp2_with fail
        refine wp_region_quiet_below (by assumption) (by kernel_rfl) ?_
        repeat (quiet_step (first | exact cQ.out _ _))
        refine wpQuiet_nil ?_
        intro _ hw'
        obtain ⟨⟨dq, osq⟩, hw''⟩ := hw'
        subst hw''
        obtain ⟨hK2, hB2, f0⟩ := HW.out _ (below_regrown wr dq osq)
        have HK2 := Lib.hid hK2; have HB2 := Lib.hid hB2
        clear k5 k0 k1 k2 cQ hK2 hB2 HW
        go_wp2_with fail
        go_roundw
        case rel => exact ⟨k + 1, S, by omega, by go_num, rfl, HE, HK2, HB2⟩
        case measure => simp [intOf]; omega
      | true =>
        have hg' := of_decide_eq_true hg
        by_cases hq : k = q
        · have hne : ((k : Int) != (q : Int)) = false := by simp; omega
          have HE : Hid (S = wt ps q g (k + 1)) := HS.out.trans (K1.out (Or.inl hq)).symm
          clear K0 K1 K2 HS hq
          go_wp2_with fail
          refine wp_region_quiet_below (by assumption) (by kernel_rfl) ?_
          repeat (quiet_step (first | exact cQ.out _ _))
          refine wpQuiet_nil ?_
          intro _ hw'
          obtain ⟨⟨dq, osq⟩, hw''⟩ := hw'
          subst hw''
          obtain ⟨hK2, hB2, f0⟩ := HW.out _ (below_regrown wr dq osq)
          have HK2 := Lib.hid hK2; have HB2 := Lib.hid hB2
          clear k5 k0 k1 k2 cQ hK2 hB2 HW
          go_wp2_with fail
          go_roundw
          case rel => exact ⟨k + 1, S, by omega, by go_num, rfl, HE, HK2, HB2⟩
          case measure => simp [intOf]; omega
        · have hne : ((k : Int) != (q : Int)) = true := by simp; omega
          cases hu : usesN z g pn with
          | false =>
            have HE : Hid (S = wt ps q g (k + 1)) := HS.out.trans (K1.out (Or.inr hu)).symm
            rw [hu] at cQ
            clear K0 K1 K2 HS hq hu
            go_wp2_with fail
            refine wp_region_quiet_below (by assumption) (by kernel_rfl) ?_
            repeat (quiet_step (first | exact cQ.out _ _))
            refine wpQuiet_nil ?_
            intro _ hw'
            obtain ⟨⟨dq, osq⟩, hw''⟩ := hw'
            subst hw''
            obtain ⟨hK2, hB2, f0⟩ := HW.out _ (below_regrown wr dq osq)
            have HK2 := Lib.hid hK2; have HB2 := Lib.hid hB2
            clear k5 k0 k1 k2 cQ hK2 hB2 HW
            go_wp2_with fail
            go_roundw
            case rel => exact ⟨k + 1, S, by omega, by go_num, rfl, HE, HK2, HB2⟩
            case measure => simp [intOf]; omega
          | true =>
            have HE : Hid (S + 2 * per = wt ps q g (k + 1)) := by unfold Hid; rw [K2.out hg' hq hu, ← HS.out]
            rw [hu] at cQ
            clear K0 K1 K2 HS hq hu
            go_wp2_with fail
            refine wp_region_quiet_below (by assumption) (by kernel_rfl) ?_
            repeat (quiet_step (first | exact cQ.out _ _))
            refine wpQuiet_nil ?_
            intro _ hw'
            obtain ⟨⟨dq, osq⟩, hw''⟩ := hw'
            subst hw''
            obtain ⟨hK2, hB2, f0⟩ := HW.out _ (below_regrown wr dq osq)
            have HK2 := Lib.hid hK2; have HB2 := Lib.hid hB2
            clear k5 k0 k1 k2 cQ hK2 hB2 HW
            go_wp2_with fail
            go_roundw
            case rel => exact ⟨k + 1, S + 2 * per, by omega, by go_num, by rw [hw2], HE, HK2, HB2⟩
            case measure => simp [intOf]; omega
    · obtain rfl : k = m := by omega
      go_wp2_with fail
      go_ret
      exact ⟨by rw [HR.out, HS.out]; rfl, HB.out⟩
end Go.Proofs.Ytldnlioafneejaa
