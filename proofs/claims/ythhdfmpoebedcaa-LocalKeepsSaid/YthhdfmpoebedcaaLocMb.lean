/- Partitions that are brought to be such: the walk. -/
import Derived.Test.YthhdfmpoebedcaaLocMa
namespace Go.Proofs.Ythhdfmpoebedcaa
open Go.RowKit Tk De Dl
set_option linter.unusedVariables false

theorem bring_q (a : Int) (n : Nat) (w : World) (h : 0 < n) (hn : n ≤ 1000000) : Calls Try.prog 9 #[.int .i64 a, .int .i64 n] w (fun e w' => e = .returned (.int .i64 (bn a n : Nat)) ∧ w' = w) := (bring_bn a n w h hn).mono fun _ _ h => ⟨h.1, h.2.symm⟩
theorem pt_one (per bud : Int) (tv : Value) (h : tv.oneCell' = true) : ∀ u ∈ [Value.int .i64 per, .int .i64 bud, tv], u.oneCell' = true := by
  intro u hu
  simp only [List.mem_cons, List.not_mem_nil, or_false] at hu
  rcases hu with rfl | rfl | rfl
  · rfl
  · rfl
  · exact h
theorem ones_eight (a0 a1 a2 a3 a4 a5 a6 a7 : Int) : ∀ u ∈ ([.int .i64 a0, .int .i64 a1, .int .i64 a2, .int .i64 a3, .int .i64 a4, .int .i64 a5, .int .i64 a6, .int .i64 a7] : List Value), u.oneCell' = true := by
  intro u hu
  simp only [List.mem_cons, List.not_mem_nil, or_false] at hu
  rcases hu with rfl | rfl | rfl | rfl | rfl | rfl | rfl | rfl <;> rfl
theorem i64_nat {x : Nat} (h : x ≤ 1000000) : IntKind.i64.wrap (x : Int) = x := IntWalk.i64_in _ (by omega)
theorem set_grown {w : World} {b i : Nat} {y : Value} : w.grownBy (w.setCell ⟨b, i, none⟩ y) (some b) := ⟨rfl, rfl, rfl, by simp [World.setCell], fun k hk hne => Below.heap_setCell _ _ _ _ (fun e => hne (by rw [e]))⟩
theorem step_facts {bud : Nat} (hb : 1 ≤ bud) (hb2 : bud ≤ 1000000) {x : Nat → Int} (hg0 : gG x ≠ 0) : ∃ M Dv : Nat, 0 < M ∧ M ≤ 1000000 ∧ 0 < Dv ∧ Dv ≤ 1000000 ∧
    min (bud : Int) (gB x) = (M : Int) ∧ (if (gB x : Int) < (bud : Int) then (gB x : Int) else (bud : Int)) = (M : Int) ∧ (if (bud : Int) ≤ (gB x : Int) then (bud : Int) else (gB x : Int)) = (M : Int) ∧
    (if gB x < bud then ((gB x : Nat) : Int) else (bud : Int)) = (M : Int) ∧ wrap64 ((1 : Int) + (bn (x 6) M : Nat)) = gN bud x ∧ (gB x : Int).tdiv (gN bud x : Nat) = (Dv : Int) ∧ ((gN bud x : Int) == 0) = false ∧ gN bud x ≠ 0 ∧
    IntKind.i64.wrap (Dv : Int) = Dv ∧ wrap64 (Dv : Int) = Dv ∧ wrap64 ((1 : Int) + (bn (x 7) Dv : Nat)) = gK bud x ∧ IntKind.i64.wrap ((1 : Int) + (bn (x 7) Dv : Nat)) = gK bud x := by
  have hgb := g_bd x
  obtain ⟨n1, n2, n3⟩ := gN_bd hb hg0
  obtain ⟨k0, k1, k2, k3⟩ := gK_bd hb hg0
  have eN : gN bud x = 1 + bn (x 6) (min bud (gB x)) := by unfold gN; rw [if_neg hg0]
  have eK : gK bud x = 1 + bn (x 7) (gB x / gN bud x) := by unfold gK; rw [if_neg hg0]
  have hkb : gK bud x ≤ 1000000 := by
    have h1 : 1 * gK bud x ≤ gN bud x * gK bud x := Nat.mul_le_mul_right _ n1
    omega
  have hD2 : gB x / gN bud x ≤ 1000000 := by omega
  have hnb : gN bud x ≤ 1000000 := by omega
  have f5 : (1 : Int) + (bn (x 6) (min bud (gB x)) : Nat) = (gN bud x : Nat) := by rw [eN]; exact (Int.natCast_add 1 _).symm
  have e6 : (1 : Int) + (bn (x 7) (gB x / gN bud x) : Nat) = (gK bud x : Nat) := by rw [eK]; exact (Int.natCast_add 1 _).symm
  refine ⟨min bud (gB x), gB x / gN bud x, by omega, by omega, k0, hD2, by omega, by split <;> omega, by split <;> omega, by split <;> omega, ?_, rfl, ?_, by omega, i64_nat hD2, wrap_nat hD2, ?_, ?_⟩
  · rw [f5]; exact wrap_nat hnb
  · have : (gN bud x : Int) ≠ 0 := by omega
    simpa using this
  · rw [e6]; exact wrap_nat hkb
  · rw [e6]; exact i64_nat hkb
set_option maxRecDepth 100000 in
set_option maxHeartbeats 16000000 in
theorem made_any {w : World} {v : Value} {ps : List Pn} (h : PS w v ps) (most : Nat) (hmost : most ≤ 4) :
    Calls Try.prog 7 #[v, .int .i64 most] w (fun e w' => ∃ r, e = .returned r ∧ PW w' w.heap.size r (ml ps most) ∧ Below w.heap.size w w') := by
  obtain ⟨a, cap, rfl, hn1, hn2⟩ := h.slice
  obtain ⟨m, hm⟩ : ∃ m, m = ps.length := ⟨_, rfl⟩
  rw [← hm] at h hn1 ⊢
  have HP := Lib.hid h; have HM := Lib.hid hm
  have hmx : m ≤ 9223372036854775807 := by unfold maxLen at hn2; omega
  have mixed : Try.prog.follows .mixedOrders = true := by kernel_rfl
  have HMO := Lib.hid hmost
  obtain ⟨i0, hi, hz0, hz1, hz2⟩ := info_parts infoTk
  have HI := Lib.hid (⟨hi, hz0, hz1, hz2⟩ : _ ∧ _ ∧ _ ∧ _)
  obtain ⟨i1, hj, hy0, hy1, hy2⟩ := info_parts infoPt
  have HJ := Lib.hid (⟨hj, hy0, hy1, hy2⟩ : _ ∧ _ ∧ _ ∧ _)
  clear h hm hn1 hn2 hi hz0 hz1 hz2 hj hy0 hy1 hy2
  go_enter Try.func7, Try.ntmps7
  go_wp2_with fail
  go_loopw [5, 6] (fun o i wr => ∃ k : Nat, k ≤ m ∧ k ≤ most ∧ i = .int .i64 k ∧ Hid (PW wr w.heap.size o ((ps.take k).map mk)) ∧ Hid (Below w.heap.size w wr)) (fun _ i _ => most - (intOf i).toNat)
  case atStart => exact ⟨0, by omega, by omega, rfl, PW.nil _ _, Below.refl _ _⟩
  case round =>
    rename_i o _
    obtain ⟨k, hk, hkm, rfl, HO, HB⟩ := hrel
    obtain ⟨wo, rfl⟩ : ∃ wo, wo = wr := ⟨_, rfl⟩
    by_cases hlt : k < m ∧ k < most
    · obtain ⟨hlt, hlm⟩ := hlt
      have hkI : (k : Int) < m := by omega
      have hk0 : (0 : Int) ≤ k := by omega
      have hdm : decide ((k : Int) < most) = true := by simp; omega
      obtain ⟨b1, off, ta, tcap, rfl, d0, d1, d2, hT, l1, l2, l3⟩ := (HP.out.below HB.out).at hlt
      have HSN : Hid ((ps.take (k + 1)).map mk = (ps.take k).map mk ++ [mk (ps.getD k p0)]) := mk_snoc (by rw [← HM.out]; exact hlt)
      obtain ⟨p, hp⟩ : ∃ p, p = ps.getD k p0 := ⟨_, rfl⟩
      rw [← hp] at d0 d1 d2 hT l1 l3 HSN
      have hb1 := mper_bd p
      have hb2 := mbud_bd p
      have hPle : mPer p ≤ 1000000 := by omega
      have hBle : mBud p ≤ 1000000 := by omega
      have hP0 : 0 < mPer p := by omega
      have e1 : (1 : Int) + (bn p.per 10 : Nat) = (mPer p : Int) := (Int.natCast_add 1 _).symm
      have e2 : (1 : Int) + (bn p.bud (mPer p) : Nat) = (mBud p : Int) := (Int.natCast_add 1 _).symm
      have B0 := Lib.hid (fun w => bring_bn p.per 10 w (by decide) (by decide))
      have B1 := Lib.hid (fun w => bring_q p.bud (mPer p) w hP0 hPle)
      have HMK : Hid (mk p = ⟨mPer p, mBud p, min p.n 4, fun i => mt (mBud p) (p.z i)⟩) := rfl
      clear hp
      obtain ⟨per, bud, n, z⟩ := p
      dsimp only at d0 d1 d2 hT l1 l3 e1 e2 B0 B1 HMK
      generalize mk ⟨per, bud, n, z⟩ = mkp at *
      generalize mPer ⟨per, bud, n, z⟩ = P at *
      generalize mBud ⟨per, bud, n, z⟩ = Bd at *
      have hnx : n ≤ 9223372036854775807 := by omega
      generalize bn per 10 = q0 at *
      generalize bn bud P = q1 at *
      have w1 : wrap64 ((1 : Int) + q0) = P := by rw [e1]; exact wrap_nat hPle
      have w2 : wrap64 ((1 : Int) + q1) = Bd := by rw [e2]; exact wrap_nat hBle
      have w2' : IntKind.i64.wrap ((1 : Int) + q1) = Bd := by rw [e2]; exact i64_nat hBle
      have HT := Lib.hid hT
      have D0 := Lib.hid d0; have D1 := Lib.hid d1; have D2 := Lib.hid d2
      clear hT e1 e2
      go_wp2_with fail
      refine (B0.out _).mono ?_
      rintro e w' ⟨rfl, rfl⟩
      go_wp2_with fail
      have hA := (Below.refl wo.heap.size wo).alloc (Nat.le_refl _) (.cells #[.int .i64 P, .int .i64 0, .slice none 0 0] 33)
      have hk1 := heap_alloc_new wo (.cells #[.int .i64 P, .int .i64 0, .slice none 0 0] 33)
      generalize wo.alloc (.cells #[.int .i64 P, .int .i64 0, .slice none 0 0] 33) = W1 at *
      obtain ⟨bp, hbp⟩ : ∃ bp, bp = wo.heap.size := ⟨_, rfl⟩
      rw [← hbp] at hA hk1 ⊢
      have HBP := Lib.hid hbp
      have f1 : W1.drew.cell? ⟨b1, off + k * 3 + 1, none⟩ = some (.int .i64 bud) := (hA.cell (by rw [hbp]; exact World.block_lt_of_cell? _ _ d1)).trans d1
      have f0 : W1.drew.cell? ⟨bp, 0, none⟩ = some (.int .i64 P) := cell_of_row _ _ 0 _ _ _ hk1
      have g1 : W1.cell? ⟨bp, 1, none⟩ = some (.int .i64 0) := cell_of_row _ _ 1 _ _ _ hk1
      have g2 : W1.frozen? ⟨bp, 1, none⟩ = false := frozen_of_row _ _ 1 _ _ hk1
      have HK1 := Lib.hid hk1; have HA := Lib.hid hA
      clear hbp d0 d1 d2 hA hk1
      refine wp_region_still_tail 10 mixed (by kernel_rfl) ?_
      simp only [List.take_succ_cons, List.take_zero, List.drop_succ_cons, List.drop_zero]
      change wpStill _ _ W1.drew _ _ _
      repeat still_step
      still_call (B1.out _)
      repeat still_step
      refine wpStill_nil ?_
      clear f1 f0
      go_wp2_with fail
      have HK2 : Hid ((W1.setCell ⟨bp, 1, none⟩ (.int .i64 Bd)).drew.heap[bp]? = some (.cells #[.int .i64 P, .int .i64 Bd, .slice none 0 0] 33 (0, 0))) := heap_set_same HK1.out
      have HA2 : Hid (Below bp wo (W1.setCell ⟨bp, 1, none⟩ (.int .i64 Bd)).drew) := (HA.out.setCell (p := ⟨bp, 1, none⟩) (Nat.le_refl _) _).drew
      clear HK1 HA g1 g2 B0 B1 w1 w2 w2' D0 D1
      generalize (W1.setCell ⟨bp, 1, none⟩ (.int .i64 Bd)).drew = W2 at *
      obtain ⟨zz, hzz⟩ : ∃ zz : Nat → Nat → Int, zz = fun i => mt Bd (z i) := ⟨_, rfl⟩
      have HZ : Hid (∀ i, zz i = mt Bd (z i)) := fun i => by rw [hzz]
      rw [← hzz] at HMK
      clear hzz
      go_loopw [8] (fun i wr => ∃ (j : Nat) (tv : Value), j ≤ n ∧ j ≤ 4 ∧ i = .int .i64 j ∧ Hid (wr.heap[bp]? = some (.cells #[.int .i64 P, .int .i64 Bd, tv] 33 (0, 0))) ∧ Hid (TW wr (bp + 1) tv j zz) ∧ Hid (Below bp wo wr)) (fun i _ => 4 - (intOf i).toNat)
      case atStart => exact ⟨0, .slice none 0 0, by omega, by omega, rfl, HK2.out, World.ownsRow_nil _ _ _ _, HA2.out⟩
      case round =>
        clear HK2 HA2
        obtain ⟨j, tv, hj, hj4, rfl, HK, HW, HA⟩ := hrel
        have HAo : Hid (Below wo.heap.size wo wr) := by rw [← HBP.out]; exact HA.out
        have e2 := (HAo.out.cell (World.block_lt_of_cell? _ _ D2.out)).trans D2.out
        by_cases hlt2 : j < n ∧ j < 4
        · obtain ⟨hjn, hj44⟩ := hlt2
          have hjI : (j : Int) < n := by omega
          have hj0 : (0 : Int) ≤ j := by omega
          have hd4 : decide ((j : Int) < 4) = true := by simp; omega
          obtain ⟨tb, toff, rfl, c0, c1, c2, c3, c4, c5, c6, c7⟩ := (HT.out.below HAo.out).at hjn
          obtain ⟨ta3, tcap3, rfl⟩ := HW.out.slice
          have HZJ := Lib.hid (HZ.out j)
          obtain ⟨x, hx⟩ : ∃ x, x = z j := ⟨_, rfl⟩
          rw [← hx] at c0 c1 c2 c3 c4 c5 c6 c7 HZJ
          clear hx
          obtain ⟨g1, g2, g3, g4, g5, g6, g7, g8⟩ := g_bd x
          have i1 : gP x ≤ 1000000 := by omega
          have i2 : gD x ≤ 1000000 := by omega
          have i3 : gB x ≤ 1000000 := by omega
          have i3' : gB x + 1 ≤ 1000000 := by omega
          have q1 : (1 : Int) + (bn (x 0) 48 : Nat) = (gP x : Int) := (Int.natCast_add 1 _).symm
          have q2 : (1 : Int) + (bn (x 1) (gP x) : Nat) = (gD x : Int) := (Int.natCast_add 1 _).symm
          have q3 : (1 : Int) + (bn (x 2) (gD x) : Nat) = (gB x : Int) := (Int.natCast_add 1 _).symm
          have q4 : ((gB x : Int) + 1) = ((gB x + 1 : Nat) : Int) := (Int.natCast_add _ 1).symm
          have Q0 := Lib.hid (fun w => bring_bn (x 0) 48 w (by decide) (by decide))
          have Q1 := Lib.hid (fun w => bring_bn (x 1) (gP x) w g1 i1)
          have Q2 := Lib.hid (fun w => bring_bn (x 2) (gD x) w g3 i2)
          have Q3 := Lib.hid (fun w => bring_bn (x 4) (gB x + 1) w (Nat.succ_pos _) i3')
          have Q4 := Lib.hid (fun w => bring_bn (x 5) 5 w (by decide) (by decide))
          have v1 : wrap64 ((1 : Int) + (bn (x 0) 48 : Nat)) = gP x := by rw [q1]; exact wrap_nat i1
          have v2 : wrap64 ((1 : Int) + (bn (x 1) (gP x) : Nat)) = gD x := by rw [q2]; exact wrap_nat i2
          have v3 : wrap64 ((1 : Int) + (bn (x 2) (gD x) : Nat)) = gB x := by rw [q3]; exact wrap_nat i3
          have v4 : wrap64 ((gB x : Int) + 1) = (gB x + 1 : Nat) := by rw [q4]; exact wrap_nat i3'
          have hL : gL x = bn (x 4) (gB x + 1) := rfl
          have hG : gG x = bn (x 5) 5 := rfl
          rw [← hL] at Q3
          rw [← hG] at Q4
          have F1 : ∀ o1 o2, ((wr.alloc o1).alloc o2).cell? ⟨bp, 1, none⟩ = some (.int .i64 Bd) := fun o1 o2 => ((((Below.refl _ wr).alloc (Nat.le_refl _) o1).alloc (by simp) o2).cell (p := ⟨bp, 1, none⟩) (lt_of_block HK.out)).trans (cell_of_row _ _ 1 _ _ _ HK.out)
          have F2 : ∀ o1 o2, ((wr.alloc o1).alloc o2).cell? ⟨bp, 2, none⟩ = some (.slice ta3 j tcap3) := fun o1 o2 => ((((Below.refl _ wr).alloc (Nat.le_refl _) o1).alloc (by simp) o2).cell (p := ⟨bp, 2, none⟩) (lt_of_block HK.out)).trans (cell_of_row _ _ 2 _ _ _ HK.out)
          have Hm1 : Hid (j + 1 ≤ maxLen) := by unfold Hid maxLen; omega
          have Hm2 : Hid ((j + 1) * 64 ≤ 140737488355328) := by unfold Hid; omega
          have HBS : Hid (bp + 1 ≤ wr.heap.size) := lt_of_block HK.out
          have HG8 := Lib.hid g8
          have HB3 : Hid (1 ≤ gB x) := g5
          have HB4 : Hid (1 ≤ Bd) := hb2.1
          clear g1 g2 g3 g4 g5 g6 g7 g8 i2 hL hG q1 q2 q3 q4
          go_wp2_with fail
          refine (Q0.out _).mono ?_
          rintro e w' ⟨rfl, rfl⟩
          go_wp2_with fail
          refine (Q1.out _).mono ?_
          rintro e w' ⟨rfl, rfl⟩
          go_wp2_with fail
          refine (Q2.out _).mono ?_
          rintro e w' ⟨rfl, rfl⟩
          go_wp2_with fail
          refine (Q3.out _).mono ?_
          rintro e w' ⟨rfl, rfl⟩
          go_wp2_with fail
          refine (Q4.out _).mono ?_
          rintro e w' ⟨rfl, rfl⟩
          by_cases hg0 : gG x = 0
          · have hd0 : decide ((0 : Int) < (gG x : Int)) = false := by rw [hg0]; rfl
            have hd1 : decide (0 < gG x) = false := by rw [hg0]; rfl
            have HROW : Hid (zrow (mt Bd x) = [.int .i64 (gP x), .int .i64 (gD x), .int .i64 (gB x), .int .i64 0, .int .i64 (gL x), .int .i64 (gG x), .int .i64 0, .int .i64 0]) := by
              have n1 : gN Bd x = 0 := by unfold gN; rw [if_pos hg0]
              have n2 : gK Bd x = 0 := by unfold gK; rw [if_pos hg0]
              unfold Hid zrow
              show [Value.int .i64 (gP x), .int .i64 (gD x), .int .i64 (gB x), .int .i64 0, .int .i64 (gL x), .int .i64 (gG x), .int .i64 (gN Bd x), .int .i64 (gK Bd x)] = _
              rw [n1, n2]
              rfl
            have HWX := Lib.hid (World.ownsRow.alloc (World.ownsRow.alloc HW.out (.cells #[.int .i64 (x 0), .int .i64 (x 1), .int .i64 (x 2), .int .i64 (x 3), .int .i64 (x 4), .int .i64 (x 5), .int .i64 (x 6), .int .i64 (x 7)] 36)) (.cells #[.int .i64 (gP x), .int .i64 (gD x), .int .i64 (gB x), .int .i64 0, .int .i64 (gL x), .int .i64 (gG x), .int .i64 0, .int .i64 0] 36))
            have HKX : Hid (((wr.alloc (.cells #[.int .i64 (x 0), .int .i64 (x 1), .int .i64 (x 2), .int .i64 (x 3), .int .i64 (x 4), .int .i64 (x 5), .int .i64 (x 6), .int .i64 (x 7)] 36)).alloc (.cells #[.int .i64 (gP x), .int .i64 (gD x), .int .i64 (gB x), .int .i64 0, .int .i64 (gL x), .int .i64 (gG x), .int .i64 0, .int .i64 0] 36)).heap[bp]? = some (.cells #[.int .i64 P, .int .i64 Bd, .slice ta3 j tcap3] 33 (0, 0))) := ((((Below.refl _ wr).alloc (Nat.le_refl _) _).alloc (by simp) _).block _ (lt_of_block HK.out)).trans HK.out
            have HAX : Hid (Below bp wo ((wr.alloc (.cells #[.int .i64 (x 0), .int .i64 (x 1), .int .i64 (x 2), .int .i64 (x 3), .int .i64 (x 4), .int .i64 (x 5), .int .i64 (x 6), .int .i64 (x 7)] 36)).alloc (.cells #[.int .i64 (gP x), .int .i64 (gD x), .int .i64 (gB x), .int .i64 0, .int .i64 (gL x), .int .i64 (gG x), .int .i64 0, .int .i64 0] 36))) := (HA.out.alloc (Nat.le_of_lt HBS.out) _).alloc (by rw [World.size_alloc]; have := HBS.out; omega) _
            clear F1 hg0 HK HW HA HAo
            go_wp2_with (at_builtin; refine wpList_append_own _ rfl _ _ 31 rfl (bp + 1) 36 i0 (.agg #[.int .i64 0, .int .i64 0, .int .i64 0, .int .i64 0, .int .i64 0, .int .i64 0, .int .i64 0, .int .i64 0]) 8 64 Try.underlying31 HI.out.1 HI.out.2.1 HI.out.2.2.1 HI.out.2.2.2 rfl (by decide) _ j _ rfl (World.ownsRow.alloc HWX.out _) ⟨wr.heap.size + 1 + 1, 0, none⟩ 1 1 [.int .i64 (gP x), .int .i64 (gD x), .int .i64 (gB x), .int .i64 0, .int .i64 (gL x), .int .i64 (gG x), .int .i64 0, .int .i64 0] rfl rfl (lit_add (by simp) _ _) (ones_eight _ _ _ _ _ _ _ _) Hm1.out Hm2.out (by have := HBS.out; simp; omega) ?_)
            intro v' w5 hown hgrow _
            have hown2 : w5.ownsRow (bp + 1) 36 8 v' (j + 1) (zflat zz (j + 1)) := by
              rw [show zflat zz (j + 1) = zflat zz j ++ zrow (zz j) from rfl, HZJ.out, HROW.out]; exact hown
            have hsz5 : bp < (((wr.alloc (.cells #[.int .i64 (x 0), .int .i64 (x 1), .int .i64 (x 2), .int .i64 (x 3), .int .i64 (x 4), .int .i64 (x 5), .int .i64 (x 6), .int .i64 (x 7)] 36)).alloc (.cells #[.int .i64 (gP x), .int .i64 (gD x), .int .i64 (gB x), .int .i64 0, .int .i64 (gL x), .int .i64 (gG x), .int .i64 0, .int .i64 0] 36)).alloc (.cells #[.int .i64 (gP x), .int .i64 (gD x), .int .i64 (gB x), .int .i64 0, .int .i64 (gL x), .int .i64 (gG x), .int .i64 0, .int .i64 0] 36)).heap.size := by rw [World.size_alloc]; exact Nat.lt_succ_of_lt (lt_of_block HKX.out)
            have hgrow : (((wr.alloc (.cells #[.int .i64 (x 0), .int .i64 (x 1), .int .i64 (x 2), .int .i64 (x 3), .int .i64 (x 4), .int .i64 (x 5), .int .i64 (x 6), .int .i64 (x 7)] 36)).alloc (.cells #[.int .i64 (gP x), .int .i64 (gD x), .int .i64 (gB x), .int .i64 0, .int .i64 (gL x), .int .i64 (gG x), .int .i64 0, .int .i64 0] 36)).alloc (.cells #[.int .i64 (gP x), .int .i64 (gD x), .int .i64 (gB x), .int .i64 0, .int .i64 (gL x), .int .i64 (gG x), .int .i64 0, .int .i64 0] 36)).grownBy w5 _ := hgrow
            have hk5 := (hgrow.block bp hsz5 (fun e => by have := (HWX.out.lt _ e.symm).1; omega)).trans ((Below.heap_alloc _ (.cells #[.int .i64 (gP x), .int .i64 (gD x), .int .i64 (gB x), .int .i64 0, .int .i64 (gL x), .int .i64 (gG x), .int .i64 0, .int .i64 0] 36) _ (lt_of_block HKX.out)).trans HKX.out)
            have ha5 := (HAX.out.alloc (Nat.le_of_lt (lt_of_block HKX.out)) (.cells #[.int .i64 (gP x), .int .i64 (gD x), .int .i64 (gB x), .int .i64 0, .int .i64 (gL x), .int .i64 (gG x), .int .i64 0, .int .i64 0] 36)).grown hgrow (Nat.le_of_lt hsz5) (fun q hq => by have := (HWX.out.lt q hq).1; omega)
            obtain ⟨ta5, tcap5, rfl⟩ := TW.slice hown2
            have r1 : w5.cell? ⟨bp, 2, none⟩ = some (.slice ta3 j tcap3) := cell_of_row _ _ 2 _ _ _ hk5
            have r2 : w5.frozen? ⟨bp, 2, none⟩ = false := frozen_of_row _ _ 2 _ _ hk5
            have HK6 : Hid ((w5.setCell ⟨bp, 2, none⟩ (.slice ta5 (j + 1) tcap5)).heap[bp]? = some (.cells #[.int .i64 P, .int .i64 Bd, .slice ta5 (j + 1) tcap5] 33 (0, 0))) := heap_set_same hk5
            have HW6 : Hid (TW (w5.setCell ⟨bp, 2, none⟩ (.slice ta5 (j + 1) tcap5)) (bp + 1) (.slice ta5 (j + 1) tcap5) (j + 1) zz) := hown2.kept set_grown (by
              cases e : (Value.slice ta5 (j + 1) tcap5).ownBlock with
              | none => exact Or.inl rfl
              | some b => exact Or.inr (fun e6 => by have h7 := (hown2.lt _ e).1; have := Option.some.inj e6; omega))
            have HA6 : Hid (Below bp wo (w5.setCell ⟨bp, 2, none⟩ (.slice ta5 (j + 1) tcap5))) := ha5.setCell (p := ⟨bp, 2, none⟩) (Nat.le_refl _) _
            clear hown hgrow hown2 hk5 ha5 hsz5 HWX HAX HKX
            go_wp2_with fail
            go_roundw
            case rel => exact ⟨j + 1, _, by omega, by omega, by go_num, HK6, HW6, HA6⟩
            case measure => simp [intOf]; omega
          · have hd1 : decide (0 < gG x) = true := decide_eq_true (Nat.pos_of_ne_zero hg0)
            have hd0 : decide ((0 : Int) < (gG x : Int)) = true := decide_eq_true (Int.natCast_pos.2 (Nat.pos_of_ne_zero hg0))
            have HROW : Hid (zrow (mt Bd x) = [.int .i64 (gP x), .int .i64 (gD x), .int .i64 (gB x), .int .i64 0, .int .i64 (gL x), .int .i64 (gG x), .int .i64 (gN Bd x), .int .i64 (gK Bd x)]) := rfl
            obtain ⟨M, Dv, hM1, hM2, hD1, hD2, m1, m2, m3, m4, v5, qd, qz, qz2, qw, qw2, v6, v7⟩ := step_facts HB4.out hBle hg0
            have Q5 := Lib.hid (fun w => bring_bn (x 6) M w hM1 hM2)
            have Q6 := Lib.hid (fun w => bring_q (x 7) Dv w hD1 hD2)
            clear hM1 hM2 hD1 hD2 hg0
            go_wp2_with fail
            refine (Q5.out _).mono ?_
            rintro e w' ⟨rfl, rfl⟩
            go_wp2_with fail
            have hB3 : Below wr.heap.size wr ((wr.alloc (.cells #[.int .i64 (x 0), .int .i64 (x 1), .int .i64 (x 2), .int .i64 (x 3), .int .i64 (x 4), .int .i64 (x 5), .int .i64 (x 6), .int .i64 (x 7)] 36)).alloc (.cells #[.int .i64 (gP x), .int .i64 (gD x), .int .i64 (gB x), .int .i64 0, .int .i64 (gL x), .int .i64 (gG x), .int .i64 (gN Bd x), .int .i64 0] 36)) := ((Below.refl _ wr).alloc (Nat.le_refl _) _).alloc (by simp) _
            have h10 := heap_alloc_new (wr.alloc (.cells #[.int .i64 (x 0), .int .i64 (x 1), .int .i64 (x 2), .int .i64 (x 3), .int .i64 (x 4), .int .i64 (x 5), .int .i64 (x 6), .int .i64 (x 7)] 36)) (.cells #[.int .i64 (gP x), .int .i64 (gD x), .int .i64 (gB x), .int .i64 0, .int .i64 (gL x), .int .i64 (gG x), .int .i64 (gN Bd x), .int .i64 0] 36)
            have h9 := (Below.heap_alloc _ (.cells #[.int .i64 (gP x), .int .i64 (gD x), .int .i64 (gB x), .int .i64 0, .int .i64 (gL x), .int .i64 (gG x), .int .i64 (gN Bd x), .int .i64 0] 36) _ (lt_of_block (heap_alloc_new wr (.cells #[.int .i64 (x 0), .int .i64 (x 1), .int .i64 (x 2), .int .i64 (x 3), .int .i64 (x 4), .int .i64 (x 5), .int .i64 (x 6), .int .i64 (x 7)] 36)))).trans (heap_alloc_new wr (.cells #[.int .i64 (x 0), .int .i64 (x 1), .int .i64 (x 2), .int .i64 (x 3), .int .i64 (x 4), .int .i64 (x 5), .int .i64 (x 6), .int .i64 (x 7)] 36))
            rw [World.size_alloc] at h10
            generalize (wr.alloc (.cells #[.int .i64 (x 0), .int .i64 (x 1), .int .i64 (x 2), .int .i64 (x 3), .int .i64 (x 4), .int .i64 (x 5), .int .i64 (x 6), .int .i64 (x 7)] 36)).alloc (.cells #[.int .i64 (gP x), .int .i64 (gD x), .int .i64 (gB x), .int .i64 0, .int .i64 (gL x), .int .i64 (gG x), .int .i64 (gN Bd x), .int .i64 0] 36) = W3 at *
            have f1 : W3.drew.cell? ⟨wr.heap.size, 7, none⟩ = some (.int .i64 (x 7)) := cell_of_row _ _ 7 _ _ _ h9
            have f2 : W3.drew.cell? ⟨wr.heap.size + 1, 2, none⟩ = some (.int .i64 (gB x)) := cell_of_row _ _ 2 _ _ _ h10
            have f3 : W3.drew.cell? ⟨wr.heap.size + 1, 6, none⟩ = some (.int .i64 (gN Bd x)) := cell_of_row _ _ 6 _ _ _ h10
            have s1 : W3.cell? ⟨wr.heap.size + 1, 7, none⟩ = some (.int .i64 0) := cell_of_row _ _ 7 _ _ _ h10
            have s2 : W3.frozen? ⟨wr.heap.size + 1, 7, none⟩ = false := frozen_of_row _ _ 7 _ _ h10
            have hz10 : (W3.setCell ⟨wr.heap.size + 1, 7, none⟩ (.int .i64 (gK Bd x))).drew.heap[wr.heap.size + 1]? = some (.cells #[.int .i64 (gP x), .int .i64 (gD x), .int .i64 (gB x), .int .i64 0, .int .i64 (gL x), .int .i64 (gG x), .int .i64 (gN Bd x), .int .i64 (gK Bd x)] 36 (0, 0)) := heap_set_same h10
            have hB4 : Below wr.heap.size wr (W3.setCell ⟨wr.heap.size + 1, 7, none⟩ (.int .i64 (gK Bd x))).drew := (hB3.setCell (p := ⟨wr.heap.size + 1, 7, none⟩) (Nat.le_succ _) _).drew
            have HKX : Hid ((W3.setCell ⟨wr.heap.size + 1, 7, none⟩ (.int .i64 (gK Bd x))).drew.heap[bp]? = some (.cells #[.int .i64 P, .int .i64 Bd, .slice ta3 j tcap3] 33 (0, 0))) := (hB4.block _ (lt_of_block HK.out)).trans HK.out
            have HWX := Lib.hid (World.ownsRow.kept HW.out (grown_of_below hB4) (by cases (Value.slice ta3 j tcap3).ownBlock <;> simp))
            have HAX : Hid (Below bp wo (W3.setCell ⟨wr.heap.size + 1, 7, none⟩ (.int .i64 (gK Bd x))).drew) := HA.out.trans (hB4.mono (Nat.le_of_lt HBS.out))
            have y0 : (W3.setCell ⟨wr.heap.size + 1, 7, none⟩ (.int .i64 (gK Bd x))).drew.cell? ⟨wr.heap.size + 1, 0, none⟩ = some (.int .i64 (gP x)) := cell_of_row _ _ 0 _ _ _ hz10
            have y1 : (W3.setCell ⟨wr.heap.size + 1, 7, none⟩ (.int .i64 (gK Bd x))).drew.cell? ⟨wr.heap.size + 1, 1, none⟩ = some (.int .i64 (gD x)) := cell_of_row _ _ 1 _ _ _ hz10
            have y2 : (W3.setCell ⟨wr.heap.size + 1, 7, none⟩ (.int .i64 (gK Bd x))).drew.cell? ⟨wr.heap.size + 1, 2, none⟩ = some (.int .i64 (gB x)) := cell_of_row _ _ 2 _ _ _ hz10
            have y3 : (W3.setCell ⟨wr.heap.size + 1, 7, none⟩ (.int .i64 (gK Bd x))).drew.cell? ⟨wr.heap.size + 1, 3, none⟩ = some (.int .i64 0) := cell_of_row _ _ 3 _ _ _ hz10
            have y4 : (W3.setCell ⟨wr.heap.size + 1, 7, none⟩ (.int .i64 (gK Bd x))).drew.cell? ⟨wr.heap.size + 1, 4, none⟩ = some (.int .i64 (gL x)) := cell_of_row _ _ 4 _ _ _ hz10
            have y5 : (W3.setCell ⟨wr.heap.size + 1, 7, none⟩ (.int .i64 (gK Bd x))).drew.cell? ⟨wr.heap.size + 1, 5, none⟩ = some (.int .i64 (gG x)) := cell_of_row _ _ 5 _ _ _ hz10
            have y6 : (W3.setCell ⟨wr.heap.size + 1, 7, none⟩ (.int .i64 (gK Bd x))).drew.cell? ⟨wr.heap.size + 1, 6, none⟩ = some (.int .i64 (gN Bd x)) := cell_of_row _ _ 6 _ _ _ hz10
            have y7 : (W3.setCell ⟨wr.heap.size + 1, 7, none⟩ (.int .i64 (gK Bd x))).drew.cell? ⟨wr.heap.size + 1, 7, none⟩ = some (.int .i64 (gK Bd x)) := cell_of_row _ _ 7 _ _ _ hz10
            have yb : (W3.setCell ⟨wr.heap.size + 1, 7, none⟩ (.int .i64 (gK Bd x))).drew.cell? ⟨bp, 2, none⟩ = some (.slice ta3 j tcap3) := cell_of_row _ _ 2 _ _ _ HKX.out
            have HS3 : Hid (wr.heap.size ≤ W3.heap.size) := hB3.size
            clear hB3 hB4 h9 h10 hz10 F1 F2 HK HW HA HAo c0 c1 c2 c3 c4 c5 c6 c7 e2 v1 v2 v3 v4 v5 m1 m2 m3 m4
            refine wp_region_still_tail 10 mixed (by kernel_rfl) ?_
            simp only [List.take_succ_cons, List.take_zero, List.drop_succ_cons, List.drop_zero]
            change wpStill _ _ W3.drew _ _ _
            repeat still_step
            still_call (Q6.out _)
            repeat still_step
            refine wpStill_nil ?_
            clear f1 f2 f3
            go_wp2_with (at_builtin; refine wpList_append_own _ rfl _ _ 31 rfl (bp + 1) 36 i0 (.agg #[.int .i64 0, .int .i64 0, .int .i64 0, .int .i64 0, .int .i64 0, .int .i64 0, .int .i64 0, .int .i64 0]) 8 64 Try.underlying31 HI.out.1 HI.out.2.1 HI.out.2.2.1 HI.out.2.2.2 rfl (by decide) _ j _ rfl (World.ownsRow.alloc HWX.out _) ⟨W3.heap.size, 0, none⟩ 1 1 [.int .i64 (gP x), .int .i64 (gD x), .int .i64 (gB x), .int .i64 0, .int .i64 (gL x), .int .i64 (gG x), .int .i64 (gN Bd x), .int .i64 (gK Bd x)] rfl rfl (lit_add (by simp [World.setCell]) _ _) (ones_eight _ _ _ _ _ _ _ _) Hm1.out Hm2.out (by have := HBS.out; have := HS3.out; simp [World.setCell]; omega) ?_)
            intro v' w5 hown hgrow _
            have hown2 : w5.ownsRow (bp + 1) 36 8 v' (j + 1) (zflat zz (j + 1)) := by
              rw [show zflat zz (j + 1) = zflat zz j ++ zrow (zz j) from rfl, HZJ.out, HROW.out]; exact hown
            have hsz5 : bp < ((W3.setCell ⟨wr.heap.size + 1, 7, none⟩ (.int .i64 (gK Bd x))).drew.alloc (.cells #[.int .i64 (gP x), .int .i64 (gD x), .int .i64 (gB x), .int .i64 0, .int .i64 (gL x), .int .i64 (gG x), .int .i64 (gN Bd x), .int .i64 (gK Bd x)] 36)).heap.size := by rw [World.size_alloc]; exact Nat.lt_succ_of_lt (lt_of_block HKX.out)
            have hgrow : ((W3.setCell ⟨wr.heap.size + 1, 7, none⟩ (.int .i64 (gK Bd x))).drew.alloc (.cells #[.int .i64 (gP x), .int .i64 (gD x), .int .i64 (gB x), .int .i64 0, .int .i64 (gL x), .int .i64 (gG x), .int .i64 (gN Bd x), .int .i64 (gK Bd x)] 36)).grownBy w5 _ := hgrow
            have hk5 := (hgrow.block bp hsz5 (fun e => by have := (HWX.out.lt _ e.symm).1; omega)).trans ((Below.heap_alloc _ (.cells #[.int .i64 (gP x), .int .i64 (gD x), .int .i64 (gB x), .int .i64 0, .int .i64 (gL x), .int .i64 (gG x), .int .i64 (gN Bd x), .int .i64 (gK Bd x)] 36) _ (lt_of_block HKX.out)).trans HKX.out)
            have ha5 := (HAX.out.alloc (Nat.le_of_lt (lt_of_block HKX.out)) (.cells #[.int .i64 (gP x), .int .i64 (gD x), .int .i64 (gB x), .int .i64 0, .int .i64 (gL x), .int .i64 (gG x), .int .i64 (gN Bd x), .int .i64 (gK Bd x)] 36)).grown hgrow (Nat.le_of_lt hsz5) (fun q hq => by have := (HWX.out.lt q hq).1; omega)
            obtain ⟨ta5, tcap5, rfl⟩ := TW.slice hown2
            have r1 : w5.cell? ⟨bp, 2, none⟩ = some (.slice ta3 j tcap3) := cell_of_row _ _ 2 _ _ _ hk5
            have r2 : w5.frozen? ⟨bp, 2, none⟩ = false := frozen_of_row _ _ 2 _ _ hk5
            have HK6 : Hid ((w5.setCell ⟨bp, 2, none⟩ (.slice ta5 (j + 1) tcap5)).heap[bp]? = some (.cells #[.int .i64 P, .int .i64 Bd, .slice ta5 (j + 1) tcap5] 33 (0, 0))) := heap_set_same hk5
            have HW6 : Hid (TW (w5.setCell ⟨bp, 2, none⟩ (.slice ta5 (j + 1) tcap5)) (bp + 1) (.slice ta5 (j + 1) tcap5) (j + 1) zz) := hown2.kept set_grown (by
              cases e : (Value.slice ta5 (j + 1) tcap5).ownBlock with
              | none => exact Or.inl rfl
              | some b => exact Or.inr (fun e6 => by have h7 := (hown2.lt _ e).1; have := Option.some.inj e6; omega))
            have HA6 : Hid (Below bp wo (w5.setCell ⟨bp, 2, none⟩ (.slice ta5 (j + 1) tcap5))) := ha5.setCell (p := ⟨bp, 2, none⟩) (Nat.le_refl _) _
            clear hown hgrow hown2 hk5 ha5 hsz5 HWX HAX HKX
            go_wp2_with fail
            go_roundw
            case rel => exact ⟨j + 1, _, by omega, by omega, by go_num, HK6, HW6, HA6⟩
            case measure => simp [intOf]; omega
        · have HJE : Hid (min n 4 = j) := by unfold Hid; omega
          have HMK2 : Hid (mkp = ⟨P, Bd, j, zz⟩) := by unfold Hid; rw [HMK.out, HJE.out]
          obtain ⟨ta3, tcap3, rfl⟩ := HW.out.slice
          obtain ⟨L, hL, hrow, hall⟩ := HO.out.old HAo.out
          have hLk : L.length = k := by
            have := congrArg List.length hL
            rw [List.length_map, List.length_map, List.length_take, ← HM.out] at this
            omega
          obtain ⟨a5, cap5, h5⟩ : ∃ a cap, u5 = .slice a k cap := by
            rcases hrow.2 with ⟨h0, h1⟩ | ⟨g, cap, cur, h0, _⟩
            · exact ⟨none, 0, by rw [h0, ← hLk, h1]⟩
            · exact ⟨_, cap, by rw [h0, hLk]⟩
          subst h5
          have hrow2 := hrow
          rw [hLk] at hrow2
          have HROWX := Lib.hid hrow2; have HRW := Lib.hid hrow; have HALL := Lib.hid hall; have HLL := Lib.hid hL; have HLK := Lib.hid hLk
          have Hk1 : Hid (k + 1 ≤ maxLen) := by unfold Hid maxLen; omega
          have Hk2 : Hid ((k + 1) * 40 ≤ 140737488355328) := by unfold Hid; omega
          have HWB : Hid (w.heap.size ≤ bp) := by unfold Hid; rw [HBP.out]; exact HB.out.size
          have HBW : Hid (Below w.heap.size w wr) := HB.out.trans (HAo.out.mono HB.out.size)
          have HBS : Hid (bp < wr.heap.size) := lt_of_block HK.out
          have x0 : wr.cell? ⟨bp, 0, none⟩ = some (.int .i64 P) := cell_of_row _ _ 0 _ _ _ HK.out
          have x1 : wr.cell? ⟨bp, 1, none⟩ = some (.int .i64 Bd) := cell_of_row _ _ 1 _ _ _ HK.out
          have x2 : wr.cell? ⟨bp, 2, none⟩ = some (.slice ta3 j tcap3) := cell_of_row _ _ 2 _ _ _ HK.out
          clear hL hrow hall hLk hrow2 HO HA HK HAo
          by_cases hjn : j < n
          · have hd4 : decide ((j : Int) < 4) = false := by simp; omega
            go_wp2_with (at_builtin; refine wpList_append_own _ rfl _ _ 22 rfl w.heap.size 33 i1 (.agg #[.int .i64 0, .int .i64 0, .slice none 0 0]) 3 40 Try.underlying22 HJ.out.1 HJ.out.2.1 HJ.out.2.2.1 HJ.out.2.2.2 rfl (by decide) _ k _ rfl (World.ownsRow.alloc HROWX.out _) ⟨wr.heap.size, 0, none⟩ 1 1 [.int .i64 P, .int .i64 Bd, .slice ta3 j tcap3] rfl rfl (lit_add rfl _ _) (pt_one _ _ _ rfl) Hk1.out Hk2.out (by have := HWB.out; have := HBS.out; rw [World.size_alloc]; omega) ?_)
            intro v' w5 hown hgrow _
            have hown2 : w5.ownsRow w.heap.size 33 3 v' (L.length + 1) (pcells (L ++ [((⟨P, Bd, j, zz⟩ : Pn), Value.slice ta3 j tcap3)])) := by rw [pcells_app, HLK.out]; exact hown
            have hpw := PW.more (p := ⟨P, Bd, j, zz⟩) (tv := .slice ta3 j tcap3) HRW.out HALL.out (HW.out.mono (by have := HWB.out; omega)) hj4 hown2 hgrow
            rw [HLL.out, ← HMK2.out, ← HSN.out] at hpw
            have hbw := (HBW.out.alloc HBW.out.size (.cells #[.int .i64 P, .int .i64 Bd, .slice ta3 j tcap3] 33)).grown hgrow (by rw [World.size_alloc]; have := HBW.out.size; omega) (fun q hq => (HROWX.out.lt q hq).1)
            obtain ⟨a6, cap6, rfl⟩ : ∃ a cap, v' = .slice a (k + 1) cap := by
              rw [HLK.out] at hown2
              rcases hown2.2 with ⟨h0, h1⟩ | ⟨g, cap, cur, h0, _⟩
              · cases h1
              · exact ⟨_, cap, h0⟩
            have HPW5 := Lib.hid hpw; have HBW5 := Lib.hid hbw
            clear hown hgrow hown2 hpw hbw x0 x1 x2
            go_wp2_with fail
            go_roundw
            case rel => exact ⟨k + 1, by omega, by omega, by go_num, HPW5, HBW5⟩
            case measure => simp [intOf]; omega
          · have hdn : decide ((j : Int) < n) = false := by simp; omega
            go_wp2_with (at_builtin; refine wpList_append_own _ rfl _ _ 22 rfl w.heap.size 33 i1 (.agg #[.int .i64 0, .int .i64 0, .slice none 0 0]) 3 40 Try.underlying22 HJ.out.1 HJ.out.2.1 HJ.out.2.2.1 HJ.out.2.2.2 rfl (by decide) _ k _ rfl (World.ownsRow.alloc HROWX.out _) ⟨wr.heap.size, 0, none⟩ 1 1 [.int .i64 P, .int .i64 Bd, .slice ta3 j tcap3] rfl rfl (lit_add rfl _ _) (pt_one _ _ _ rfl) Hk1.out Hk2.out (by have := HWB.out; have := HBS.out; rw [World.size_alloc]; omega) ?_)
            intro v' w5 hown hgrow _
            have hown2 : w5.ownsRow w.heap.size 33 3 v' (L.length + 1) (pcells (L ++ [((⟨P, Bd, j, zz⟩ : Pn), Value.slice ta3 j tcap3)])) := by rw [pcells_app, HLK.out]; exact hown
            have hpw := PW.more (p := ⟨P, Bd, j, zz⟩) (tv := .slice ta3 j tcap3) HRW.out HALL.out (HW.out.mono (by have := HWB.out; omega)) hj4 hown2 hgrow
            rw [HLL.out, ← HMK2.out, ← HSN.out] at hpw
            have hbw := (HBW.out.alloc HBW.out.size (.cells #[.int .i64 P, .int .i64 Bd, .slice ta3 j tcap3] 33)).grown hgrow (by rw [World.size_alloc]; have := HBW.out.size; omega) (fun q hq => (HROWX.out.lt q hq).1)
            obtain ⟨a6, cap6, rfl⟩ : ∃ a cap, v' = .slice a (k + 1) cap := by
              rw [HLK.out] at hown2
              rcases hown2.2 with ⟨h0, h1⟩ | ⟨g, cap, cur, h0, _⟩
              · cases h1
              · exact ⟨_, cap, h0⟩
            have HPW5 := Lib.hid hpw; have HBW5 := Lib.hid hbw
            clear hown hgrow hown2 hpw hbw x0 x1 x2
            go_wp2_with fail
            go_roundw
            case rel => exact ⟨k + 1, by omega, by omega, by go_num, HPW5, HBW5⟩
            case measure => simp [intOf]; omega
    · obtain ⟨a5, cap5, h5⟩ : ∃ a cap, u5 = .slice a k cap := by
        obtain ⟨L, hL, hrow, hall⟩ := HO.out
        have hLk : L.length = k := by
          have := congrArg List.length hL
          rw [List.length_map, List.length_map, List.length_take, ← HM.out] at this
          omega
        rcases hrow.2 with ⟨h0, h1⟩ | ⟨g, cap, cur, h0, _⟩
        · exact ⟨none, 0, by rw [h0, ← hLk, h1]⟩
        · exact ⟨_, cap, by rw [h0, hLk]⟩
      subst h5
      have HE : Hid (ml ps most = (ps.take k).map mk) := by
        unfold Hid ml
        by_cases hkk : k = most
        · rw [hkk]
        · have h1 : k = m := by omega
          rw [h1, HM.out, List.take_length, List.take_of_length_le (by rw [← HM.out]; omega)]
      by_cases hkn : k < m
      · have hdm : decide ((k : Int) < most) = false := by simp; omega
        go_wp2_with fail
        go_ret
        exact ⟨_, rfl, by rw [HE.out]; exact HO.out, HB.out⟩
      · have hdn : decide ((k : Int) < m) = false := by simp; omega
        go_wp2_with fail
        go_ret
        exact ⟨_, rfl, by rw [HE.out]; exact HO.out, HB.out⟩
end Go.Proofs.Ythhdfmpoebedcaa
