/- Partitions that are brought to be such: the walk. -/
import Derived.Test.YtbdiekolkniajaaGatM
namespace Go.Proofs.Ytbdiekolkniajaa
open Go.RowKit Tk De Dl
set_option linter.unusedVariables false

theorem bring_q (a : Int) (n : Nat) (w : World) (h : 0 < n) (hn : n ≤ 1000000) : Calls Try.prog 6 #[.int .i64 a, .int .i64 n] w (fun e w' => e = .returned (.int .i64 (bn a n : Nat)) ∧ w' = w) := (bring_bn a n w h hn).mono fun _ _ h => ⟨h.1, h.2.symm⟩
theorem pt_one (per bud : Int) (tv : Value) (h : tv.oneCell' = true) : ∀ u ∈ [Value.int .i64 per, .int .i64 bud, tv], u.oneCell' = true := by
  intro u hu
  simp only [List.mem_cons, List.not_mem_nil, or_false] at hu
  rcases hu with rfl | rfl | rfl
  · rfl
  · rfl
  · exact h
theorem ones_eight (a0 a1 a2 a3 a4 a5 a6 a7 : Int) : ∀ u ∈ ([.int .i64 a0, .int .i64 a1, .int .i64 a2, .int .i64 a3, .int .i64 a4, .int .i64 a5, .int .i64 a6, .int .i64 a7] : List Value), u.oneCell' = true := by
  intro u hu
  simp only [List.mem_cons, List.not_mem_nil, or_false] at hu
  rcases hu with rfl | rfl | rfl | rfl | rfl | rfl | rfl | rfl <;> rfl
theorem i64_nat {x : Nat} (h : x ≤ 1000000) : IntKind.i64.wrap (x : Int) = x := IntWalk.i64_in _ (by omega)
theorem set_grown {w : World} {b i : Nat} {y : Value} : w.grownBy (w.setCell ⟨b, i, none⟩ y) (some b) := ⟨rfl, rfl, rfl, by simp [World.setCell], fun k hk hne => Below.heap_setCell _ _ _ _ (fun e => hne (by rw [e]))⟩
/-- what stands in another block is kept -/
theorem TW.off {w : World} {B n b i : Nat} {v y : Value} {z : Nat → Nat → Int} (h : TW w B v n z) (hb : b < B) : TW (w.setCell ⟨b, i, none⟩ y) B v n z := World.ownsRow.kept h set_grown (by
  cases e : v.ownBlock with
  | none => exact Or.inl rfl
  | some c => exact Or.inr (fun e6 => by have h7 := (World.ownsRow.lt h _ e).1; have := Option.some.inj e6; omega))
theorem PW.off {w : World} {B b i : Nat} {v y : Value} {ps : List Pn} (h : PW w B v ps) (hb : b < B) : PW (w.setCell ⟨b, i, none⟩ y) B v ps := by
  obtain ⟨l, h1, h2, h3⟩ := h
  exact ⟨l, h1, h2.kept set_grown (by
    cases e : v.ownBlock with
    | none => exact Or.inl rfl
    | some c => exact Or.inr (fun e6 => by have h7 := (h2.lt _ e).1; have := Option.some.inj e6; omega)), fun q hq => ⟨(h3 q hq).1.off hb, (h3 q hq).2⟩⟩
theorem PW.mono {w : World} {B C : Nat} {v : Value} {ps : List Pn} (h : PW w B v ps) (hC : C ≤ B) : PW w C v ps := by
  obtain ⟨l, h1, h2, h3⟩ := h
  refine ⟨l, h1, ⟨h2.1, ?_⟩, fun q hq => ⟨(h3 q hq).1.mono hC, (h3 q hq).2⟩⟩
  rcases h2.2 with h0 | ⟨g, cap, cur, h1, h2, h3⟩
  · exact Or.inl h0
  · exact Or.inr ⟨g, cap, cur, h1, Nat.le_trans hC h2, h3⟩
/-- a configuration's box, without ports -/
def CB (w : World) (b : Nat) (pv : Value) : Prop := w.heap[b]? = some (.cells #[pv, .slice none 0 0] 25 (0, 0))
/-- what made answers -/
def MadeP (w : World) (ps : List Pn) (e : Ending) (w' : World) : Prop := ∃ pv, e = .returned (.agg #[pv, .slice none 0 0]) ∧ PW w' w.heap.size pv (ml ps 4) ∧ Below w.heap.size w w'
set_option maxRecDepth 100000 in
set_option maxHeartbeats 16000000 in
theorem made_any {w : World} {v : Value} {ps : List Pn} (h : PS w v ps) : Calls Try.prog 5 #[v] w (MadeP w ps) := by
  obtain ⟨a, cap, rfl, hn1, hn2⟩ := h.slice
  obtain ⟨m, hm⟩ : ∃ m, m = ps.length := ⟨_, rfl⟩
  rw [← hm] at h hn1 ⊢
  have HP := Lib.hid h; have HM := Lib.hid hm
  have hmx : m ≤ 9223372036854775807 := by unfold maxLen at hn2; omega
  have mixed : Try.prog.follows .mixedOrders = true := by kernel_rfl
  obtain ⟨i0, hi, hz0, hz1, hz2⟩ := info_parts infoTk
  have HI := Lib.hid (⟨hi, hz0, hz1, hz2⟩ : _ ∧ _ ∧ _ ∧ _)
  obtain ⟨i1, hj, hy0, hy1, hy2⟩ := info_parts infoPt
  have HJ := Lib.hid (⟨hj, hy0, hy1, hy2⟩ : _ ∧ _ ∧ _ ∧ _)
  obtain ⟨rb, hrb⟩ : ∃ rb, rb = w.heap.size := ⟨_, rfl⟩
  have HA0 := Lib.hid (((Below.refl w.heap.size w).alloc (Nat.le_refl _) (.cells #[.slice none 0 0, .slice none 0 0] 25)).alloc (by simp) (.cells #[.slice none 0 0, .slice none 0 0] 25))
  have HR0 : Hid (CB ((w.alloc (.cells #[.slice none 0 0, .slice none 0 0] 25)).alloc (.cells #[.slice none 0 0, .slice none 0 0] 25)) w.heap.size (.slice none 0 0)) := (Below.heap_alloc _ _ _ (by simp)).trans (heap_alloc_new w _)
  have HC0 : Hid (CB ((w.alloc (.cells #[.slice none 0 0, .slice none 0 0] 25)).alloc (.cells #[.slice none 0 0, .slice none 0 0] 25)) (w.heap.size + 1) (.slice none 0 0)) := by
    have := heap_alloc_new (w.alloc (.cells #[.slice none 0 0, .slice none 0 0] 25)) (.cells #[.slice none 0 0, .slice none 0 0] 25)
    rw [World.size_alloc] at this
    exact this
  rw [← hrb] at HA0 HR0 HC0
  have HRB := Lib.hid hrb
  clear h hm hn1 hn2 hi hz0 hz1 hz2 hj hy0 hy1 hy2
  go_enter Try.func5, Try.ntmps5
  go_wp2_with fail
  rw [← hrb]
  clear hrb
  go_loopw [4] (fun i wr => ∃ (k : Nat) (a5 : Option Addr) (cap5 : Nat), k ≤ m ∧ k ≤ 4 ∧ i = .int .i64 k ∧ Hid (PW wr (rb + 2) (.slice a5 k cap5) ((ps.take k).map mk)) ∧ Hid (CB wr (rb + 1) (.slice a5 k cap5)) ∧ Hid (CB wr rb (.slice none 0 0)) ∧ Hid (Below rb w wr)) (fun i _ => 4 - (intOf i).toNat)
  case atStart => exact ⟨0, none, 0, by omega, by omega, rfl, PW.nil _ _, HC0.out, HR0.out, HA0.out⟩
  case round =>
    clear HA0 HR0 HC0
    obtain ⟨k, a5, cap5, hk, hkm, rfl, HO, HCB, HRS, HB⟩ := hrel
    obtain ⟨wo, rfl⟩ : ∃ wo, wo = wr := ⟨_, rfl⟩
    by_cases hlt : k < m ∧ k < 4
    · obtain ⟨hlt, hlm⟩ := hlt
      have hkI : (k : Int) < m := by omega
      have hk0 : (0 : Int) ≤ k := by omega
      have hdm : decide ((k : Int) < 4) = true := by simp; omega
      obtain ⟨b1, off, ta, tcap, rfl, d0, d1, d2, hT, l1, l2, l3⟩ := (HP.out.below (by rw [← HRB.out]; exact HB.out)).at hlt
      have HSN : Hid ((ps.take (k + 1)).map mk = (ps.take k).map mk ++ [mk (ps.getD k p0)]) := mk_snoc (by rw [← HM.out]; exact hlt)
      obtain ⟨p, hp⟩ : ∃ p, p = ps.getD k p0 := ⟨_, rfl⟩
      rw [← hp] at d0 d1 d2 hT l1 l3 HSN
      have hb1 := mper_bd p
      have hb2 := mbud_bd p
      have hPle : mPer p ≤ 1000000 := by omega
      have hBle : mBud p ≤ 1000000 := by omega
      have hP0 : 0 < mPer p := by omega
      have e1 : (1 : Int) + (bn p.per 10 : Nat) = (mPer p : Int) := (Int.natCast_add 1 _).symm
      have e2 : (1 : Int) + (bn p.bud (mPer p) : Nat) = (mBud p : Int) := (Int.natCast_add 1 _).symm
      have B0 := Lib.hid (fun w => bring_bn p.per 10 w (by decide) (by decide))
      have B1 := Lib.hid (fun w => bring_q p.bud (mPer p) w hP0 hPle)
      have HMK : Hid (mk p = ⟨mPer p, mBud p, min p.n 3, fun i => mt (p.z i)⟩) := rfl
      clear hp
      obtain ⟨per, bud, n, z⟩ := p
      dsimp only at d0 d1 d2 hT l1 l3 e1 e2 B0 B1 HMK
      generalize mk ⟨per, bud, n, z⟩ = mkp at *
      generalize mPer ⟨per, bud, n, z⟩ = P at *
      generalize mBud ⟨per, bud, n, z⟩ = Bd at *
      have hnx : n ≤ 9223372036854775807 := by omega
      generalize bn per 10 = q0 at *
      generalize bn bud P = q1 at *
      have w1 : wrap64 ((1 : Int) + q0) = P := by rw [e1]; exact wrap_nat hPle
      have w2 : wrap64 ((1 : Int) + q1) = Bd := by rw [e2]; exact wrap_nat hBle
      have w2' : IntKind.i64.wrap ((1 : Int) + q1) = Bd := by rw [e2]; exact i64_nat hBle
      have HT := Lib.hid hT
      have D0 := Lib.hid d0; have D1 := Lib.hid d1; have D2 := Lib.hid d2
      clear hT e1 e2
      go_wp2_with fail
      refine (B0.out _).mono ?_
      rintro e w' ⟨rfl, rfl⟩
      go_wp2_with fail
      have hA := (Below.refl wo.heap.size wo).alloc (Nat.le_refl _) (.cells #[.int .i64 P, .int .i64 0, .slice none 0 0] 43)
      have hk1 := heap_alloc_new wo (.cells #[.int .i64 P, .int .i64 0, .slice none 0 0] 43)
      generalize wo.alloc (.cells #[.int .i64 P, .int .i64 0, .slice none 0 0] 43) = W1 at *
      obtain ⟨bp, hbp⟩ : ∃ bp, bp = wo.heap.size := ⟨_, rfl⟩
      rw [← hbp] at hA hk1 ⊢
      have HBP := Lib.hid hbp
      have f1 : W1.drew.cell? ⟨b1, off + k * 3 + 1, none⟩ = some (.int .i64 bud) := (hA.cell (by rw [hbp]; exact World.block_lt_of_cell? _ _ d1)).trans d1
      have f0 : W1.drew.cell? ⟨bp, 0, none⟩ = some (.int .i64 P) := cell_of_row _ _ 0 _ _ _ hk1
      have g1 : W1.cell? ⟨bp, 1, none⟩ = some (.int .i64 0) := cell_of_row _ _ 1 _ _ _ hk1
      have g2 : W1.frozen? ⟨bp, 1, none⟩ = false := frozen_of_row _ _ 1 _ _ hk1
      have HK1 := Lib.hid hk1; have HA := Lib.hid hA
      clear hbp d0 d1 d2 hA hk1
      refine wp_region_still_tail 10 mixed (by kernel_rfl) ?_
      simp only [List.take_succ_cons, List.take_zero, List.drop_succ_cons, List.drop_zero]
      change wpStill _ _ W1.drew _ _ _
      repeat still_step
      still_call (B1.out _)
      repeat still_step
      refine wpStill_nil ?_
      clear f1 f0
      go_wp2_with fail
      have HK2 : Hid ((W1.setCell ⟨bp, 1, none⟩ (.int .i64 Bd)).drew.heap[bp]? = some (.cells #[.int .i64 P, .int .i64 Bd, .slice none 0 0] 43 (0, 0))) := heap_set_same HK1.out
      have HA2 : Hid (Below bp wo (W1.setCell ⟨bp, 1, none⟩ (.int .i64 Bd)).drew) := (HA.out.setCell (p := ⟨bp, 1, none⟩) (Nat.le_refl _) _).drew
      clear HK1 HA g1 g2 B0 B1 w1 w2 w2' D0 D1
      generalize (W1.setCell ⟨bp, 1, none⟩ (.int .i64 Bd)).drew = W2 at *
      obtain ⟨zz, hzz⟩ : ∃ zz : Nat → Nat → Int, zz = fun i => mt (z i) := ⟨_, rfl⟩
      have HZ : Hid (∀ i, zz i = mt (z i)) := fun i => by rw [hzz]
      rw [← hzz] at HMK
      clear hzz
      go_loopw [6] (fun i wr => ∃ (j : Nat) (tv : Value), j ≤ n ∧ j ≤ 3 ∧ i = .int .i64 j ∧ Hid (wr.heap[bp]? = some (.cells #[.int .i64 P, .int .i64 Bd, tv] 43 (0, 0))) ∧ Hid (TW wr (bp + 1) tv j zz) ∧ Hid (Below bp wo wr)) (fun i _ => 3 - (intOf i).toNat)
      case atStart => exact ⟨0, .slice none 0 0, by omega, by omega, rfl, HK2.out, World.ownsRow_nil _ _ _ _, HA2.out⟩
      case round =>
        clear HK2 HA2
        obtain ⟨j, tv, hj, hj4, rfl, HK, HW, HA⟩ := hrel
        have HAo : Hid (Below wo.heap.size wo wr) := by rw [← HBP.out]; exact HA.out
        have e2 := (HAo.out.cell (World.block_lt_of_cell? _ _ D2.out)).trans D2.out
        by_cases hlt2 : j < n ∧ j < 3
        · obtain ⟨hjn, hj33⟩ := hlt2
          have hjI : (j : Int) < n := by omega
          have hj0 : (0 : Int) ≤ j := by omega
          have hd4 : decide ((j : Int) < 3) = true := by simp; omega
          obtain ⟨tb, toff, rfl, c0, c1, c2, c3, c4, c5, c6, c7⟩ := (HT.out.below HAo.out).at hjn
          obtain ⟨ta3, tcap3, rfl⟩ := HW.out.slice
          have HZJ := Lib.hid (HZ.out j)
          obtain ⟨x, hx⟩ : ∃ x, x = z j := ⟨_, rfl⟩
          rw [← hx] at c0 c1 c2 c3 c4 c5 c6 c7 HZJ
          clear hx
          obtain ⟨g1, g2, g3, g4, g5, g6⟩ := g_bd x
          have i1 : gP x ≤ 1000000 := by omega
          have i2 : gD x ≤ 1000000 := by omega
          have i3 : gB x ≤ 1000000 := by omega
          have q1 : (1 : Int) + (bn (x 0) 48 : Nat) = (gP x : Int) := (Int.natCast_add 1 _).symm
          have q2 : (1 : Int) + (bn (x 1) (gP x) : Nat) = (gD x : Int) := (Int.natCast_add 1 _).symm
          have q3 : (1 : Int) + (bn (x 2) (gD x) : Nat) = (gB x : Int) := (Int.natCast_add 1 _).symm
          have Q0 := Lib.hid (fun w => bring_bn (x 0) 48 w (by decide) (by decide))
          have Q1 := Lib.hid (fun w => bring_bn (x 1) (gP x) w g1 i1)
          have Q2 := Lib.hid (fun w => bring_bn (x 2) (gD x) w g3 i2)
          have v1 : wrap64 ((1 : Int) + (bn (x 0) 48 : Nat)) = gP x := by rw [q1]; exact wrap_nat i1
          have v2 : wrap64 ((1 : Int) + (bn (x 1) (gP x) : Nat)) = gD x := by rw [q2]; exact wrap_nat i2
          have v3 : wrap64 ((1 : Int) + (bn (x 2) (gD x) : Nat)) = gB x := by rw [q3]; exact wrap_nat i3
          have F1 : ∀ o1 o2, ((wr.alloc o1).alloc o2).cell? ⟨bp, 1, none⟩ = some (.int .i64 Bd) := fun o1 o2 => ((((Below.refl _ wr).alloc (Nat.le_refl _) o1).alloc (by simp) o2).cell (p := ⟨bp, 1, none⟩) (lt_of_block HK.out)).trans (cell_of_row _ _ 1 _ _ _ HK.out)
          have F2 : ∀ o1 o2, ((wr.alloc o1).alloc o2).cell? ⟨bp, 2, none⟩ = some (.slice ta3 j tcap3) := fun o1 o2 => ((((Below.refl _ wr).alloc (Nat.le_refl _) o1).alloc (by simp) o2).cell (p := ⟨bp, 2, none⟩) (lt_of_block HK.out)).trans (cell_of_row _ _ 2 _ _ _ HK.out)
          have Hm1 : Hid (j + 1 ≤ maxLen) := by unfold Hid maxLen; omega
          have Hm2 : Hid ((j + 1) * 64 ≤ 140737488355328) := by unfold Hid; omega
          have HBS : Hid (bp + 1 ≤ wr.heap.size) := lt_of_block HK.out
          have HROW : Hid (zrow (mt x) = [.int .i64 (gP x), .int .i64 (gD x), .int .i64 (gB x), .int .i64 0, .int .i64 0, .int .i64 0, .int .i64 0, .int .i64 0]) := rfl
          clear g1 g2 g3 g4 g5 g6 i2 q1 q2 q3
          go_wp2_with fail
          refine (Q0.out _).mono ?_
          rintro e w' ⟨rfl, rfl⟩
          go_wp2_with fail
          refine (Q1.out _).mono ?_
          rintro e w' ⟨rfl, rfl⟩
          go_wp2_with fail
          refine (Q2.out _).mono ?_
          rintro e w' ⟨rfl, rfl⟩
          have HWX := Lib.hid (World.ownsRow.alloc (World.ownsRow.alloc HW.out (.cells #[.int .i64 (x 0), .int .i64 (x 1), .int .i64 (x 2), .int .i64 (x 3), .int .i64 (x 4), .int .i64 (x 5), .int .i64 (x 6), .int .i64 (x 7)] 40)) (.cells #[.int .i64 (gP x), .int .i64 (gD x), .int .i64 (gB x), .int .i64 0, .int .i64 0, .int .i64 0, .int .i64 0, .int .i64 0] 40))
          have HKX : Hid (((wr.alloc (.cells #[.int .i64 (x 0), .int .i64 (x 1), .int .i64 (x 2), .int .i64 (x 3), .int .i64 (x 4), .int .i64 (x 5), .int .i64 (x 6), .int .i64 (x 7)] 40)).alloc (.cells #[.int .i64 (gP x), .int .i64 (gD x), .int .i64 (gB x), .int .i64 0, .int .i64 0, .int .i64 0, .int .i64 0, .int .i64 0] 40)).heap[bp]? = some (.cells #[.int .i64 P, .int .i64 Bd, .slice ta3 j tcap3] 43 (0, 0))) := ((((Below.refl _ wr).alloc (Nat.le_refl _) _).alloc (by simp) _).block _ (lt_of_block HK.out)).trans HK.out
          have HAX : Hid (Below bp wo ((wr.alloc (.cells #[.int .i64 (x 0), .int .i64 (x 1), .int .i64 (x 2), .int .i64 (x 3), .int .i64 (x 4), .int .i64 (x 5), .int .i64 (x 6), .int .i64 (x 7)] 40)).alloc (.cells #[.int .i64 (gP x), .int .i64 (gD x), .int .i64 (gB x), .int .i64 0, .int .i64 0, .int .i64 0, .int .i64 0, .int .i64 0] 40))) := (HA.out.alloc (Nat.le_of_lt HBS.out) _).alloc (by rw [World.size_alloc]; have := HBS.out; omega) _
          clear F1 HK HW HA HAo
          go_wp2_with (at_builtin; refine wpList_append_own _ rfl _ _ 41 rfl (bp + 1) 40 i0 (.agg #[.int .i64 0, .int .i64 0, .int .i64 0, .int .i64 0, .int .i64 0, .int .i64 0, .int .i64 0, .int .i64 0]) 8 64 Try.underlying41 HI.out.1 HI.out.2.1 HI.out.2.2.1 HI.out.2.2.2 rfl (by decide) _ j _ rfl (World.ownsRow.alloc HWX.out _) ⟨wr.heap.size + 1 + 1, 0, none⟩ 1 1 [.int .i64 (gP x), .int .i64 (gD x), .int .i64 (gB x), .int .i64 0, .int .i64 0, .int .i64 0, .int .i64 0, .int .i64 0] rfl rfl (lit_add (by simp) _ _) (ones_eight _ _ _ _ _ _ _ _) Hm1.out Hm2.out (by have := HBS.out; simp; omega) ?_)
          intro v' w5 hown hgrow _
          have hown2 : w5.ownsRow (bp + 1) 40 8 v' (j + 1) (zflat zz (j + 1)) := by
            rw [show zflat zz (j + 1) = zflat zz j ++ zrow (zz j) from rfl, HZJ.out, HROW.out]; exact hown
          have hsz5 : bp < (((wr.alloc (.cells #[.int .i64 (x 0), .int .i64 (x 1), .int .i64 (x 2), .int .i64 (x 3), .int .i64 (x 4), .int .i64 (x 5), .int .i64 (x 6), .int .i64 (x 7)] 40)).alloc (.cells #[.int .i64 (gP x), .int .i64 (gD x), .int .i64 (gB x), .int .i64 0, .int .i64 0, .int .i64 0, .int .i64 0, .int .i64 0] 40)).alloc (.cells #[.int .i64 (gP x), .int .i64 (gD x), .int .i64 (gB x), .int .i64 0, .int .i64 0, .int .i64 0, .int .i64 0, .int .i64 0] 40)).heap.size := by rw [World.size_alloc]; exact Nat.lt_succ_of_lt (lt_of_block HKX.out)
          have hgrow : (((wr.alloc (.cells #[.int .i64 (x 0), .int .i64 (x 1), .int .i64 (x 2), .int .i64 (x 3), .int .i64 (x 4), .int .i64 (x 5), .int .i64 (x 6), .int .i64 (x 7)] 40)).alloc (.cells #[.int .i64 (gP x), .int .i64 (gD x), .int .i64 (gB x), .int .i64 0, .int .i64 0, .int .i64 0, .int .i64 0, .int .i64 0] 40)).alloc (.cells #[.int .i64 (gP x), .int .i64 (gD x), .int .i64 (gB x), .int .i64 0, .int .i64 0, .int .i64 0, .int .i64 0, .int .i64 0] 40)).grownBy w5 _ := hgrow
          have hk5 := (hgrow.block bp hsz5 (fun e => by have := (HWX.out.lt _ e.symm).1; omega)).trans ((Below.heap_alloc _ (.cells #[.int .i64 (gP x), .int .i64 (gD x), .int .i64 (gB x), .int .i64 0, .int .i64 0, .int .i64 0, .int .i64 0, .int .i64 0] 40) _ (lt_of_block HKX.out)).trans HKX.out)
          have ha5 := (HAX.out.alloc (Nat.le_of_lt (lt_of_block HKX.out)) (.cells #[.int .i64 (gP x), .int .i64 (gD x), .int .i64 (gB x), .int .i64 0, .int .i64 0, .int .i64 0, .int .i64 0, .int .i64 0] 40)).grown hgrow (Nat.le_of_lt hsz5) (fun q hq => by have := (HWX.out.lt q hq).1; omega)
          obtain ⟨ta5, tcap5, rfl⟩ := TW.slice hown2
          have r1 : w5.cell? ⟨bp, 2, none⟩ = some (.slice ta3 j tcap3) := cell_of_row _ _ 2 _ _ _ hk5
          have r2 : w5.frozen? ⟨bp, 2, none⟩ = false := frozen_of_row _ _ 2 _ _ hk5
          have HK6 : Hid ((w5.setCell ⟨bp, 2, none⟩ (.slice ta5 (j + 1) tcap5)).heap[bp]? = some (.cells #[.int .i64 P, .int .i64 Bd, .slice ta5 (j + 1) tcap5] 43 (0, 0))) := heap_set_same hk5
          have HW6 : Hid (TW (w5.setCell ⟨bp, 2, none⟩ (.slice ta5 (j + 1) tcap5)) (bp + 1) (.slice ta5 (j + 1) tcap5) (j + 1) zz) := hown2.kept set_grown (by
            cases e : (Value.slice ta5 (j + 1) tcap5).ownBlock with
            | none => exact Or.inl rfl
            | some b => exact Or.inr (fun e6 => by have h7 := (hown2.lt _ e).1; have := Option.some.inj e6; omega))
          have HA6 : Hid (Below bp wo (w5.setCell ⟨bp, 2, none⟩ (.slice ta5 (j + 1) tcap5))) := ha5.setCell (p := ⟨bp, 2, none⟩) (Nat.le_refl _) _
          clear hown hgrow hown2 hk5 ha5 hsz5 HWX HAX HKX
          go_wp2_with fail
          go_roundw
          case rel => exact ⟨j + 1, _, by omega, by omega, by go_num, HK6, HW6, HA6⟩
          case measure => simp [intOf]; omega
        · have HJE : Hid (min n 3 = j) := by unfold Hid; omega
          have HMK2 : Hid (mkp = ⟨P, Bd, j, zz⟩) := by unfold Hid; rw [HMK.out, HJE.out]
          obtain ⟨ta3, tcap3, rfl⟩ := HW.out.slice
          obtain ⟨L, hL, hrow, hall⟩ := HO.out.old HAo.out
          have hLk : L.length = k := by
            have := congrArg List.length hL
            rw [List.length_map, List.length_map, List.length_take, ← HM.out] at this
            omega
          have hrow2 := hrow
          rw [hLk] at hrow2
          have HROWX := Lib.hid hrow2; have HRW := Lib.hid hrow; have HALL := Lib.hid hall; have HLL := Lib.hid hL; have HLK := Lib.hid hLk
          have Hk1 : Hid (k + 1 ≤ maxLen) := by unfold Hid maxLen; omega
          have Hk2 : Hid ((k + 1) * 40 ≤ 140737488355328) := by unfold Hid; omega
          have HCB2 : Hid (CB wr (rb + 1) (.slice a5 k cap5)) := (HAo.out.block _ (lt_of_block HCB.out)).trans HCB.out
          have HRS2 : Hid (CB wr rb (.slice none 0 0)) := (HAo.out.block _ (lt_of_block HRS.out)).trans HRS.out
          have HWB : Hid (rb + 2 ≤ bp) := by unfold Hid; rw [HBP.out]; exact lt_of_block HCB.out
          have HBW : Hid (Below rb w wr) := HB.out.trans (HAo.out.mono (by have := lt_of_block HRS.out; omega))
          have HBS : Hid (bp < wr.heap.size) := lt_of_block HK.out
          have x0 : wr.cell? ⟨bp, 0, none⟩ = some (.int .i64 P) := cell_of_row _ _ 0 _ _ _ HK.out
          have x1 : wr.cell? ⟨bp, 1, none⟩ = some (.int .i64 Bd) := cell_of_row _ _ 1 _ _ _ HK.out
          have x2 : wr.cell? ⟨bp, 2, none⟩ = some (.slice ta3 j tcap3) := cell_of_row _ _ 2 _ _ _ HK.out
          have x3 : wr.cell? ⟨rb + 1, 0, none⟩ = some (.slice a5 k cap5) := cell_of_row _ _ 0 _ _ _ HCB2.out
          clear hL hrow hall hLk hrow2 HO HA HK HAo HCB HRS
          have hexit : (j < n ∧ decide ((j : Int) < 3) = false) ∨ (¬ j < n ∧ decide ((j : Int) < n) = false) := by
            by_cases hjn : j < n
            · exact Or.inl ⟨hjn, by simp; omega⟩
            · exact Or.inr ⟨hjn, by simp; omega⟩
          rcases hexit with ⟨hjn, hd4⟩ | ⟨hjn, hd4⟩
          all_goals
            go_wp2_with (at_builtin; refine wpList_append_own _ rfl _ _ 22 rfl (rb + 2) 43 i1 (.agg #[.int .i64 0, .int .i64 0, .slice none 0 0]) 3 40 Try.underlying22 HJ.out.1 HJ.out.2.1 HJ.out.2.2.1 HJ.out.2.2.2 rfl (by decide) _ k _ rfl (World.ownsRow.alloc HROWX.out _) ⟨wr.heap.size, 0, none⟩ 1 1 [.int .i64 P, .int .i64 Bd, .slice ta3 j tcap3] rfl rfl (lit_add (by simp) _ _) (pt_one _ _ _ rfl) Hk1.out Hk2.out (by have := HWB.out; have := HBS.out; simp; omega) ?_)
            intro v' w5 hown hgrow _
            have hown2 : w5.ownsRow (rb + 2) 43 3 v' (L.length + 1) (pcells (L ++ [((⟨P, Bd, j, zz⟩ : Pn), Value.slice ta3 j tcap3)])) := by rw [pcells_app, HLK.out]; exact hown
            have hpw := PW.more (p := ⟨P, Bd, j, zz⟩) (tv := .slice ta3 j tcap3) HRW.out HALL.out (HW.out.mono (by have := HWB.out; omega)) (show j ≤ 4 by omega) hown2 hgrow
            rw [HLL.out, ← HMK2.out, ← HSN.out] at hpw
            have hszc : rb + 1 < (wr.alloc (.cells #[.int .i64 P, .int .i64 Bd, .slice ta3 j tcap3] 43)).heap.size := by rw [World.size_alloc]; have := HWB.out; have := HBS.out; omega
            have hbw := (HBW.out.alloc (by have := HWB.out; have := HBS.out; omega) (.cells #[.int .i64 P, .int .i64 Bd, .slice ta3 j tcap3] 43)).grown hgrow (by omega) (fun q hq => by have := (HROWX.out.lt q hq).1; omega)
            have hc5 : CB w5 (rb + 1) (.slice a5 k cap5) := (hgrow.block (rb + 1) hszc (fun e => by have := (HROWX.out.lt _ e.symm).1; omega)).trans ((Below.heap_alloc _ _ _ (lt_of_block HCB2.out)).trans HCB2.out)
            have hr5 : CB w5 rb (.slice none 0 0) := (hgrow.block rb (by omega) (fun e => by have := (HROWX.out.lt _ e.symm).1; omega)).trans ((Below.heap_alloc _ _ _ (lt_of_block HRS2.out)).trans HRS2.out)
            obtain ⟨a6, cap6, rfl⟩ : ∃ a cap, v' = .slice a (k + 1) cap := by
              rw [HLK.out] at hown2
              rcases hown2.2 with ⟨h0, h1⟩ | ⟨g, cap, cur, h0, _⟩
              · cases h1
              · exact ⟨_, cap, h0⟩
            have r1 : w5.cell? ⟨rb + 1, 0, none⟩ = some (.slice a5 k cap5) := cell_of_row _ _ 0 _ _ _ hc5
            have r2 : w5.frozen? ⟨rb + 1, 0, none⟩ = false := frozen_of_row _ _ 0 _ _ hc5
            have HPW6 := Lib.hid (hpw.off (b := rb + 1) (i := 0) (y := .slice a6 (k + 1) cap6) (by omega))
            have HCB6 : Hid (CB (w5.setCell ⟨rb + 1, 0, none⟩ (.slice a6 (k + 1) cap6)) (rb + 1) (.slice a6 (k + 1) cap6)) := heap_set_same hc5
            have HRS6 : Hid (CB (w5.setCell ⟨rb + 1, 0, none⟩ (.slice a6 (k + 1) cap6)) rb (.slice none 0 0)) := (Below.heap_setCell _ _ _ _ (by show rb ≠ rb + 1; omega)).trans hr5
            have HBW6 : Hid (Below rb w (w5.setCell ⟨rb + 1, 0, none⟩ (.slice a6 (k + 1) cap6))) := hbw.setCell (p := ⟨rb + 1, 0, none⟩) (by show rb ≤ rb + 1; omega) _
            clear hown hgrow hown2 hpw hbw x0 x1 x2 x3 hszc hc5 hr5
            go_wp2_with fail
            go_roundw
            case rel => exact ⟨k + 1, _, _, by omega, by omega, by go_num, HPW6, HCB6, HRS6, HBW6⟩
            case measure => simp [intOf]; omega
    · have HE : Hid (ml ps 4 = (ps.take k).map mk) := by
        unfold Hid ml
        by_cases hkk : k = 4
        · rw [hkk]
        · have h1 : k = m := by omega
          rw [h1, HM.out, List.take_length, List.take_of_length_le (by rw [← HM.out]; omega)]
      have x3 : wo.cell? ⟨rb + 1, 0, none⟩ = some (.slice a5 k cap5) := cell_of_row _ _ 0 _ _ _ HCB.out
      have x4 : wo.cell? ⟨rb + 1, 1, none⟩ = some (.slice none 0 0) := cell_of_row _ _ 1 _ _ _ HCB.out
      have r0 : wo.cell? ⟨rb, 0, none⟩ = some (.slice none 0 0) := cell_of_row _ _ 0 _ _ _ HRS.out
      have r1 : wo.cell? ⟨rb, 1, none⟩ = some (.slice none 0 0) := cell_of_row _ _ 1 _ _ _ HRS.out
      have f0 := frozen_of_row _ _ 0 _ _ HRS.out
      have f1 := frozen_of_row _ _ 1 _ _ HRS.out
      have hs0 := heap_set_same (i := 0) (v := .slice a5 k cap5) HRS.out
      have hs1 := heap_set_same (i := 1) (v := .slice none 0 0) hs0
      have j0 : (wo.setCell ⟨rb, 0, none⟩ (.slice a5 k cap5)).cell? ⟨rb, 0, none⟩ = some (.slice a5 k cap5) := cell_of_row _ _ 0 _ _ _ hs0
      have j1 : ((wo.setCell ⟨rb, 0, none⟩ (.slice a5 k cap5)).setCell ⟨rb, 1, none⟩ (.slice none 0 0)).cell? ⟨rb, 1, none⟩ = some (.slice none 0 0) := cell_of_row _ _ 1 _ _ _ hs1
      have HPE : Hid (PW ((wo.setCell ⟨rb, 0, none⟩ (.slice a5 k cap5)).setCell ⟨rb, 1, none⟩ (.slice none 0 0)) rb (.slice a5 k cap5) (ml ps 4)) := by
        rw [HE.out]
        exact ((HO.out.off (by omega)).off (by omega)).mono (by omega)
      have HBE : Hid (Below rb w ((wo.setCell ⟨rb, 0, none⟩ (.slice a5 k cap5)).setCell ⟨rb, 1, none⟩ (.slice none 0 0))) := (HB.out.setCell (p := ⟨rb, 0, none⟩) (Nat.le_refl _) _).setCell (p := ⟨rb, 1, none⟩) (Nat.le_refl _) _
      clear hs0 hs1 HE HO HCB HRS HB
      have hexit : (k < m ∧ decide ((k : Int) < 4) = false) ∨ (¬ k < m ∧ decide ((k : Int) < m) = false) := by
        by_cases hkm2 : k < m
        · exact Or.inl ⟨hkm2, by simp; omega⟩
        · exact Or.inr ⟨hkm2, by simp; omega⟩
      rcases hexit with ⟨hkm2, hd4⟩ | ⟨hkm2, hd4⟩
      all_goals
        go_wp2_with fail
        refine bodyPost_ret (v := .agg #[.slice a5 k cap5, .slice none 0 0]) (by simp [results, Try.results5, go_sem, j0, j1]) rfl ⟨_, rfl, by rw [← HRB.out]; exact HPE.out, by rw [← HRB.out]; exact HBE.out⟩
end Go.Proofs.Ytbdiekolkniajaa
