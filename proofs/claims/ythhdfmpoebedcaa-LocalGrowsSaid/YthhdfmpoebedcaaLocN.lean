/- LocalGrows. -/
import Derived.Test.YthhdfmpoebedcaaLocAp
import Derived.Test.YthhdfmpoebedcaaLocL
namespace Go.Proofs.Ythhdfmpoebedcaa
open Go.RowKit Tk De Dl Lo Go.Sort
set_option linter.unusedVariables false

theorem te_zero {l : List Pn} (h : chkP l = true) {q : Nat} (hq : q < l.length) (hp : (l.getD q p0).n = 0 ∨ Pass l q) : (teR l (q : Int)).2 = 0 := by
  rw [teR_at h hq]
  by_cases hn : (l.getD q p0).n = 0
  · rw [if_pos hn]
  · rw [if_neg hn]
    rcases hp with hp | hp
    · exact absurd hp hn
    · exact teN_ok.2 hp
/-- with one more no test passes that does not pass without it -/
theorem te_app {L : List Pn} {X : Pn} (h : chkP L = true) (hX : PB X) (h2 : chkP (L ++ [X]) = true) {q : Nat} (hq : q < L.length) (hf : (teR (L ++ [X]) (q : Int)).2 = 0) : (teR L (q : Int)).2 = 0 := by
  have hq2 : q < (L ++ [X]).length := by rw [List.length_append]; omega
  have hg : (L ++ [X]).getD q p0 = L.getD q p0 := getD_app hq
  refine te_zero h hq ?_
  rcases te_cases h2 hq2 with ⟨_, hp⟩ | hp | hp
  · rw [hg] at hp
    rcases hp with hp | hp
    · exact Or.inl hp
    · refine Or.inr ((easy_app h hX hq).pass ?_ hp)
      rw [hg]
      exact chkP_at h hq
  · rw [hp] at hf; cases hf
  · rw [hp] at hf; cases hf
/-- alone, with a greater budget; with tasks of less, too -/
theorem te_easy {L : List Pn} (h : chkP L = true) {q : Nat} (hq : q < L.length) (hp : (teR L (q : Int)).2 = 0) {b : Int} (hb : (L.getD q p0).bud ≤ b) (hb2 : b ≤ (L.getD q p0).per) :
    (teR [⟨(L.getD q p0).per, b, (L.getD q p0).n, (L.getD q p0).z⟩] 0).2 = 0 ∧ (teR [⟨(L.getD q p0).per, b, (L.getD q p0).n, fun i => bare ((L.getD q p0).z i)⟩] 0).2 = 0 := by
  have hpb := chkP_at h hq
  have hpp : (L.getD q p0).n = 0 ∨ Pass L q := by
    rcases te_cases h hq with ⟨_, hp⟩ | h1 | h1
    · exact hp
    · rw [h1] at hp; cases hp
    · rw [h1] at hp; cases hp
  constructor
  · refine te_zero (q := 0) (chk_one (pb_more hpb hb hb2)) Nat.zero_lt_one ?_
    rcases hpp with hn | hq'
    · exact Or.inl hn
    · exact Or.inr ((easy_alone h hq hb).pass hpb hq')
  · refine te_zero (q := 0) (chk_one (pb_bare hpb hb hb2)) Nat.zero_lt_one ?_
    rcases hpp with hn | hq'
    · exact Or.inl hn
    · exact Or.inr ((easy_bare h hq hb).pass hpb hq')
set_option maxRecDepth 100000 in
set_option maxHeartbeats 16000000 in
theorem grows_law {w : World} {v : Value} {ps : List Pn} {q : Pn} {ob : Option Addr} {oc : Nat} (h : PS w v ps) (ht : TK w (.slice ob q.n oc) q.n q.z) (hn : q.n ≤ 2199023255552) (which : Int) :
    Calls Try.prog 4 #[v, .agg #[.int .i64 q.per, .int .i64 q.bud, .slice ob q.n oc], .int .i64 which] w (TrueB w) := by
  obtain ⟨va, vc, rfl, _, _⟩ := h.slice
  have HP := Lib.hid h; have HT := Lib.hid ht; have HN := Lib.hid hn
  have HOK := Lib.hid (ml_ok (ps := ps) (most := 3) (by decide))
  have HLL : Hid ((ml ps 3).length ≤ 3) := by unfold Hid; rw [ml_len]; omega
  have HMX : Hid (ml [q] 1 = [mk q]) := rfl
  have HX := Lib.hid (mk_ok q)
  have HM3 := Lib.hid (fun W (b : Below w.heap.size w W) => made_any (h.below b) 3 (by decide))
  have HWK := Lib.hid works_any
  generalize ml ps 3 = L at *
  generalize ps.length = pl at *
  obtain ⟨X, hX⟩ : ∃ X, X = mk q := ⟨_, rfl⟩
  rw [← hX] at HMX HX
  clear hX
  have HBX := Lib.hid (heap_alloc_new w (.cells #[.int .i64 q.per, .int .i64 q.bud, .slice ob q.n oc] 33))
  have HB0 := Lib.hid ((Below.refl w.heap.size w).alloc (Nat.le_refl _) (.cells #[.int .i64 q.per, .int .i64 q.bud, .slice ob q.n oc] 33))
  have mixed : Try.prog.follows .mixedOrders = true := by kernel_rfl
  clear h ht hn
  go_enter Try.func4, Try.ntmps4
  go_wp2_with fail
  refine (HM3.out _ HB0.out).mono ?_
  rintro e w2 ⟨r, rfl, hpw, hb⟩
  have B2 := Lib.hid (chn HB0.out hb)
  have K2 := Lib.hid ((hb.block _ (lt_of_block HBX.out)).trans HBX.out)
  have PW2 := Lib.hid hpw
  obtain ⟨ra, rc, rfl, _, _⟩ := hpw.ps.slice
  obtain ⟨n, hn⟩ : ∃ n, n = L.length := ⟨_, rfl⟩
  have HNL := Lib.hid hn
  rw [← hn] at PW2 ⊢
  have hn3 : n ≤ 3 := by rw [hn]; exact HLL.out
  have x0 : w2.cell? ⟨w.heap.size, 0, none⟩ = some (.int .i64 q.per) := cell_of_row _ _ 0 _ _ _ K2.out
  have x1 : w2.cell? ⟨w.heap.size, 1, none⟩ = some (.int .i64 q.bud) := cell_of_row _ _ 1 _ _ _ K2.out
  have x2 : w2.cell? ⟨w.heap.size, 2, none⟩ = some (.slice ob q.n oc) := cell_of_row _ _ 2 _ _ _ K2.out
  have hlit := part_lit w2 (HT.out.below B2.out) HN.out
  have HMK := Lib.hid (made_any hlit 1 (by decide))
  rw [HMX.out] at HMK
  have BL := Lib.hid ((Below.refl w2.heap.size w2).alloc (Nat.le_refl _) (.cells #[.int .i64 q.per, .int .i64 q.bud, .slice ob q.n oc] 33))
  clear hb hpw hn hlit HM3 HB0 HBX
  go_wp2_with fail
  refine HMK.out.mono ?_
  rintro e w3 ⟨r2, rfl, hpw, hb⟩
  have hb3 : Below w2.heap.size w2 w3 := BL.out.trans (hb.mono BL.out.size)
  have B3 := Lib.hid (chn B2.out hb3)
  have PW3 := Lib.hid (PW2.out.old hb3)
  have PX3 := Lib.hid hpw
  obtain ⟨xa, xc, hr2, _, _⟩ := hpw.ps.slice
  rw [show [X].length = 1 from rfl] at hr2
  subst hr2
  clear hb hb3 hpw HMK BL x0 x1 x2 K2 B2 PW2 HT HP
  by_cases hn0 : n = 0
  · subst hn0
    go_wp2_with fail
    refine (HWK.out _).mono ?_
    rintro e w4 ⟨rfl, hb⟩
    have HB4 := Lib.hid (chn B3.out hb)
    clear hb
    go_wp2_with fail
    go_ret
    exact ⟨rfl, HB4.out⟩
  · have hz : ((n : Int) == 0) = false := by simp; omega
    have hz2 : (n == 0) = false := by simp; omega
    have HBR := Lib.hid (fun W => bring_bn which n W (by omega) (by omega))
    have hkl := bn_lt which (n := n) (by omega)
    generalize bn which n = k at *
    have hkL : k < L.length := by rw [← HNL.out]; exact hkl
    have HTE := Lib.hid (Test_any PW3.out.ps (k : Int))
    obtain ⟨A, hA⟩ : ∃ A, A = (teR L (k : Int)).1 := ⟨_, rfl⟩
    obtain ⟨E, hE⟩ : ∃ E, E = (teR L (k : Int)).2 := ⟨_, rfl⟩
    have HEE := Lib.hid hE
    rw [← hA, ← hE] at HTE
    have HKL := Lib.hid hkL
    clear hA hE hkL
    go_wp2_with fail
    refine (HBR.out _).mono ?_
    rintro e w' ⟨rfl, rfl⟩
    go_wp2_with fail
    refine HTE.out.mono ?_
    rintro e w4 ⟨rfl, hb⟩
    have B4 := Lib.hid (chn B3.out hb)
    have PW4 := Lib.hid (PW3.out.old hb)
    have PX4 := Lib.hid (PX3.out.old hb)
    clear hb HTE HBR PW3 PX3 B3
    obtain ⟨v1, W1, v2, W2, a2, c2, hv2, r1, r2, hbig, hbb, a1, c1, hv1⟩ := big_facts PW4.out PX4.out (by show L.length + 1 ≤ 8; have := HLL.out; omega) 22 22
    rw [← HNL.out] at hv1 hv2
    have hv2' : v2 = .slice a2 (n + 1) c2 := hv2
    have R1 := Lib.hid r1; have R2 := Lib.hid r2
    have PL := Lib.hid (PW4.out.ps.below hbb)
    have BW := Lib.hid (chn B4.out hbb)
    have HOB := Lib.hid (app_ok HOK.out HLL.out HX.out)
    have HTB := Lib.hid (Test_any hbig (k : Int))
    obtain ⟨A2, hA2⟩ : ∃ A2, A2 = (teR (L ++ [X]) (k : Int)).1 := ⟨_, rfl⟩
    obtain ⟨F, hF⟩ : ∃ F, F = (teR (L ++ [X]) (k : Int)).2 := ⟨_, rfl⟩
    rw [← hA2, ← hF] at HTB
    have HFE : Hid (F = 0 → E = 0) := fun h0 => by rw [HEE.out]; exact te_app HOK.out HX.out HOB.out HKL.out (by rw [← hF]; exact h0)
    clear r1 r2 hbig hbb hv2 hA2 hF PW4 PX4 B4
    subst hv1 hv2'
    go_wp2_with (first
      | (at_builtin; refine wpList_append_eq rfl (.tmp 47) (.tmp 48) 22 22 rfl _ _ _ _ rfl rfl R1.out ?_)
      | (at_builtin; refine wpList_append_eq rfl (.tmp 49) (.tmp 50) 22 22 rfl _ _ _ _ rfl rfl R2.out ?_))
    clear R1 R2
    refine HTB.out.mono ?_
    rintro e w5 ⟨rfl, hb⟩
    have B5 := Lib.hid (chn BW.out hb)
    have PL5 := Lib.hid (PL.out.below hb)
    clear hb HTB BW PL
    by_cases he0 : E = 0
    · subst he0
      have HEZ := Lib.hid (fun (b : Int) (h1 : (L.getD k p0).bud ≤ b) (h2 : b ≤ (L.getD k p0).per) => te_easy HOK.out HKL.out HEE.out.symm h1 h2)
      have hpb := chkP_at HOK.out HKL.out
      obtain ⟨b1, off, ta, tcap, rfl, d0, d1, d2, hT, l1, l2, l3⟩ := PL5.out.at hkl
      have hki : (k : Int) < n := by omega
      have hk0 : (0 : Int) ≤ k := by omega
      have hq1 := hpb.p1; have hq2 := hpb.p2; have hq3 := hpb.b1; have hq4 := hpb.b2; have hq5 := hpb.n4
      have HTOK : Hid (∀ i, i < (L.getD k p0).n → tOK ((L.getD k p0).z i) = true) := fun i hi => (hpb.t i hi).ok
      have HTK := Lib.hid hT
      clear hpb HEE HFE HNL HLL HX HOB HOK HKL HMX PL5 l1 l2 l3 hT
      generalize (L.getD k p0).n = tn at *
      generalize (L.getD k p0).z = z at *
      generalize (L.getD k p0).per = per at *
      generalize (L.getD k p0).bud = bud at *
      have hmx : tn ≤ 9223372036854775807 := by omega
      obtain ⟨b, hb⟩ : ∃ b, b = min (bud + 1) per := ⟨_, rfl⟩
      have m1 : min (bud + 1) per = b := hb.symm
      have m2 : (if per < bud + 1 then per else bud + 1) = b := by rw [hb]; split <;> omega
      have m3 : (if bud + 1 ≤ per then bud + 1 else per) = b := by rw [hb]; split <;> omega
      have v1 : wrap64 (bud + 1) = bud + 1 := by unfold wrap64; omega
      obtain ⟨hz1, hz2'⟩ := HEZ.out b (by omega) (by omega)
      have HBT := Lib.hid hb
      have T1 := Lib.hid (fun (W : World) (x : Value) (h : PS W x [⟨per, b, tn, z⟩]) => Test_any h 0)
      have T2 := Lib.hid (fun (W : World) (x : Value) (h : PS W x [⟨per, b, tn, fun i => bare (z i)⟩]) => Test_any h 0)
      obtain ⟨G1, hG1⟩ : ∃ G1, G1 = (teR [⟨per, b, tn, z⟩] 0).1 := ⟨_, rfl⟩
      obtain ⟨G2, hG2⟩ : ∃ G2, G2 = (teR [⟨per, b, tn, fun i => bare (z i)⟩] 0).1 := ⟨_, rfl⟩
      rw [← hG1, hz1] at T1
      rw [← hG2, hz2'] at T2
      clear hG1 hG2 hz1 hz2' HEZ hb hq1 hq2 hq3 hq4
      obtain ⟨i0, hi, hy0, hy1, hy2⟩ := info_parts infoTk
      have HI := Lib.hid (⟨hi, hy0, hy1, hy2⟩ : _ ∧ _ ∧ _ ∧ _)
      clear hi hy0 hy1 hy2
      have hA1 := (Below.refl w5.heap.size w5).alloc (Nat.le_refl _) (.cells #[.int .i64 per, .int .i64 b, .slice ta tn tcap] 33)
      have hlit := part_lit (w5.alloc (.cells #[.int .i64 per, .int .i64 b, .slice ta tn tcap] 33)) (q := ⟨per, b, tn, z⟩) (HTK.out.below hA1) (by show tn ≤ 2199023255552; omega)
      rw [World.size_alloc] at hlit
      have HC1 := Lib.hid (T1.out _ _ hlit)
      have HA2 := Lib.hid (hA1.alloc (by rw [World.size_alloc]; exact Nat.le_succ _) (.cells #[.int .i64 per, .int .i64 b, .slice ta tn tcap] 33))
      have HK2 := Lib.hid ((Below.heap_alloc _ (.cells #[.int .i64 per, .int .i64 b, .slice ta tn tcap] 33) _ (lt_of_block (heap_alloc_new w5 (.cells #[.int .i64 per, .int .i64 b, .slice ta tn tcap] 33)))).trans (heap_alloc_new w5 (.cells #[.int .i64 per, .int .i64 b, .slice ta tn tcap] 33)))
      dsimp only at HC1
      clear T1 hA1 hlit
      go_wp2_with fail
      refine HC1.out.mono ?_
      rintro e w6 ⟨rfl, hb⟩
      have HK6 := Lib.hid ((hb.block _ (lt_of_block HK2.out)).trans HK2.out)
      have HA6 := Lib.hid (HA2.out.trans (hb.mono HA2.out.size))
      clear hb HC1 HA2 HK2 d0 d1 d2
      obtain ⟨bp, hbp⟩ : ∃ bp, bp = w5.heap.size := ⟨_, rfl⟩
      rw [← hbp] at HK6 HA6 ⊢
      have HBP := Lib.hid hbp
      clear hbp
      obtain ⟨zz, hzz⟩ : ∃ zz : Nat → Nat → Int, zz = fun i => bare (z i) := ⟨_, rfl⟩
      have HZ : Hid (∀ i, zz i = bare (z i)) := fun i => by rw [hzz]
      rw [← hzz] at T2
      clear hzz
      go_wp2_with fail
      go_loopw [17, 18] (fun o i wr => ∃ j : Nat, j ≤ tn ∧ i = .int .i64 j ∧ Hid (wr.heap[bp]? = some (.cells #[.int .i64 per, .int .i64 b, .slice ta tn tcap] 33 (0, 0))) ∧ Hid (TW wr (bp + 1) o j zz) ∧ Hid (Below bp w5 wr)) (fun _ i _ => tn - (intOf i).toNat)
      case atStart => exact ⟨0, by omega, rfl, HK6.out, World.ownsRow_nil _ _ _ _, HA6.out⟩
      case round =>
        rename_i o _
        clear HK6 HA6
        obtain ⟨j, hj, rfl, HK, HW, HA⟩ := hrel
        have HAo : Hid (Below w5.heap.size w5 wr) := by rw [← HBP.out]; exact HA.out
        have e2 := cell_of_row _ _ 2 _ _ _ HK.out
        change _ = some (Value.slice ta tn tcap) at e2
        by_cases hlt : j < tn
        · obtain ⟨tb, toff, rfl, c0, c1, c2, c3, c4, c5, c6, c7⟩ := (HTK.out.below HAo.out).at hlt
          obtain ⟨ta3, tcap3, hov⟩ := HW.out.slice
          subst hov
          have hok := tOK_iff.1 (HTOK.out j hlt)
          have hjI : (j : Int) < tn := by omega
          have hj0 : (0 : Int) ≤ j := by omega
          obtain ⟨mb, hmb⟩ : ∃ mb, mb = max (z j 2 - 1) 1 := ⟨_, rfl⟩
          have n1 : max (z j 2 - 1) 1 = mb := hmb.symm
          have n2 : (if z j 2 - 1 < 1 then (1 : Int) else z j 2 - 1) = mb := by rw [hmb]; split <;> omega
          have n3 : (if z j 2 - 1 ≤ 1 then (1 : Int) else z j 2 - 1) = mb := by rw [hmb]; split <;> omega
          have u1 : wrap64 (z j 2 - 1) = z j 2 - 1 := by unfold wrap64; omega
          have HROW : Hid (zrow (zz j) = [.int .i64 (z j 0), .int .i64 (z j 1), .int .i64 mb, .int .i64 0, .int .i64 0, .int .i64 0, .int .i64 0, .int .i64 0]) := by
            unfold Hid
            rw [HZ.out, hmb]
            rfl
          have HWX := Lib.hid (World.ownsRow.alloc HW.out (.cells #[.int .i64 (z j 0), .int .i64 (z j 1), .int .i64 (z j 2), .int .i64 (z j 3), .int .i64 (z j 4), .int .i64 (z j 5), .int .i64 (z j 6), .int .i64 (z j 7)] 36))
          have HKX : Hid ((wr.alloc (.cells #[.int .i64 (z j 0), .int .i64 (z j 1), .int .i64 (z j 2), .int .i64 (z j 3), .int .i64 (z j 4), .int .i64 (z j 5), .int .i64 (z j 6), .int .i64 (z j 7)] 36)).heap[bp]? = some (.cells #[.int .i64 per, .int .i64 b, .slice (some ⟨tb, toff, none⟩) tn tcap] 33 (0, 0))) := ((Below.refl _ wr).alloc (Nat.le_refl _) (.cells #[.int .i64 (z j 0), .int .i64 (z j 1), .int .i64 (z j 2), .int .i64 (z j 3), .int .i64 (z j 4), .int .i64 (z j 5), .int .i64 (z j 6), .int .i64 (z j 7)] 36)).block _ (lt_of_block HK.out) |>.trans HK.out
          have HBS : Hid (bp < wr.heap.size) := lt_of_block HK.out
          have HAX : Hid (Below bp w5 (wr.alloc (.cells #[.int .i64 (z j 0), .int .i64 (z j 1), .int .i64 (z j 2), .int .i64 (z j 3), .int .i64 (z j 4), .int .i64 (z j 5), .int .i64 (z j 6), .int .i64 (z j 7)] 36))) := HA.out.alloc (Nat.le_of_lt HBS.out) (.cells #[.int .i64 (z j 0), .int .i64 (z j 1), .int .i64 (z j 2), .int .i64 (z j 3), .int .i64 (z j 4), .int .i64 (z j 5), .int .i64 (z j 6), .int .i64 (z j 7)] 36)
          have Hm1 : Hid (j + 1 ≤ maxLen) := by unfold Hid maxLen; omega
          have Hm2 : Hid ((j + 1) * 64 ≤ 140737488355328) := by unfold Hid; omega
          clear hok hmb HK HW HA HAo e2
          have e2 := cell_of_row _ _ 2 _ _ _ HKX.out
          change _ = some (Value.slice _ tn tcap) at e2
          have e2' := (Below.heap_alloc wr (.cells #[.int .i64 (z j 0), .int .i64 (z j 1), .int .i64 (z j 2), .int .i64 (z j 3), .int .i64 (z j 4), .int .i64 (z j 5), .int .i64 (z j 6), .int .i64 (z j 7)] 36) bp HBS.out)
          have e3 : wr.cell? ⟨bp, 2, none⟩ = some (.slice (some ⟨tb, toff, none⟩) tn tcap) := (World.cell?_of_block (a := ⟨bp, 2, none⟩) e2').symm.trans e2
          clear e2'
          go_wp2_with (at_builtin; refine wpList_append_own _ rfl _ _ 31 rfl (bp + 1) 36 i0 (.agg #[.int .i64 0, .int .i64 0, .int .i64 0, .int .i64 0, .int .i64 0, .int .i64 0, .int .i64 0, .int .i64 0]) 8 64 Try.underlying31 HI.out.1 HI.out.2.1 HI.out.2.2.1 HI.out.2.2.2 rfl (by decide) _ j _ rfl (World.ownsRow.alloc HWX.out _) ⟨wr.heap.size + 1, 0, none⟩ 1 1 [.int .i64 (z j 0), .int .i64 (z j 1), .int .i64 mb, .int .i64 0, .int .i64 0, .int .i64 0, .int .i64 0, .int .i64 0] rfl rfl (lit_add (by simp) _ _) (ones_eight _ _ _ _ _ _ _ _) Hm1.out Hm2.out (by have := HBS.out; simp; omega) ?_)
          intro v' w9 hown hgrow _
          have hown2 : w9.ownsRow (bp + 1) 36 8 v' (j + 1) (zflat zz (j + 1)) := by
            rw [show zflat zz (j + 1) = zflat zz j ++ zrow (zz j) from rfl, HROW.out]; exact hown
          have hgrow : ((wr.alloc (.cells #[.int .i64 (z j 0), .int .i64 (z j 1), .int .i64 (z j 2), .int .i64 (z j 3), .int .i64 (z j 4), .int .i64 (z j 5), .int .i64 (z j 6), .int .i64 (z j 7)] 36)).alloc (.cells #[.int .i64 (z j 0), .int .i64 (z j 1), .int .i64 mb, .int .i64 0, .int .i64 0, .int .i64 0, .int .i64 0, .int .i64 0] 36)).grownBy w9 _ := hgrow
          have hsz9 : bp < ((wr.alloc (.cells #[.int .i64 (z j 0), .int .i64 (z j 1), .int .i64 (z j 2), .int .i64 (z j 3), .int .i64 (z j 4), .int .i64 (z j 5), .int .i64 (z j 6), .int .i64 (z j 7)] 36)).alloc (.cells #[.int .i64 (z j 0), .int .i64 (z j 1), .int .i64 mb, .int .i64 0, .int .i64 0, .int .i64 0, .int .i64 0, .int .i64 0] 36)).heap.size := by rw [World.size_alloc]; exact Nat.lt_succ_of_lt (lt_of_block HKX.out)
          have hk9 := (hgrow.block bp hsz9 (fun e => by have := (HWX.out.lt _ e.symm).1; omega)).trans ((Below.heap_alloc _ (.cells #[.int .i64 (z j 0), .int .i64 (z j 1), .int .i64 mb, .int .i64 0, .int .i64 0, .int .i64 0, .int .i64 0, .int .i64 0] 36) _ (lt_of_block HKX.out)).trans HKX.out)
          have ha9 := (HAX.out.alloc (Nat.le_of_lt (lt_of_block HKX.out)) (.cells #[.int .i64 (z j 0), .int .i64 (z j 1), .int .i64 mb, .int .i64 0, .int .i64 0, .int .i64 0, .int .i64 0, .int .i64 0] 36)).grown hgrow (Nat.le_of_lt hsz9) (fun q hq => by have := (HWX.out.lt q hq).1; omega)
          obtain ⟨ta5, tcap5, rfl⟩ := TW.slice hown2
          have HK9 := Lib.hid hk9; have HA9 := Lib.hid ha9; have HW9 : Hid (TW w9 (bp + 1) (.slice ta5 (j + 1) tcap5) (j + 1) zz) := hown2
          clear hown hgrow hown2 hk9 ha9 hsz9 HWX HAX HKX
          go_wp2_with fail
          go_roundw
          case rel => exact ⟨j + 1, by omega, by go_num, HK9, HW9, HA9⟩
          case measure => simp [intOf]; omega
        · obtain rfl : j = tn := by omega
          obtain ⟨ta3, tcap3, hov⟩ := HW.out.slice
          subst hov
          have HBS : Hid (bp < wr.heap.size) := lt_of_block HK.out
          have r2 : wr.frozen? ⟨bp, 2, none⟩ = false := frozen_of_row _ _ 2 _ _ HK.out
          have HK9 : Hid ((wr.setCell ⟨bp, 2, none⟩ (.slice ta3 j tcap3)).heap[bp]? = some (.cells #[.int .i64 per, .int .i64 b, .slice ta3 j tcap3] 33 (0, 0))) := heap_set_same HK.out
          have HW9 : Hid (TW (wr.setCell ⟨bp, 2, none⟩ (.slice ta3 j tcap3)) (bp + 1) (.slice ta3 j tcap3) j zz) := HW.out.kept set_grown (by
            cases e : (Value.slice ta3 j tcap3).ownBlock with
            | none => exact Or.inl rfl
            | some g => exact Or.inr (fun e6 => by have h7 := (HW.out.lt _ e).1; have := Option.some.inj e6; omega))
          have HA9 : Hid (Below bp w5 (wr.setCell ⟨bp, 2, none⟩ (.slice ta3 j tcap3))) := HA.out.setCell (p := ⟨bp, 2, none⟩) (Nat.le_refl _) _
          have hlit := part_lit (wr.setCell ⟨bp, 2, none⟩ (.slice ta3 j tcap3)) (q := ⟨per, b, j, zz⟩) HW9.out.tk (by show j ≤ 2199023255552; omega)
          simp only [World.size_setCell] at hlit
          have HC2 := Lib.hid (T2.out _ _ hlit)
          change Hid (Calls _ _ _ _ _) at HC2
          have HBA := Lib.hid ((Below.refl _ (wr.setCell ⟨bp, 2, none⟩ (.slice ta3 j tcap3))).alloc (Nat.le_refl _) (.cells #[.int .i64 per, .int .i64 b, .slice ta3 j tcap3] 33))
          have y0 := cell_of_row _ _ 0 _ _ _ HK9.out
          have y1 := cell_of_row _ _ 1 _ _ _ HK9.out
          have y2 := cell_of_row _ _ 2 _ _ _ HK9.out
          change _ = some (Value.int .i64 per) at y0
          change _ = some (Value.int .i64 b) at y1
          change _ = some (Value.slice ta3 j tcap3) at y2
          clear hlit T2 HW HA HW9
          go_wp2_with fail
          refine HC2.out.mono ?_
          rintro e w10 ⟨rfl, hb⟩
          have HAF : Hid (Below w.heap.size w w10) := B5.out.trans (((by rw [← HBP.out]; exact HA9.out : Below w5.heap.size w5 (wr.setCell ⟨bp, 2, none⟩ (.slice ta3 j tcap3))).trans ((HBA.out.trans (hb.mono HBA.out.size)).mono (by rw [World.size_setCell]; have := HBS.out; have := HBP.out; omega))).mono B5.out.size)
          clear hb HC2 HBA y0 y1 y2 e2 r2
          go_wp2_with fail
          refine (HWK.out _).mono ?_
          rintro e w11 ⟨rfl, hb⟩
          have HF2 := Lib.hid (chn HAF.out hb)
          clear hb
          go_wp2_with fail
          go_ret
          exact ⟨rfl, HF2.out⟩
    · have heb : (E != 0) = true := by simpa using he0
      have hfb : (F == 0) = false := by
        have h1 : F ≠ 0 := fun h0 => he0 (HFE.out h0)
        simpa using h1
      go_wp2_with fail
      refine (HWK.out _).mono ?_
      rintro e w6 ⟨rfl, hb⟩
      have HB6 := Lib.hid (chn B5.out hb)
      clear hb
      go_wp2_with fail
      go_ret
      exact ⟨rfl, HB6.out⟩
end Go.Proofs.Ythhdfmpoebedcaa
