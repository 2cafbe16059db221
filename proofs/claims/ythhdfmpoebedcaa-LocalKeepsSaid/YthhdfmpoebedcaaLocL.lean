/- LocalAll. -/
import Derived.Test.YthhdfmpoebedcaaLocI
import Derived.Test.YthhdfmpoebedcaaLocMb
namespace Go.Proofs.Ythhdfmpoebedcaa
open Go.RowKit Tk De Dl Lo Ed Go.Sort
set_option linter.unusedVariables false

def askF (z : Nat → Nat → Int) (t : Nat) (i : Nat) : Nat := (z i 2).toNat * jobs (De.per z i) (dea z i) t
theorem plain_sm (p : Pn) (t : Nat) : plainN p t = sm (askF p.z t) p.n := rfl
theorem wr2 {x : Int} (h0 : 0 ≤ x) (h : x ≤ 1099511627776) : IntKind.i64.wrap x = x ∧ wrap64 x = x := ⟨IntWalk.i64_in _ (by omega), by unfold wrap64; omega⟩
theorem ask_step {z : Nat → Nat → Int} {t i : Nat} (h : tOK (z i) = true) (ht : t ≤ 30000) : askF z t i ≤ 1920000 ∧
    (decide (z i 1 ≤ (t : Int)) = false → askF z t i = 0) ∧ (decide (z i 1 ≤ (t : Int)) = true → ∃ d e : Int, (t : Int) - z i 1 = d ∧ d.tdiv (z i 0) = e ∧ (1 + e) * z i 2 = (askF z t i : Nat) ∧
      (IntKind.i64.wrap d = d ∧ wrap64 d = d) ∧ (IntKind.i64.wrap e = e ∧ wrap64 e = e) ∧ (IntKind.i64.wrap (1 + e) = 1 + e ∧ wrap64 (1 + e) = 1 + e) ∧ (IntKind.i64.wrap ((askF z t i : Nat) : Int) = (askF z t i : Nat) ∧ wrap64 ((askF z t i : Nat) : Int) = (askF z t i : Nat))) := by
  obtain ⟨h1, h2, h3, h4, h5, h6⟩ := tOK_iff.1 h
  have hj : jobs (De.per z i) (dea z i) t ≤ t := jobs_le (by unfold De.per; omega) (by unfold dea; omega)
  have hb : (z i 2).toNat * jobs (De.per z i) (dea z i) t ≤ 64 * 30000 := Nat.mul_le_mul (by omega) (by omega)
  have hb2 : askF z t i ≤ 1920000 := hb
  refine ⟨hb2, fun hd => ?_, fun hd => ?_⟩
  · have hd := of_decide_eq_false hd
    unfold askF jobs dea
    rw [if_pos (by omega), Nat.mul_zero]
  · have hd := of_decide_eq_true hd
    have hle : dea z i ≤ t := by unfold dea; omega
    have hq : (t - dea z i) / De.per z i ≤ t - dea z i := Nat.div_le_self _ _
    have hp : z i 0 = (De.per z i : Int) := by unfold De.per; omega
    have hD : z i 1 = (dea z i : Int) := by unfold dea; omega
    obtain ⟨E, hE⟩ : ∃ E : Nat, E = (t - dea z i) / De.per z i := ⟨_, rfl⟩
    rw [← hE] at hq
    refine ⟨((t - dea z i : Nat) : Int), (E : Int), by omega, ?_, ?_, wr2 (by omega) (by omega), wr2 (by omega) (by omega), wr2 (by omega) (by omega), wr2 (by omega) (by omega)⟩
    · rw [Int.tdiv_eq_ediv_of_nonneg (by omega), hp, hE]
      rfl
    · unfold askF jobs
      rw [if_neg (by omega), Nat.mul_comm, ← hE]
      push_cast
      rw [Int.toNat_of_nonneg (by omega)]
theorem sm_bd {z : Nat → Nat → Int} {t : Nat} : ∀ {n : Nat}, (∀ i, i < n → askF z t i ≤ 1920000) → sm (askF z t) n ≤ n * 1920000
  | 0, _ => Nat.zero_le _
  | n + 1, h => by
    have h1 := sm_bd (n := n) (fun i hi => h i (by omega))
    have h2 := h n (by omega)
    rw [sm]; omega
set_option maxRecDepth 100000 in
set_option maxHeartbeats 4000000 in
theorem asks_any {w : World} {per bud : Int} {a : Option Addr} {n cap : Nat} {z : Nat → Nat → Int} (hT : TK w (.slice a n cap) n z) (hn : n ≤ 4) (hg : ∀ i, i < n → tOK (z i) = true) {t : Nat} (ht : t ≤ 30000) :
    Calls Try.prog 12 #[pv per bud a n cap, .int .i64 t] w (YI (sm (askF z t) n : Nat) w) := by
  have HK := Lib.hid (KB.made w per bud a n cap)
  have HT := Lib.hid hT
  have hmx : n ≤ 9223372036854775807 := by omega
  have HP0 : Hid (∀ i, i < n → (z i 0 == 0) = false) := fun i hi => by have := (tOK_iff.1 (hg i hi)).1; simp; omega
  have HST := Lib.hid (fun i (hi : i < n) => ask_step (hg i hi) ht)
  have HBD : Hid (∀ i, i ≤ n → IntKind.i64.wrap ((sm (askF z t) i : Nat) : Int) = (sm (askF z t) i : Nat) ∧ wrap64 ((sm (askF z t) i : Nat) : Int) = (sm (askF z t) i : Nat)) := fun i hi => by
    refine wr2 (by omega) ?_
    have := sm_bd (z := z) (t := t) (n := i) (fun k hk => (ask_step (hg k (by omega)) ht).1)
    omega
  have HSM : Hid (∀ i, sm (askF z t) (i + 1) = sm (askF z t) i + askF z t i) := fun i => rfl
  unfold pvo at HK
  clear hT hg hn ht
  go_enter Try.func12, Try.ntmps12
  go_wp2_with fail
  go_loopw [5, 6] (fun s i wr => ∃ k : Nat, k ≤ n ∧ i = .int .i64 k ∧ s = .int .i64 (sm (askF z t) k : Nat) ∧ Hid (KB w wr per bud a n cap)) (fun _ i _ => n - (intOf i).toNat)
  case atStart => exact ⟨0, by omega, rfl, rfl, HK.out⟩
  case round =>
    clear HK
    obtain ⟨k, hk, rfl, rfl, HK⟩ := hrel
    have d2 := HK.out.c2
    by_cases hlt : k < n
    · obtain ⟨b, off, rfl, c⟩ := (HT.out.below HK.out.b).at hlt
      obtain ⟨c0, c1, c2, c3, c4, c5, c6, c7⟩ := c
      obtain ⟨hs0, hsn, hsy⟩ := HST.out k hlt
      have hb1 : True := trivial
      have hb2 := HBD.out (k + 1) (by omega)
      have hst := HSM.out k
      have hkI : (k : Int) < n := by omega
      have hk0 : (0 : Int) ≤ k := by omega
      have HK2 := Lib.hid (HK.out.alloc (tko (z k)))
      obtain ⟨S2, hS2⟩ : ∃ S2, S2 = sm (askF z t) (k + 1) := ⟨_, rfl⟩
      have HS2 := Lib.hid hS2
      rw [← hS2] at hst hb2
      unfold tko at HK2
      cases hd : decide (z k 1 ≤ (t : Int)) with
      | false =>
        have h0 := hsn hd
        have hE : S2 = sm (askF z t) k := by rw [hst, h0, Nat.add_zero]
        have HE := Lib.hid hE
        clear hsn hsy hst hb1 hb2 hs0 hS2 h0 hE
        generalize sm (askF z t) k = S1 at *
        go_wp2_with fail
        go_roundw
        case rel => exact ⟨k + 1, by omega, by go_num, by rw [← HS2.out, HE.out], HK2.out⟩
        case measure => simp [intOf]; omega
      | true =>
        obtain ⟨d, e, hd2, hd3, hd5, ⟨w1, v1⟩, ⟨w2, v2⟩, ⟨w3, v3⟩, w4, v4⟩ := hsy hd
        have hp0 : (z k 0 == 0) = false := HP0.out k hlt
        have hzn : z k 0 ≠ 0 := by simpa using hp0
        have hst2 : ((sm (askF z t) k : Nat) : Int) + (askF z t k : Nat) = S2 := by rw [hst]; push_cast; rfl
        obtain ⟨w5, v5⟩ := hb2
        rw [← hst2] at w5 v5
        have HS3 : Hid (((sm (askF z t) k : Nat) : Int) + (askF z t k : Nat) = S2) := hst2
        generalize sm (askF z t) k = S1 at *
        rw [← hd5] at w4 v4
        rw [← hd5] at w5 v5 HS3
        rw [← hd2] at w1 v1 hd3
        rw [← hd3] at w2 v2 w3 v3 w4 v4 w5 v5 HS3
        clear hsn hsy hst hb1 hs0 hS2 hd2 hd3 hd5 hst2
        go_wp2_with fail
        go_quiet (fail)
        go_wp2_with fail
        go_roundw
        case rel => exact ⟨k + 1, by omega, by go_num, by rw [← HS2.out, ← HS3.out], HK2.out.below (below_drewN (Below.refl _ _) _)⟩
        case measure => simp [intOf]; omega
    · obtain rfl : k = n := by omega
      go_wp2_with fail
      go_ret
      exact ⟨rfl, HK.out.b⟩
theorem teR_at {l : List Pn} (h : chkP l = true) {q : Nat} (hq : q < l.length) : teR l (q : Int) = if (l.getD q p0).n = 0 then (0, 0) else teN l q := by
  unfold teR
  rw [h, if_pos rfl, if_pos ⟨by omega, by omega⟩]
  rfl
theorem slR_at {l : List Pn} (h : chkP l = true) {q : Nat} (hq : q < l.length) {t : Nat} (ht : t ≤ 1048576) : slR l (q : Int) (t : Int) = (slk l q t, 0) := by
  unfold slR
  rw [h, if_pos rfl, if_pos ⟨by omega, by omega⟩, if_pos ⟨by omega, by omega⟩]
  rfl
/-- the error that the test answers: none, with the partition passing; or one of two -/
theorem te_cases {l : List Pn} (h : chkP l = true) {q : Nat} (hq : q < l.length) : ((teR l (q : Int)).2 = 0 ∧ ((l.getD q p0).n = 0 ∨ Pass l q)) ∨ (teR l (q : Int)).2 = 120 ∨ (teR l (q : Int)).2 = 5 := by
  rw [teR_at h hq]
  by_cases hn : (l.getD q p0).n = 0
  · rw [if_pos hn]; exact Or.inl ⟨rfl, Or.inl hn⟩
  · rw [if_neg hn]
    by_cases hz : (teN l q).2 = 0
    · exact Or.inl ⟨hz, Or.inr (teN_ok.1 hz)⟩
    · exact Or.inr (teN_no hz)
theorem pass_asks {l : List Pn} (h : chkP l = true) {q : Nat} (hq : q < l.length) (hp : (l.getD q p0).n = 0 ∨ Pass l q) (t : Nat) (hs : slk l q t < 0) : sm (askF (l.getD q p0).z t) (l.getD q p0).n = 0 := by
  rcases hp with hn | hp
  · rw [hn]; rfl
  · by_cases hn : (l.getD q p0).n = 0
    · rw [hn]; rfl
    · rw [← plain_sm]
      by_cases h0 : plainN (l.getD q p0) t = 0
      · exact h0
      · have h1 := plain_le h hq t
        have := slk_all h hq (by omega) hp.u hp.s t (by omega)
        omega
set_option maxRecDepth 100000 in
set_option maxHeartbeats 8000000 in
theorem all_law {w : World} {v : Value} {ps : List Pn} (h : PS w v ps) (part t : Int) : Calls Try.prog 3 #[v, .int .i64 part, .int .i64 t] w (TrueB w) := by
  obtain ⟨va, vc, rfl, _, _⟩ := h.slice
  have HM := Lib.hid (made_any h 4 (by decide))
  have HOK := Lib.hid (ml_ok (ps := ps) (most := 4) (by decide))
  have HLL : Hid ((ml ps 4).length ≤ 4) := by unfold Hid; rw [ml_len]; omega
  have HWK := Lib.hid works_any
  generalize ml ps 4 = L at *
  generalize ps.length = pl at *
  clear h
  go_enter Try.func3, Try.ntmps3
  go_wp2_with fail
  refine HM.out.mono ?_
  rintro e w1 ⟨r, rfl, hpw, hb⟩
  have HP := Lib.hid hpw.ps
  have HB := Lib.hid hb
  obtain ⟨ra, rc, rfl, hr1, hr2⟩ := hpw.ps.slice
  obtain ⟨n, hn⟩ : ∃ n, n = L.length := ⟨_, rfl⟩
  have HN := Lib.hid hn
  rw [← hn] at HP ⊢
  have hn4 : n ≤ 4 := by rw [hn]; exact HLL.out
  clear hb hpw hn hr1 hr2 HM
  by_cases hn0 : n = 0
  · subst hn0
    go_wp2_with fail
    refine (HWK.out _).mono ?_
    rintro e w2 ⟨rfl, hb⟩
    have HB2 := Lib.hid (chn HB.out hb)
    clear hb
    go_wp2_with fail
    go_ret
    exact ⟨rfl, HB2.out⟩
  · have hz : ((n : Int) == 0) = false := by simp; omega
    have hz2 : (n == 0) = false := by simp; omega
    have HBR := Lib.hid (fun W => bring_bn part n W (by omega) (by omega))
    have hkl := bn_lt part (n := n) (by omega)
    generalize bn part n = k at *
    have hkL : k < L.length := by rw [← HN.out]; exact hkl
    have HTE := Lib.hid (fun W (b : Below w1.heap.size w1 W) => Test_any (HP.out.below b) (k : Int))
    have HSL := Lib.hid (fun W (b : Below w1.heap.size w1 W) (at' : Nat) (ha : at' ≤ 1048576) => Slack_fit (slR_at HOK.out hkL ha) (HP.out.below b))
    have HCS := Lib.hid (te_cases HOK.out hkL)
    have HPA := Lib.hid (pass_asks HOK.out hkL)
    have HPB := Lib.hid (chkP_at HOK.out hkL)
    obtain ⟨A, hA⟩ : ∃ A, A = (teR L (k : Int)).1 := ⟨_, rfl⟩
    obtain ⟨E, hE⟩ : ∃ E, E = (teR L (k : Int)).2 := ⟨_, rfl⟩
    rw [← hA, ← hE] at HTE
    rw [← hE] at HCS
    clear hA hE
    have HKL := Lib.hid hkL
    clear hkL hn4
    rcases HCS.out with ⟨rfl, hp⟩ | rfl | rfl
    · have HP2 := Lib.hid (HPA.out hp)
      clear HCS HPA hp
      go_wp2_with fail
      refine (HBR.out _).mono ?_
      rintro e w' ⟨rfl, rfl⟩
      go_wp2_with fail
      refine (HTE.out _ (Below.refl _ _)).mono ?_
      rintro e w2 ⟨rfl, hb⟩
      have HB2 := Lib.hid hb
      clear hb HTE HBR
      go_wp2_with fail
      go_loopw [10] (fun i wr => ∃ j : Nat, j ≤ 60 ∧ i = .int .i64 j ∧ Hid (Below w1.heap.size w1 wr)) (fun i _ => 60 - (intOf i).toNat)
      case atStart => exact ⟨0, by omega, rfl, HB2.out⟩
      case round =>
        clear HB2
        obtain ⟨j, hj, rfl, HB2⟩ := hrel
        by_cases hlt : j < 60
        · have hd : decide ((j : Int) < 60) = true := by simp; omega
          have hjj : wrap64 ((j : Int) * j) = (j : Int) * j := by
            have e : (j : Int) * j = ((j * j : Nat) : Int) := by push_cast; rfl
            have h2 : j * j ≤ 60 * 60 := Nat.mul_le_mul (by omega) (by omega)
            rw [e]
            exact (wr2 (Int.natCast_nonneg _) (by omega)).2
          obtain ⟨u, hu⟩ : ∃ u, u = wrap64 (t + (j : Int) * j) := ⟨_, rfl⟩
          have hu2 : wrap64 (t + (j : Int) * j) = u := hu.symm
          have HBT := Lib.hid (fun W => bring_bn u 30000 W (by decide) (by decide))
          have hat := bn_lt u (n := 30000) (by decide)
          obtain ⟨at', hat'⟩ : ∃ at', at' = bn u 30000 := ⟨_, rfl⟩
          rw [← hat'] at HBT hat
          have HS := Lib.hid (HSL.out _ HB2.out at' (by omega))
          have HP3 := Lib.hid (HP2.out at')
          obtain ⟨s, hs⟩ : ∃ s, s = slk L k at' := ⟨_, rfl⟩
          rw [← hs] at HS HP3
          have HAT : Hid (at' ≤ 30000) := by unfold Hid; omega
          have hki : (k : Int) < n := by omega
          have hk0 : (0 : Int) ≤ k := by omega
          clear hu hat' hat hs
          cases hsd : decide (s < 0) with
          | false =>
            go_wp2_with fail
            refine (HBT.out _).mono ?_
            rintro e w' ⟨rfl, rfl⟩
            go_wp2_with fail
            refine HS.out.mono ?_
            rintro e w3 ⟨rfl, hb⟩
            have HB3 := Lib.hid (chn HB2.out hb)
            clear hb HS HBT HP3
            go_wp2_with fail
            go_roundw
            case rel => exact ⟨j + 1, by omega, by go_num, HB3.out⟩
            case measure => simp [intOf]; omega
          | true =>
            have HZ := Lib.hid (HP3.out (of_decide_eq_true hsd))
            go_wp2_with fail
            refine (HBT.out _).mono ?_
            rintro e w' ⟨rfl, rfl⟩
            go_wp2_with fail
            refine HS.out.mono ?_
            rintro e w3 ⟨rfl, hb⟩
            have HB3 := Lib.hid (chn HB2.out hb)
            clear hb HS HBT HP3 HB2
            obtain ⟨b, off, ta, tcap, rfl, d0, d1, d2, hT, l1, l2, l3⟩ := (HP.out.below HB3.out).at hkl
            have hpb := HPB.out
            have HAS := Lib.hid (asks_any (per := (L.getD k p0).per) (bud := (L.getD k p0).bud) hT hpb.n4 (fun i hi => (hpb.t i hi).ok) HAT.out)
            rw [HZ.out] at HAS
            clear hpb HZ hT l1 l2 l3
            generalize (L.getD k p0).n = pn at *
            generalize (L.getD k p0).per = per at *
            generalize (L.getD k p0).bud = bud at *
            go_wp2_with fail
            refine HAS.out.mono ?_
            rintro e w4 ⟨rfl, hb⟩
            have HB4 := Lib.hid (chn HB3.out hb)
            clear hb HAS HB3 d0 d1 d2
            go_wp2_with fail
            go_roundw
            case rel => exact ⟨j + 1, by omega, by go_num, HB4.out⟩
            case measure => simp [intOf]; omega
        · obtain rfl : j = 60 := by omega
          have hd : decide (((60 : Nat) : Int) < 60) = false := by decide
          go_wp2_with fail
          refine (HWK.out _).mono ?_
          rintro e w3 ⟨rfl, hb⟩
          have HB3 := Lib.hid (chn (chn HB.out HB2.out) hb)
          clear hb
          go_wp2_with fail
          go_ret
          exact ⟨rfl, HB3.out⟩
    · clear HCS HPA
      go_wp2_with fail
      refine (HBR.out _).mono ?_
      rintro e w' ⟨rfl, rfl⟩
      go_wp2_with fail
      refine (HTE.out _ (Below.refl _ _)).mono ?_
      rintro e w2 ⟨rfl, hb⟩
      have HB2 := Lib.hid (chn HB.out hb)
      clear hb HTE HBR
      go_wp2_with fail
      refine (HWK.out _).mono ?_
      rintro e w3 ⟨rfl, hb⟩
      have HB3 := Lib.hid (chn HB2.out hb)
      clear hb
      go_wp2_with fail
      go_ret
      exact ⟨rfl, HB3.out⟩
    · clear HCS HPA
      go_wp2_with fail
      refine (HBR.out _).mono ?_
      rintro e w' ⟨rfl, rfl⟩
      go_wp2_with fail
      refine (HTE.out _ (Below.refl _ _)).mono ?_
      rintro e w2 ⟨rfl, hb⟩
      have HB2 := Lib.hid (chn HB.out hb)
      clear hb HTE HBR
      go_wp2_with fail
      refine (HWK.out _).mono ?_
      rintro e w3 ⟨rfl, hb⟩
      have HB3 := Lib.hid (chn HB2.out hb)
      clear hb
      go_wp2_with fail
      go_ret
      exact ⟨rfl, HB3.out⟩
end Go.Proofs.Ythhdfmpoebedcaa
