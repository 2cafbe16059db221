/- LocalKeeps. -/
import Derived.Test.YthhdfmpoebedcaaLocX
import Derived.BigQuiet
namespace Go.Proofs.Ythhdfmpoebedcaa
open Go.RowKit Tk De Dl Lo Su Go.Sort
set_option linter.unusedVariables false

/-- the loops' head: nobody is late, as long as the state is such -/
def InTime (p : Pn) (run : Nat → Bool) : Prop := ∀ (t : Nat) (l e x : Nat → Nat), t ≤ 400 → KS p run t l e x → ∀ k, k < p.n → 0 < l k → e k ≤ t → False
theorem in_time_of {p : Pn} (hp : PB p) (hq : p.n = 0 ∨ Pass [p] 0) {run : Nat → Bool} {K : Nat} (hr : Runs p.per.toNat p.bud.toNat run K) (hK : 400 ≤ K * p.per.toNat) : InTime p run := by
  intro t l e x ht h k hk hl he
  rcases hq with hn | hq
  · omega
  · exact ks_in_time hp (by omega) hq hr (by omega) h hk hl he
theorem JS.drewN {W : World} {g n : Nat} {e l : Nat → Nat} (h : JS W g n e l) (m : Nat) : JS (W.drewN m) g n e l := h
theorem NS.drewN {W : World} {g n : Nat} {x : Nat → Nat} (h : NS W g n x) (m : Nat) : NS (W.drewN m) g n x := h
theorem upd_upd (f : Nat → Nat) (k a b : Nat) : upd (upd f k a) k b = upd f k b := by
  funext i
  unfold upd
  split <;> rfl
theorem wr_sum {a b : Int} {c : Nat} (h : a + b = (c : Int)) (hc : c ≤ 1099511627776) : wrap64 (a + b) = (c : Int) ∧ IntKind.i64.wrap (a + b) = (c : Int) := by
  rw [h]
  exact ⟨(wr2 (by omega) (by omega)).2, (wr2 (by omega) (by omega)).1⟩
theorem JS.mid {W : World} {g n : Nat} {e l : Nat → Nat} (h : JS W g n e l) {k : Nat} (hk : k < n) (v : Value) : (W.setCell ⟨g, k * 2, none⟩ v).drew.cell? ⟨g, k * 2 + 1, none⟩ = some (.int .i64 (l k : Nat)) ∧ (W.setCell ⟨g, k * 2, none⟩ v).drew.frozen? ⟨g, k * 2 + 1, none⟩ = false := by
  obtain ⟨cur, h1, h2, h3⟩ := h
  have h4 : (W.setCell ⟨g, k * 2, none⟩ v).drew.heap[g]? = some (.cells (cur.setIfInBounds (k * 2) v) 43 (0, 0)) := heap_set_same h1
  refine ⟨(cell_of_row _ _ _ _ _ _ h4).trans ?_, frozen_of_row _ _ _ _ _ h4⟩
  rw [Array.getElem?_setIfInBounds, if_neg (by omega)]
  exact (h3 k hk).2
/-- a job is released: the numbers -/
theorem rel_facts {X : Pn} (hp : PB X) {run : Nat → Bool} {t : Nat} (ht : t ≤ 400) {l e x : Nat → Nat} (h : KS X run t l e x) {k : Nat} (hk : k < X.n) (hx : x k ≤ t) : ∃ E L X1 : Nat, (t : Int) + X.z k 1 = (E : Int) ∧ X.z k 2 = (L : Int) ∧ (t : Int) + X.z k 0 = (X1 : Int) ∧ E ≤ 464 ∧ L ≤ 64 ∧ X1 ≤ 464 ∧
    ∀ X2 : Nat, X1 ≤ X2 → KS X run t (upd l k L) (upd e k E) (upd x k X2) := by
  obtain ⟨g1, g2, g3, g4, g5, g6⟩ := tOK_iff.1 ((hp.t k hk).ok)
  refine ⟨t + dea X.z k, bnd X k, t + De.per X.z k, ?_, ?_, ?_, ?_, ?_, ?_, fun X2 h2 => ?_⟩
  · unfold dea; omega
  · unfold bnd; omega
  · unfold De.per; omega
  · unfold dea; omega
  · unfold bnd; omega
  · unfold De.per; omega
  · refine ks_release hp h hk hx (upd_at _ _ _) (upd_at _ _ _) ?_ (fun i hne => ⟨upd_ne _ _ hne, upd_ne _ _ hne, upd_ne _ _ hne⟩)
    rw [upd_at]
    exact h2
set_option maxRecDepth 100000 in
set_option maxHeartbeats 40000000 in
theorem keeps_law {w : World} {q : Pn} {ob : Option Addr} {oc : Nat} {v1 v2 : Value} {hs ls : List Int} (ht : TK w (.slice ob q.n oc) q.n q.z) (hn : q.n ≤ 2199023255552) (h1 : IS w v1 hs) (h2 : IS w v2 ls) :
    Calls Try.prog 5 #[.agg #[.int .i64 q.per, .int .i64 q.bud, .slice ob q.n oc], v1, v2] w (TrueB w) := by
  obtain ⟨va1, vc1, rfl, hc1, hm1⟩ := h1.slice
  obtain ⟨va2, vc2, rfl, hc2, hm2⟩ := h2.slice
  have HT := Lib.hid ht; have HN := Lib.hid hn; have HI1 := Lib.hid h1; have HI2 := Lib.hid h2
  have HL2 : Hid (ls.length ≤ 9223372036854775807) := by unfold Hid; unfold maxLen at hm2; omega
  generalize hhn : hs.length = hn1 at *
  have HMX : Hid (ml [q] 1 = [mk q]) := rfl
  have HX := Lib.hid (mk_ok q)
  have HWK := Lib.hid works_any
  obtain ⟨P, hP⟩ : ∃ P : Nat, (mk q).per = (P : Int) := ⟨mPer q, rfl⟩
  obtain ⟨B, hB⟩ : ∃ B : Nat, (mk q).bud = (B : Int) := ⟨mBud q, rfl⟩
  obtain ⟨X, hX⟩ : ∃ X, X = mk q := ⟨_, rfl⟩
  rw [← hX] at HMX HX hP hB
  clear hX
  have HBX := Lib.hid (heap_alloc_new w (.cells #[.int .i64 q.per, .int .i64 q.bud, .slice ob q.n oc] 33))
  have HB0 := Lib.hid ((Below.refl w.heap.size w).alloc (Nat.le_refl _) (.cells #[.int .i64 q.per, .int .i64 q.bud, .slice ob q.n oc] 33))
  have mixed : Try.prog.follows .mixedOrders = true := by kernel_rfl
  clear ht hn h1 h2 hc1 hm1 hc2 hm2 hhn
  generalize hls : ls.length = hn2 at *
  have HLS := Lib.hid hls
  clear hls
  go_enter Try.func5, Try.ntmps5
  go_wp2_with fail
  refine (HWK.out _).mono ?_
  rintro e w2 ⟨rfl, hb⟩
  have B2 := Lib.hid (chn HB0.out hb)
  have K2 := Lib.hid ((hb.block _ (lt_of_block HBX.out)).trans HBX.out)
  have x0 : w2.cell? ⟨w.heap.size, 0, none⟩ = some (.int .i64 q.per) := cell_of_row _ _ 0 _ _ _ K2.out
  have x1 : w2.cell? ⟨w.heap.size, 1, none⟩ = some (.int .i64 q.bud) := cell_of_row _ _ 1 _ _ _ K2.out
  have x2 : w2.cell? ⟨w.heap.size, 2, none⟩ = some (.slice ob q.n oc) := cell_of_row _ _ 2 _ _ _ K2.out
  have hlit := part_lit w2 (HT.out.below B2.out) HN.out
  have HMK := Lib.hid (made_any hlit 1 (by decide))
  rw [HMX.out] at HMK
  have BL := Lib.hid ((Below.refl w2.heap.size w2).alloc (Nat.le_refl _) (.cells #[.int .i64 q.per, .int .i64 q.bud, .slice ob q.n oc] 33))
  clear hb hlit HB0 HBX HWK
  go_wp2_with fail
  refine HMK.out.mono ?_
  rintro e w3 ⟨r2, rfl, hpw, hb⟩
  have hb3 : Below w2.heap.size w2 w3 := BL.out.trans (hb.mono BL.out.size)
  have B3 := Lib.hid (chn B2.out hb3)
  have PX3 := Lib.hid hpw
  obtain ⟨xa, xc, hr2, _, _⟩ := hpw.ps.slice
  rw [show [X].length = 1 from rfl] at hr2
  subst hr2
  obtain ⟨b2, off2, tb, tcap, rfl, f0, f1, f2, hS, k1, k2, k3⟩ := hpw.ps.at (i := 0) (by decide)
  change w3.cell? ⟨b2, off2 + 0 * 3, none⟩ = some (.int .i64 X.per) at f0
  change w3.cell? ⟨b2, off2 + 0 * 3 + 1, none⟩ = some (.int .i64 X.bud) at f1
  change w3.cell? ⟨b2, off2 + 0 * 3 + 2, none⟩ = some (.slice tb X.n tcap) at f2
  change TK w3 (.slice tb X.n tcap) X.n X.z at hS
  rw [Nat.zero_mul, Nat.add_zero] at f0 f1 f2
  have HTK := Lib.hid hS
  have HTE := Lib.hid (fun W (b : Below w3.heap.size w3 W) => Test_any (hpw.ps.below b) 0)
  have HCS := Lib.hid (te_cases (l := [X]) (q := 0) (chk_one HX.out) Nat.zero_lt_one)
  obtain ⟨A, hA⟩ : ∃ A, A = (teR [X] 0).1 := ⟨_, rfl⟩
  obtain ⟨E, hE⟩ : ∃ E, E = (teR [X] 0).2 := ⟨_, rfl⟩
  rw [← hA, ← hE] at HTE
  have HCS2 : Hid ((E = 0 ∧ (X.n = 0 ∨ Pass [X] 0)) ∨ E = 120 ∨ E = 5) := by
    unfold Hid
    rw [hE]
    exact HCS.out
  have HPW := Lib.hid HX.out.n4
  rw [hP] at f0
  rw [hB] at f1
  obtain ⟨n, hnX⟩ : ∃ n, n = X.n := ⟨_, rfl⟩
  obtain ⟨z, hzX⟩ : ∃ z, z = X.z := ⟨_, rfl⟩
  have HNX := Lib.hid hnX; have HZX := Lib.hid hzX; have HPX := Lib.hid hP; have HBXX := Lib.hid hB
  rw [← hnX] at f2 HTK HPW HCS2
  rw [← hzX] at HTK
  have hA4 := (Below.refl w3.heap.size w3).alloc (Nat.le_refl _) (.cells #[.int .i64 P, .int .i64 B, .slice tb n tcap] 33)
  have HA4 := Lib.hid hA4
  have HC4 := Lib.hid (HTE.out _ hA4)
  have HK4 := Lib.hid (heap_alloc_new w3 (.cells #[.int .i64 P, .int .i64 B, .slice tb n tcap] 33))
  clear hA hE hnX hzX hP hB hb hb3 hpw HMK BL x0 x1 x2 K2 B2 HT HMX HN hS k1 k2 k3 HTE HCS hA4
  go_wp2_with fail
  refine HC4.out.mono ?_
  rintro e w4 ⟨rfl, hb⟩
  have HB4 := Lib.hid (B3.out.trans ((HA4.out.trans (hb.mono HA4.out.size)).mono B3.out.size))
  have HK5 := Lib.hid ((hb.block _ (lt_of_block HK4.out)).trans HK4.out)
  have HTK5 := Lib.hid (HTK.out.below (HA4.out.trans (hb.mono HA4.out.size)))
  obtain ⟨bp, hbp⟩ : ∃ bp, bp = w3.heap.size := ⟨_, rfl⟩
  rw [← hbp] at HK5 ⊢
  clear hbp hb HC4 HA4 HK4 HTK f0 f1 f2 B3 PX3
  rcases HCS2.out with ⟨rfl, hq⟩ | rfl | rfl
  · have HQ := Lib.hid hq
    clear hq HCS2
    have c0 := cell_of_row _ _ 0 _ _ _ HK5.out
    have c1 := cell_of_row _ _ 1 _ _ _ HK5.out
    have c2 := cell_of_row _ _ 2 _ _ _ HK5.out
    change _ = some (Value.int .i64 P) at c0
    change _ = some (Value.int .i64 B) at c1
    change _ = some (Value.slice tb n tcap) at c2
    have hpb := HX.out
    have hp1 := hpb.p1; have hp2 := hpb.p2; have hp3 := hpb.b1; have hp4 := hpb.b2
    rw [HPX.out] at hp1 hp2 hp4
    rw [HBXX.out] at hp3 hp4
    have HGV := Lib.hid (given_any (P := P) (B := B) (ta := tb) (tn := n) (tcap := tcap) (by omega) (by omega) (by omega) (HI1.out.below HB4.out))
    have HP64 : Hid (1 ≤ P ∧ P ≤ 64) := by unfold Hid; omega
    clear hpb hp1 hp2 hp3 hp4
    go_wp2_with fail
    refine HGV.out.mono ?_
    rintro e w5 ⟨u, bs, K, rfl, hob, hlen, h400, h464, hruns, hb⟩
    have HB5 := Lib.hid (chn HB4.out hb)
    have HK6 := Lib.hid ((hb.block _ (lt_of_block HK5.out)).trans HK5.out)
    have HTK6 := Lib.hid (HTK5.out.below hb)
    have HOB := Lib.hid hob
    have HIT : Hid (InTime X (bt bs)) := in_time_of HX.out (by rw [← HNX.out]; exact HQ.out) (K := K) (by rw [HPX.out, HBXX.out]; exact hruns) (by rw [HPX.out]; show 400 ≤ K * P; omega)
    obtain ⟨oa, ocap, hov⟩ := hob.form
    subst hov
    have HBL := Lib.hid h400
    have HBL2 := Lib.hid h464
    clear hb hob hlen h400 h464 hruns HGV HK5 HTK5 HB4 HQ c0 c1 c2
    have c2 := cell_of_row _ _ 2 _ _ _ HK6.out
    change _ = some (Value.slice tb n tcap) at c2
    obtain ⟨i0, hi, hz0, hz1, hz2⟩ := info_parts infoJb
    obtain ⟨i1, hj, hy0, hy1, hy2⟩ := info_parts infoIn
    have hn4 : n ≤ 4 := HPW.out
    have hml : n ≤ maxLen := by unfold maxLen; omega
    have hmx : n ≤ 9223372036854775807 := by omega
    go_wp2_with (first
      | (at_make; refine wpList_make_full _ rfl _ _ 41 rfl w5.heap.size 43 i0 _ 2 Try.underlying41 hi hz0 hz1 .i64 .i64 _ _ n rfl rfl rfl rfl (by rw [hz2]; omega) hml (Nat.le_refl _) ?_; intro V hown hgrow; have HV := Lib.hid ((Below.refl w5.heap.size w5).grown hgrow (Nat.le_refl _) (fun k hk => by cases hk)); have HJ0 := Lib.hid (js_made (own_full hown).1); have c2' := (HV.out.cell (World.block_lt_of_cell? _ _ c2)).trans c2; clear hown hgrow)
      | (at_make; refine wpList_make_full _ rfl _ _ 38 rfl V.heap.size 3 i1 _ 1 Try.underlying38 hj hy0 hy1 .i64 .i64 _ _ n rfl rfl rfl rfl (by rw [hy2]; omega) hml (Nat.le_refl _) ?_; intro V2 hown hgrow; have HV2 := Lib.hid ((Below.refl V.heap.size V).grown hgrow (Nat.le_refl _) (fun k hk => by cases hk)); have HN0 := Lib.hid (ns_made (own_full hown).1); clear hown hgrow))
    have HJN : Hid (w5.heap.size < V.heap.size) := HJ0.out.lt
    have HJ1 := Lib.hid (HJ0.out.below HV2.out)
    have HB6 : Hid (Below w5.heap.size w5 V2) := HV.out.trans (HV2.out.mono HV.out.size)
    obtain ⟨jb, hjb⟩ : ∃ jb, jb = w5.heap.size := ⟨_, rfl⟩
    obtain ⟨nb, hnb⟩ : ∃ nb, nb = V.heap.size := ⟨_, rfl⟩
    rw [← hjb] at HJ1 HB6 HJN ⊢
    rw [← hnb] at HN0 HJN ⊢
    have HJB := Lib.hid hjb
    clear hjb hnb c2 c2' HV HV2 HJ0 hi hz0 hz1 hz2 hj hy0 hy1 hy2 hml
    have HSZ : ∀ W, Below jb w5 W → Below w5.heap.size w5 W := fun W b => by rw [← HJB.out]; exact b
    have HSZ := Lib.hid HSZ
    have HKS : Hid (KS X (bt bs) 0 (fun _ => 0) (fun _ => 0) (fun _ => 0)) := ks_start X (bt bs) (fun _ _ => rfl)
    have HBD0 : Hid (BDN n (fun _ => 0) (fun _ => 0) (fun _ => 0)) := fun i hi => ⟨Nat.zero_le _, Nat.zero_le _, Nat.zero_le _⟩
    have HTO : Hid (∀ i, i < n → TB X.bud (z i)) := fun i hi => by rw [HZX.out]; exact HX.out.t i (by rw [← HNX.out]; exact hi)
    go_wp2_with fail
    go_loopw [14, 15] (fun dv tv W => ∃ (t d : Nat) (l e x : Nat → Nat), t ≤ 400 ∧ tv = .int .i64 t ∧ dv = .int .i64 d ∧ d ≤ 4 * t ∧ Hid (BDN n e l x) ∧ Hid (KS X (bt bs) t l e x) ∧ Hid (JS W jb n e l) ∧ Hid (NS W nb n x) ∧ Hid (Below jb w5 W)) (fun _ tv _ => 400 - (intOf tv).toNat)
    case atStart => exact ⟨0, 0, _, _, _, by omega, rfl, rfl, by omega, HBD0.out, HKS.out, HJ1.out, HN0.out, HB6.out⟩
    case round =>
      clear HJ1 HN0 HB6 HKS HBD0
      obtain ⟨t, d, l, e, x, ht4, rfl, rfl, hd4, HBD, HKS, HJ, HN, HB⟩ := hrel
      by_cases hlt : t < 400
      · have hdt : decide ((t : Int) < 400) = true := by simp; omega
        have hdt2 : decide (t < 400) = true := by simp; omega
        have HTL : Hid (t < 400) := hlt
        go_wp2_with fail
        clear hdt hdt2
        obtain ⟨wo, rfl⟩ : ∃ wo, wo = wr := ⟨_, rfl⟩
        go_loopw [14, 16] (fun dv iv W => ∃ (i d : Nat) (l e x : Nat → Nat), i ≤ n ∧ iv = .int .i64 i ∧ dv = .int .i64 d ∧ d ≤ 4 * t + i ∧ Hid (BDN n e l x) ∧ Hid (KS X (bt bs) t l e x) ∧ Hid (JS W jb n e l) ∧ Hid (NS W nb n x) ∧ Hid (Below jb w5 W)) (fun _ iv _ => n - (intOf iv).toNat)
        case atStart => exact ⟨0, d, l, e, x, by omega, rfl, rfl, by omega, HBD.out, HKS.out, HJ.out, HN.out, HB.out⟩
        case round =>
          clear HBD HKS HJ HN HB hd4
          obtain ⟨i, d, l, e, x, hi, rfl, rfl, hd4, HBD, HKS, HJ, HN, HB⟩ := hrel
          by_cases hin : i < n
          · by_cases hlp : 0 < l i
            · obtain ⟨hbe, hbl, hbx⟩ := HBD.out i hin
              have HRF := Lib.hid (fun (hx : (x i : Nat) ≤ t) => rel_facts HX.out (Nat.le_of_lt HTL.out) HKS.out (by rw [← HNX.out]; exact hin) hx)
              rw [← HZX.out] at HRF
              obtain ⟨j0, j1, g0, g1⟩ := HJ.out.at hin
              obtain ⟨m0, m1⟩ := HN.out.at hin
              have kb2 := (HB.out.cell (p := ⟨bp, 2, none⟩) (by rw [HJB.out]; exact lt_of_block HK6.out)).trans (cell_of_row _ _ 2 _ _ _ HK6.out)
              change _ = some (Value.slice tb n tcap) at kb2
              obtain ⟨b, off, rfl, c0, c1, c2, _, _, _, _, _⟩ := (HTK6.out.below (HSZ.out _ HB.out)).at hin
              have hiI : (i : Int) < n := by omega
              have hi0 : (0 : Int) ≤ i := by omega
              have hnl : ¬ e i ≤ t := fun hc => HIT.out t l e x (Nat.le_of_lt HTL.out) HKS.out i (by rw [← HNX.out]; exact hin) hlp hc
              obtain ⟨ei, hei⟩ : ∃ ei, ei = e i := ⟨_, rfl⟩
              rw [← hei] at j0 hnl hbe
              have hla : decide ((ei : Int) ≤ t) = false := by simp; omega
              have hla2 : decide (ei ≤ t) = false := by simp; omega
              obtain ⟨li, hli⟩ : ∃ li, li = l i := ⟨_, rfl⟩
              rw [← hli] at j1 hbl hlp
              have hl0 : decide ((0 : Int) < li) = true := by simp; omega
              have hl1 : decide (0 < li) = true := by simp; omega
              have HLK := Lib.hid hli
              clear hnl hei hli hlp
              obtain ⟨xi, hxi⟩ : ∃ xi, xi = x i := ⟨_, rfl⟩
              rw [← hxi] at m0 hbx HRF
              clear hxi
              cases hrl : decide (xi ≤ t) with
              | false =>
                have hrl2 : decide ((xi : Int) ≤ t) = false := by have := of_decide_eq_false hrl; simp; omega
                clear HRF
                go_wp2_with fail
                go_roundw
                case rel => exact ⟨i + 1, d, l, e, x, by omega, by go_num, rfl, by omega, HBD.out, HKS.out, HJ.out, HN.out, HB.out⟩
                case measure => simp [intOf]; omega
              | true =>
                have hrl2 : decide ((xi : Int) ≤ t) = true := by have := of_decide_eq_true hrl; simp; omega
                by_cases hl2 : 0 < hn2
                · obtain ⟨E1, L1, X1, hE1, hL1, hX1, hE2, hL2, hX2, hRL⟩ := HRF.out (of_decide_eq_true hrl)
                  have HRL := Lib.hid hRL
                  obtain ⟨we1, we2⟩ := wr_sum hE1 (by omega)
                  obtain ⟨wx1, wx2⟩ := wr_sum hX1 (by omega)
                  have HE2 := Lib.hid hE2; have HL2b := Lib.hid hL2; have HX2 := Lib.hid hX2
                  rw [hL1] at c2
                  clear hL1 hE1 hX1 hE2 hL2 hX2 hRL HRF
                  generalize z i 1 = z1 at *
                  generalize hz0 : z i 0 = z0 at *
                  have HJ1 := Lib.hid (JS.drew (JS.both HJ.out hin E1 L1))
                  have HN1 := Lib.hid (NS.drew ((HN.out.off (o := i * 2) (Nat.ne_of_gt HJN.out) (.int .i64 (E1 : Nat))).off (o := i * 2 + 1) (Nat.ne_of_gt HJN.out) (.int .i64 (L1 : Nat))))
                  have HB1 : Hid (Below jb w5 ((wr.setCell ⟨jb, i * 2, none⟩ (.int .i64 (E1 : Nat))).setCell ⟨jb, i * 2 + 1, none⟩ (.int .i64 (L1 : Nat))).drew) := ((HB.out.setCell (p := ⟨jb, i * 2, none⟩) (Nat.le_refl _) _).setCell (p := ⟨jb, i * 2 + 1, none⟩) (Nat.le_refl _) _).drew
                  obtain ⟨s4, s5⟩ := HJ.out.mid hin (.int .i64 (E1 : Nat))
                  have f2 : wr.drew.cell? ⟨bp, 2, none⟩ = some (.slice (some ⟨b, off, none⟩) n tcap) := kb2
                  have f3 : wr.drew.cell? ⟨b, off + i * 8 + 1, none⟩ = some (.int .i64 z1) := c1
                  have f4 : wr.drew.cell? ⟨b, off + i * 8 + 2, none⟩ = some (.int .i64 (L1 : Nat)) := c2
                  have s0 : wr.drew.cell? ⟨jb, i * 2, none⟩ = some (.int .i64 (ei : Nat)) := j0
                  have s1 : wr.drew.cell? ⟨jb, i * 2 + 1, none⟩ = some (.int .i64 (li : Nat)) := j1
                  rw [← HLK.out] at s4
                  have s2 : wr.drew.frozen? ⟨jb, i * 2, none⟩ = false := g0
                  have s3 : wr.drew.frozen? ⟨jb, i * 2 + 1, none⟩ = false := g1
                  go_wp2_with fail
                  clear m0 m1
                  refine wp_region_still_tail 18 mixed (by kernel_rfl) ?_
                  simp only [List.take_succ_cons, List.take_zero, List.drop_succ_cons, List.drop_zero]
                  change wpStill _ _ wr.drew _ _ _
                  repeat still_step
                  refine wpStill_nil ?_
                  clear f2 f3 f4
                  have y2 := (HB1.out.cell (p := ⟨bp, 2, none⟩) (by rw [HJB.out]; exact lt_of_block HK6.out)).trans (cell_of_row _ _ 2 _ _ _ HK6.out)
                  change _ = some (Value.slice (some ⟨b, off, none⟩) n tcap) at y2
                  have y0 := ((HTK6.out.below (HSZ.out _ HB1.out)).at hin)
                  obtain ⟨b', off', hbb, yc⟩ := y0
                  obtain ⟨rfl, rfl⟩ : b = b' ∧ off = off' := by simpa using hbb
                  have y0 := yc.c0
                  rw [hz0] at y0
                  have m0 := (HN1.out.at hin).1
                  have m1 := (HN1.out.at hin).2
                  clear hbb yc c0 c1 c2 kb2
                  have HN2 := Lib.hid (HN1.out.set hin X1)
                  have HJ2 := Lib.hid (HJ1.out.off (o := i) (Nat.ne_of_lt HJN.out) (.int .i64 (X1 : Nat)))
                  have HB2 := Lib.hid (HB1.out.setCell (p := ⟨nb, i, none⟩) (Nat.le_of_lt HJN.out) (.int .i64 (X1 : Nat)))
                  clear HJ1 HN1 HB1 HJ HN HB
                  have hlt0 : decide ((0 : Int) < hn2) = true := by simp; omega
                  have hlt1 : decide (0 < hn2) = true := by simp; omega
                  have hnz : ((hn2 : Int) == 0) = false := by simp; omega
                  have hnz2 : ¬ hn2 = 0 := by omega
                  have hmod : (d : Int).tmod (hn2 : Int) = ((d % hn2 : Nat) : Int) := by rw [Int.tmod_eq_emod_of_nonneg (by omega)]; rfl
                  have hmod2 : ((d : Int)) % hn2 = ((d % hn2 : Nat) : Int) := rfl
                  have hm := Nat.mod_lt d hl2
                  have hmx2 := HL2.out
                  have HN2 : Hid (NS (((wr.setCell ⟨jb, i * 2, none⟩ (.int .i64 (E1 : Nat))).setCell ⟨jb, i * 2 + 1, none⟩ (.int .i64 (L1 : Nat))).setCell ⟨nb, i, none⟩ (.int .i64 (X1 : Nat))).drew nb n (upd x i X1)) := HN2.out
                  have HJ2 : Hid (JS (((wr.setCell ⟨jb, i * 2, none⟩ (.int .i64 (E1 : Nat))).setCell ⟨jb, i * 2 + 1, none⟩ (.int .i64 (L1 : Nat))).setCell ⟨nb, i, none⟩ (.int .i64 (X1 : Nat))).drew jb n (upd e i E1) (upd l i L1)) := HJ2.out
                  have HB2 : Hid (Below jb w5 (((wr.setCell ⟨jb, i * 2, none⟩ (.int .i64 (E1 : Nat))).setCell ⟨jb, i * 2 + 1, none⟩ (.int .i64 (L1 : Nat))).setCell ⟨nb, i, none⟩ (.int .i64 (X1 : Nat))).drew) := HB2.out
                  have hWW := HB5.out.trans ((HSZ.out _ HB2.out).mono HB5.out.size)
                  obtain ⟨b3, off3, rfl, cl⟩ := (HI2.out.below hWW).at (i := d % hn2) hm
                  obtain ⟨zl, hzl⟩ : ∃ zl, zl = ls.getD (d % hn2) 0 := ⟨_, rfl⟩
                  rw [← hzl] at cl
                  have HBr := Lib.hid (fun w => bring_q zl 30 w (by decide) (by decide))
                  have hr30 := bn_lt zl (n := 30) (by decide)
                  generalize bn zl 30 = r at *
                  obtain ⟨X2, hX2⟩ : ∃ X2 : Nat, ((X1 : Nat) : Int) + (r : Nat) = (X2 : Int) := ⟨X1 + r, by push_cast; rfl⟩
                  have HX3 : Hid (X1 ≤ X2 ∧ X2 ≤ 1000) := by have := HX2.out; unfold Hid; omega
                  obtain ⟨wy1, wy2⟩ := wr_sum hX2 (by have := HX3.out; omega)
                  generalize d % hn2 = dm at *
                  have hdm0 : (0 : Int) ≤ dm := by omega
                  have hdm1 : (dm : Int) < hn2 := by omega
                  have n0 := (HN2.out.at hin).1
                  have n1 := (HN2.out.at hin).2
                  rw [upd_at] at n0
                  have HN3 := Lib.hid (NS.set HN2.out.drew hin X2)
                  have HJ3 := Lib.hid (HJ2.out.drew.off (o := i) (Nat.ne_of_lt HJN.out) (.int .i64 (X2 : Nat)))
                  have HB3 := Lib.hid (HB2.out.drew.setCell (p := ⟨nb, i, none⟩) (Nat.le_of_lt HJN.out) (.int .i64 (X2 : Nat)))
                  clear hzl hX2 hr30 hWW
                  go_wp2_with fail
                  clear m0 m1 y0 y2 HJ2 HN2 HB2
                  generalize (((wr.setCell ⟨jb, i * 2, none⟩ (.int .i64 (E1 : Nat))).setCell ⟨jb, i * 2 + 1, none⟩ (.int .i64 (L1 : Nat))).setCell ⟨nb, i, none⟩ (.int .i64 (X1 : Nat))).drew = W2 at *
                  have p0 : W2.drew.cell? ⟨nb, i, none⟩ = some (.int .i64 (X1 : Nat)) := n0
                  have p1 : W2.drew.frozen? ⟨nb, i, none⟩ = false := n1
                  have p2 : W2.drew.cell? ⟨b3, off3 + dm, none⟩ = some (.int .i64 zl) := cl
                  clear n0 n1 cl s0 s1 s2 s3 s4 s5 j0 j1 g0 g1
                  refine wp_region_still_tail 16 mixed (by kernel_rfl) ?_
                  simp only [List.take_succ_cons, List.take_zero, List.drop_succ_cons, List.drop_zero]
                  change wpStill _ _ W2.drew _ _ _
                  repeat still_step
                  still_call (HBr.out _)
                  repeat still_step
                  refine wpStill_nil ?_
                  clear p2
                  rw [upd_upd] at HN3
                  go_wp2_with fail
                  go_roundw
                  case rel => exact ⟨i + 1, d + 1, _, _, _, by omega, by go_num, by go_num, by omega, (HBD.out.more i (by have := HE2.out; omega) (by have := HL2b.out; omega) HX3.out.2 : BDN n (upd e i E1) (upd l i L1) (upd x i X2)), HRL.out X2 HX3.out.1, HJ3.out, HN3.out, HB3.out⟩
                  case measure => simp [intOf]; omega
                · obtain ⟨E1, L1, X1, hE1, hL1, hX1, hE2, hL2, hX2, hRL⟩ := HRF.out (of_decide_eq_true hrl)
                  have HRL := Lib.hid hRL
                  obtain ⟨we1, we2⟩ := wr_sum hE1 (by omega)
                  obtain ⟨wx1, wx2⟩ := wr_sum hX1 (by omega)
                  have HE2 := Lib.hid hE2; have HL2b := Lib.hid hL2; have HX2 := Lib.hid hX2
                  rw [hL1] at c2
                  clear hL1 hE1 hX1 hE2 hL2 hX2 hRL HRF
                  generalize z i 1 = z1 at *
                  generalize hz0 : z i 0 = z0 at *
                  have HJ1 := Lib.hid (JS.drew (JS.both HJ.out hin E1 L1))
                  have HN1 := Lib.hid (NS.drew ((HN.out.off (o := i * 2) (Nat.ne_of_gt HJN.out) (.int .i64 (E1 : Nat))).off (o := i * 2 + 1) (Nat.ne_of_gt HJN.out) (.int .i64 (L1 : Nat))))
                  have HB1 : Hid (Below jb w5 ((wr.setCell ⟨jb, i * 2, none⟩ (.int .i64 (E1 : Nat))).setCell ⟨jb, i * 2 + 1, none⟩ (.int .i64 (L1 : Nat))).drew) := ((HB.out.setCell (p := ⟨jb, i * 2, none⟩) (Nat.le_refl _) _).setCell (p := ⟨jb, i * 2 + 1, none⟩) (Nat.le_refl _) _).drew
                  obtain ⟨s4, s5⟩ := HJ.out.mid hin (.int .i64 (E1 : Nat))
                  have f2 : wr.drew.cell? ⟨bp, 2, none⟩ = some (.slice (some ⟨b, off, none⟩) n tcap) := kb2
                  have f3 : wr.drew.cell? ⟨b, off + i * 8 + 1, none⟩ = some (.int .i64 z1) := c1
                  have f4 : wr.drew.cell? ⟨b, off + i * 8 + 2, none⟩ = some (.int .i64 (L1 : Nat)) := c2
                  have s0 : wr.drew.cell? ⟨jb, i * 2, none⟩ = some (.int .i64 (ei : Nat)) := j0
                  have s1 : wr.drew.cell? ⟨jb, i * 2 + 1, none⟩ = some (.int .i64 (li : Nat)) := j1
                  rw [← HLK.out] at s4
                  have s2 : wr.drew.frozen? ⟨jb, i * 2, none⟩ = false := g0
                  have s3 : wr.drew.frozen? ⟨jb, i * 2 + 1, none⟩ = false := g1
                  go_wp2_with fail
                  clear m0 m1
                  refine wp_region_still_tail 18 mixed (by kernel_rfl) ?_
                  simp only [List.take_succ_cons, List.take_zero, List.drop_succ_cons, List.drop_zero]
                  change wpStill _ _ wr.drew _ _ _
                  repeat still_step
                  refine wpStill_nil ?_
                  clear f2 f3 f4
                  have y2 := (HB1.out.cell (p := ⟨bp, 2, none⟩) (by rw [HJB.out]; exact lt_of_block HK6.out)).trans (cell_of_row _ _ 2 _ _ _ HK6.out)
                  change _ = some (Value.slice (some ⟨b, off, none⟩) n tcap) at y2
                  have y0 := ((HTK6.out.below (HSZ.out _ HB1.out)).at hin)
                  obtain ⟨b', off', hbb, yc⟩ := y0
                  obtain ⟨rfl, rfl⟩ : b = b' ∧ off = off' := by simpa using hbb
                  have y0 := yc.c0
                  rw [hz0] at y0
                  have m0 := (HN1.out.at hin).1
                  have m1 := (HN1.out.at hin).2
                  clear hbb yc c0 c1 c2 kb2
                  have HN2 := Lib.hid (HN1.out.set hin X1)
                  have HJ2 := Lib.hid (HJ1.out.off (o := i) (Nat.ne_of_lt HJN.out) (.int .i64 (X1 : Nat)))
                  have HB2 := Lib.hid (HB1.out.setCell (p := ⟨nb, i, none⟩) (Nat.le_of_lt HJN.out) (.int .i64 (X1 : Nat)))
                  clear HJ1 HN1 HB1 HJ HN HB
                  have hlt0 : decide ((0 : Int) < hn2) = false := by simp; omega
                  have hlt1 : decide (0 < hn2) = false := by simp; omega
                  go_wp2_with fail
                  go_roundw
                  case rel => exact ⟨i + 1, d + 1, _, _, _, by omega, by go_num, by go_num, by omega, (HBD.out.more i (by have := HE2.out; omega) (by have := HL2b.out; omega) (by have := HX2.out; omega) : BDN n (upd e i E1) (upd l i L1) (upd x i X1)), HRL.out X1 (Nat.le_refl _), HJ2.out, HN2.out, HB2.out⟩
                  case measure => simp [intOf]; omega
            · obtain ⟨hbe, hbl, hbx⟩ := HBD.out i hin
              have HRF := Lib.hid (fun (hx : (x i : Nat) ≤ t) => rel_facts HX.out (Nat.le_of_lt HTL.out) HKS.out (by rw [← HNX.out]; exact hin) hx)
              rw [← HZX.out] at HRF
              obtain ⟨j0, j1, g0, g1⟩ := HJ.out.at hin
              obtain ⟨m0, m1⟩ := HN.out.at hin
              have kb2 := (HB.out.cell (p := ⟨bp, 2, none⟩) (by rw [HJB.out]; exact lt_of_block HK6.out)).trans (cell_of_row _ _ 2 _ _ _ HK6.out)
              change _ = some (Value.slice tb n tcap) at kb2
              obtain ⟨b, off, rfl, c0, c1, c2, _, _, _, _, _⟩ := (HTK6.out.below (HSZ.out _ HB.out)).at hin
              have hiI : (i : Int) < n := by omega
              have hi0 : (0 : Int) ≤ i := by omega
              obtain ⟨ei, hei⟩ : ∃ ei, ei = e i := ⟨_, rfl⟩
              rw [← hei] at j0 hbe
              obtain ⟨li, hli⟩ : ∃ li, li = l i := ⟨_, rfl⟩
              rw [← hli] at j1 hbl hlp
              have hl0 : decide ((0 : Int) < li) = false := by simp; omega
              have hl1 : decide (0 < li) = false := by simp; omega
              have HLK := Lib.hid hli
              clear hei hli hlp
              obtain ⟨xi, hxi⟩ : ∃ xi, xi = x i := ⟨_, rfl⟩
              rw [← hxi] at m0 hbx HRF
              clear hxi
              cases hrl : decide (xi ≤ t) with
              | false =>
                have hrl2 : decide ((xi : Int) ≤ t) = false := by have := of_decide_eq_false hrl; simp; omega
                clear HRF
                go_wp2_with fail
                go_roundw
                case rel => exact ⟨i + 1, d, l, e, x, by omega, by go_num, rfl, by omega, HBD.out, HKS.out, HJ.out, HN.out, HB.out⟩
                case measure => simp [intOf]; omega
              | true =>
                have hrl2 : decide ((xi : Int) ≤ t) = true := by have := of_decide_eq_true hrl; simp; omega
                by_cases hl2 : 0 < hn2
                · obtain ⟨E1, L1, X1, hE1, hL1, hX1, hE2, hL2, hX2, hRL⟩ := HRF.out (of_decide_eq_true hrl)
                  have HRL := Lib.hid hRL
                  obtain ⟨we1, we2⟩ := wr_sum hE1 (by omega)
                  obtain ⟨wx1, wx2⟩ := wr_sum hX1 (by omega)
                  have HE2 := Lib.hid hE2; have HL2b := Lib.hid hL2; have HX2 := Lib.hid hX2
                  rw [hL1] at c2
                  clear hL1 hE1 hX1 hE2 hL2 hX2 hRL HRF
                  generalize z i 1 = z1 at *
                  generalize hz0 : z i 0 = z0 at *
                  have HJ1 := Lib.hid (JS.drew (JS.both HJ.out hin E1 L1))
                  have HN1 := Lib.hid (NS.drew ((HN.out.off (o := i * 2) (Nat.ne_of_gt HJN.out) (.int .i64 (E1 : Nat))).off (o := i * 2 + 1) (Nat.ne_of_gt HJN.out) (.int .i64 (L1 : Nat))))
                  have HB1 : Hid (Below jb w5 ((wr.setCell ⟨jb, i * 2, none⟩ (.int .i64 (E1 : Nat))).setCell ⟨jb, i * 2 + 1, none⟩ (.int .i64 (L1 : Nat))).drew) := ((HB.out.setCell (p := ⟨jb, i * 2, none⟩) (Nat.le_refl _) _).setCell (p := ⟨jb, i * 2 + 1, none⟩) (Nat.le_refl _) _).drew
                  obtain ⟨s4, s5⟩ := HJ.out.mid hin (.int .i64 (E1 : Nat))
                  have f2 : wr.drew.cell? ⟨bp, 2, none⟩ = some (.slice (some ⟨b, off, none⟩) n tcap) := kb2
                  have f3 : wr.drew.cell? ⟨b, off + i * 8 + 1, none⟩ = some (.int .i64 z1) := c1
                  have f4 : wr.drew.cell? ⟨b, off + i * 8 + 2, none⟩ = some (.int .i64 (L1 : Nat)) := c2
                  have s0 : wr.drew.cell? ⟨jb, i * 2, none⟩ = some (.int .i64 (ei : Nat)) := j0
                  have s1 : wr.drew.cell? ⟨jb, i * 2 + 1, none⟩ = some (.int .i64 (li : Nat)) := j1
                  rw [← HLK.out] at s4
                  have s2 : wr.drew.frozen? ⟨jb, i * 2, none⟩ = false := g0
                  have s3 : wr.drew.frozen? ⟨jb, i * 2 + 1, none⟩ = false := g1
                  go_wp2_with fail
                  clear m0 m1
                  refine wp_region_still_tail 18 mixed (by kernel_rfl) ?_
                  simp only [List.take_succ_cons, List.take_zero, List.drop_succ_cons, List.drop_zero]
                  change wpStill _ _ wr.drew _ _ _
                  repeat still_step
                  refine wpStill_nil ?_
                  clear f2 f3 f4
                  have y2 := (HB1.out.cell (p := ⟨bp, 2, none⟩) (by rw [HJB.out]; exact lt_of_block HK6.out)).trans (cell_of_row _ _ 2 _ _ _ HK6.out)
                  change _ = some (Value.slice (some ⟨b, off, none⟩) n tcap) at y2
                  have y0 := ((HTK6.out.below (HSZ.out _ HB1.out)).at hin)
                  obtain ⟨b', off', hbb, yc⟩ := y0
                  obtain ⟨rfl, rfl⟩ : b = b' ∧ off = off' := by simpa using hbb
                  have y0 := yc.c0
                  rw [hz0] at y0
                  have m0 := (HN1.out.at hin).1
                  have m1 := (HN1.out.at hin).2
                  clear hbb yc c0 c1 c2 kb2
                  have HN2 := Lib.hid (HN1.out.set hin X1)
                  have HJ2 := Lib.hid (HJ1.out.off (o := i) (Nat.ne_of_lt HJN.out) (.int .i64 (X1 : Nat)))
                  have HB2 := Lib.hid (HB1.out.setCell (p := ⟨nb, i, none⟩) (Nat.le_of_lt HJN.out) (.int .i64 (X1 : Nat)))
                  clear HJ1 HN1 HB1 HJ HN HB
                  have hlt0 : decide ((0 : Int) < hn2) = true := by simp; omega
                  have hlt1 : decide (0 < hn2) = true := by simp; omega
                  have hnz : ((hn2 : Int) == 0) = false := by simp; omega
                  have hnz2 : ¬ hn2 = 0 := by omega
                  have hmod : (d : Int).tmod (hn2 : Int) = ((d % hn2 : Nat) : Int) := by rw [Int.tmod_eq_emod_of_nonneg (by omega)]; rfl
                  have hmod2 : ((d : Int)) % hn2 = ((d % hn2 : Nat) : Int) := rfl
                  have hm := Nat.mod_lt d hl2
                  have hmx2 := HL2.out
                  have HN2 : Hid (NS (((wr.setCell ⟨jb, i * 2, none⟩ (.int .i64 (E1 : Nat))).setCell ⟨jb, i * 2 + 1, none⟩ (.int .i64 (L1 : Nat))).setCell ⟨nb, i, none⟩ (.int .i64 (X1 : Nat))).drew nb n (upd x i X1)) := HN2.out
                  have HJ2 : Hid (JS (((wr.setCell ⟨jb, i * 2, none⟩ (.int .i64 (E1 : Nat))).setCell ⟨jb, i * 2 + 1, none⟩ (.int .i64 (L1 : Nat))).setCell ⟨nb, i, none⟩ (.int .i64 (X1 : Nat))).drew jb n (upd e i E1) (upd l i L1)) := HJ2.out
                  have HB2 : Hid (Below jb w5 (((wr.setCell ⟨jb, i * 2, none⟩ (.int .i64 (E1 : Nat))).setCell ⟨jb, i * 2 + 1, none⟩ (.int .i64 (L1 : Nat))).setCell ⟨nb, i, none⟩ (.int .i64 (X1 : Nat))).drew) := HB2.out
                  have hWW := HB5.out.trans ((HSZ.out _ HB2.out).mono HB5.out.size)
                  obtain ⟨b3, off3, rfl, cl⟩ := (HI2.out.below hWW).at (i := d % hn2) hm
                  obtain ⟨zl, hzl⟩ : ∃ zl, zl = ls.getD (d % hn2) 0 := ⟨_, rfl⟩
                  rw [← hzl] at cl
                  have HBr := Lib.hid (fun w => bring_q zl 30 w (by decide) (by decide))
                  have hr30 := bn_lt zl (n := 30) (by decide)
                  generalize bn zl 30 = r at *
                  obtain ⟨X2, hX2⟩ : ∃ X2 : Nat, ((X1 : Nat) : Int) + (r : Nat) = (X2 : Int) := ⟨X1 + r, by push_cast; rfl⟩
                  have HX3 : Hid (X1 ≤ X2 ∧ X2 ≤ 1000) := by have := HX2.out; unfold Hid; omega
                  obtain ⟨wy1, wy2⟩ := wr_sum hX2 (by have := HX3.out; omega)
                  generalize d % hn2 = dm at *
                  have hdm0 : (0 : Int) ≤ dm := by omega
                  have hdm1 : (dm : Int) < hn2 := by omega
                  have n0 := (HN2.out.at hin).1
                  have n1 := (HN2.out.at hin).2
                  rw [upd_at] at n0
                  have HN3 := Lib.hid (NS.set HN2.out.drew hin X2)
                  have HJ3 := Lib.hid (HJ2.out.drew.off (o := i) (Nat.ne_of_lt HJN.out) (.int .i64 (X2 : Nat)))
                  have HB3 := Lib.hid (HB2.out.drew.setCell (p := ⟨nb, i, none⟩) (Nat.le_of_lt HJN.out) (.int .i64 (X2 : Nat)))
                  clear hzl hX2 hr30 hWW
                  go_wp2_with fail
                  clear m0 m1 y0 y2 HJ2 HN2 HB2
                  generalize (((wr.setCell ⟨jb, i * 2, none⟩ (.int .i64 (E1 : Nat))).setCell ⟨jb, i * 2 + 1, none⟩ (.int .i64 (L1 : Nat))).setCell ⟨nb, i, none⟩ (.int .i64 (X1 : Nat))).drew = W2 at *
                  have p0 : W2.drew.cell? ⟨nb, i, none⟩ = some (.int .i64 (X1 : Nat)) := n0
                  have p1 : W2.drew.frozen? ⟨nb, i, none⟩ = false := n1
                  have p2 : W2.drew.cell? ⟨b3, off3 + dm, none⟩ = some (.int .i64 zl) := cl
                  clear n0 n1 cl s0 s1 s2 s3 s4 s5 j0 j1 g0 g1
                  refine wp_region_still_tail 16 mixed (by kernel_rfl) ?_
                  simp only [List.take_succ_cons, List.take_zero, List.drop_succ_cons, List.drop_zero]
                  change wpStill _ _ W2.drew _ _ _
                  repeat still_step
                  still_call (HBr.out _)
                  repeat still_step
                  refine wpStill_nil ?_
                  clear p2
                  rw [upd_upd] at HN3
                  go_wp2_with fail
                  go_roundw
                  case rel => exact ⟨i + 1, d + 1, _, _, _, by omega, by go_num, by go_num, by omega, (HBD.out.more i (by have := HE2.out; omega) (by have := HL2b.out; omega) HX3.out.2 : BDN n (upd e i E1) (upd l i L1) (upd x i X2)), HRL.out X2 HX3.out.1, HJ3.out, HN3.out, HB3.out⟩
                  case measure => simp [intOf]; omega
                · obtain ⟨E1, L1, X1, hE1, hL1, hX1, hE2, hL2, hX2, hRL⟩ := HRF.out (of_decide_eq_true hrl)
                  have HRL := Lib.hid hRL
                  obtain ⟨we1, we2⟩ := wr_sum hE1 (by omega)
                  obtain ⟨wx1, wx2⟩ := wr_sum hX1 (by omega)
                  have HE2 := Lib.hid hE2; have HL2b := Lib.hid hL2; have HX2 := Lib.hid hX2
                  rw [hL1] at c2
                  clear hL1 hE1 hX1 hE2 hL2 hX2 hRL HRF
                  generalize z i 1 = z1 at *
                  generalize hz0 : z i 0 = z0 at *
                  have HJ1 := Lib.hid (JS.drew (JS.both HJ.out hin E1 L1))
                  have HN1 := Lib.hid (NS.drew ((HN.out.off (o := i * 2) (Nat.ne_of_gt HJN.out) (.int .i64 (E1 : Nat))).off (o := i * 2 + 1) (Nat.ne_of_gt HJN.out) (.int .i64 (L1 : Nat))))
                  have HB1 : Hid (Below jb w5 ((wr.setCell ⟨jb, i * 2, none⟩ (.int .i64 (E1 : Nat))).setCell ⟨jb, i * 2 + 1, none⟩ (.int .i64 (L1 : Nat))).drew) := ((HB.out.setCell (p := ⟨jb, i * 2, none⟩) (Nat.le_refl _) _).setCell (p := ⟨jb, i * 2 + 1, none⟩) (Nat.le_refl _) _).drew
                  obtain ⟨s4, s5⟩ := HJ.out.mid hin (.int .i64 (E1 : Nat))
                  have f2 : wr.drew.cell? ⟨bp, 2, none⟩ = some (.slice (some ⟨b, off, none⟩) n tcap) := kb2
                  have f3 : wr.drew.cell? ⟨b, off + i * 8 + 1, none⟩ = some (.int .i64 z1) := c1
                  have f4 : wr.drew.cell? ⟨b, off + i * 8 + 2, none⟩ = some (.int .i64 (L1 : Nat)) := c2
                  have s0 : wr.drew.cell? ⟨jb, i * 2, none⟩ = some (.int .i64 (ei : Nat)) := j0
                  have s1 : wr.drew.cell? ⟨jb, i * 2 + 1, none⟩ = some (.int .i64 (li : Nat)) := j1
                  rw [← HLK.out] at s4
                  have s2 : wr.drew.frozen? ⟨jb, i * 2, none⟩ = false := g0
                  have s3 : wr.drew.frozen? ⟨jb, i * 2 + 1, none⟩ = false := g1
                  go_wp2_with fail
                  clear m0 m1
                  refine wp_region_still_tail 18 mixed (by kernel_rfl) ?_
                  simp only [List.take_succ_cons, List.take_zero, List.drop_succ_cons, List.drop_zero]
                  change wpStill _ _ wr.drew _ _ _
                  repeat still_step
                  refine wpStill_nil ?_
                  clear f2 f3 f4
                  have y2 := (HB1.out.cell (p := ⟨bp, 2, none⟩) (by rw [HJB.out]; exact lt_of_block HK6.out)).trans (cell_of_row _ _ 2 _ _ _ HK6.out)
                  change _ = some (Value.slice (some ⟨b, off, none⟩) n tcap) at y2
                  have y0 := ((HTK6.out.below (HSZ.out _ HB1.out)).at hin)
                  obtain ⟨b', off', hbb, yc⟩ := y0
                  obtain ⟨rfl, rfl⟩ : b = b' ∧ off = off' := by simpa using hbb
                  have y0 := yc.c0
                  rw [hz0] at y0
                  have m0 := (HN1.out.at hin).1
                  have m1 := (HN1.out.at hin).2
                  clear hbb yc c0 c1 c2 kb2
                  have HN2 := Lib.hid (HN1.out.set hin X1)
                  have HJ2 := Lib.hid (HJ1.out.off (o := i) (Nat.ne_of_lt HJN.out) (.int .i64 (X1 : Nat)))
                  have HB2 := Lib.hid (HB1.out.setCell (p := ⟨nb, i, none⟩) (Nat.le_of_lt HJN.out) (.int .i64 (X1 : Nat)))
                  clear HJ1 HN1 HB1 HJ HN HB
                  have hlt0 : decide ((0 : Int) < hn2) = false := by simp; omega
                  have hlt1 : decide (0 < hn2) = false := by simp; omega
                  go_wp2_with fail
                  go_roundw
                  case rel => exact ⟨i + 1, d + 1, _, _, _, by omega, by go_num, by go_num, by omega, (HBD.out.more i (by have := HE2.out; omega) (by have := HL2b.out; omega) (by have := HX2.out; omega) : BDN n (upd e i E1) (upd l i L1) (upd x i X1)), HRL.out X1 (Nat.le_refl _), HJ2.out, HN2.out, HB2.out⟩
                  case measure => simp [intOf]; omega
          · obtain rfl : n = i := by omega
            have htb : t < bs.length := by have := HBL.out; have := HTL.out; omega
            obtain ⟨rg, hrg, _, rcell⟩ := HOB.out.read htb
            subst hrg
            have rc := (HB.out.cell (p := ⟨rg, t, none⟩) (by rw [HJB.out]; exact World.block_lt_of_cell? _ _ rcell)).trans rcell
            have htI : (t : Int) < bs.length := by omega
            have ht0 : (0 : Int) ≤ t := by omega
            have hn4' := HPW.out
            obtain ⟨rb, hrb⟩ : ∃ rb, rb = bt bs t := ⟨_, rfl⟩
            rw [← hrb] at rc
            have HRB := Lib.hid hrb
            clear hrb rcell htb
            cases rb with
            | false =>
              have HKI := Lib.hid (ks_idle HKS.out HRB.out.symm)
              go_wp2_with fail
              go_roundw
              case rel => exact ⟨t + 1, d, l, e, x, by omega, by go_num, rfl, by omega, HBD.out, HKI.out, HJ.out, HN.out, HB.out⟩
              case measure => simp [intOf]; omega
            | true =>
              go_wp2_with fail
              clear rc htI ht0
              obtain ⟨wi, rfl⟩ : ∃ wi, wi = wr := ⟨_, rfl⟩
              go_loopw [17, 18] (fun kv iv W => ∃ (i : Nat) (k : Int), i ≤ n ∧ iv = .int .i64 i ∧ kv = .int .i64 k ∧ Hid (Near l e i k) ∧ Hid (JS W jb n e l) ∧ Hid (NS W nb n x) ∧ Hid (Below jb w5 W)) (fun _ iv _ => n - (intOf iv).toNat)
              case atStart => exact ⟨0, -1, by omega, rfl, rfl, near_start l e, HJ.out, HN.out, HB.out⟩
              case round =>
                clear HJ HN HB
                obtain ⟨i, k, hi, rfl, rfl, HNR, HJ, HN, HB⟩ := hrel
                by_cases hin : i < n
                · obtain ⟨j0, j1, _, _⟩ := HJ.out.at hin
                  have hiI : (i : Int) < n := by omega
                  have hi0 : (0 : Int) ≤ i := by omega
                  by_cases hlp : 0 < l i
                  · have hl0 : decide ((0 : Int) < (l i : Nat)) = true := by simp; omega
                    have hl1 : decide (0 < l i) = true := by simp; omega
                    rcases HNR.out with ⟨rfl, _⟩ | ⟨m, rfl, hm1, hm2, hm3⟩
                    · have HN2 := Lib.hid (near_take HNR.out hlp (Or.inl rfl))
                      generalize l i = li at *
                      generalize e i = ei at *
                      go_wp2_with fail
                      go_quiet (fail)
                      go_wp2_with fail
                      go_roundw
                      case rel => exact ⟨i + 1, i, by omega, by go_num, rfl, HN2.out, HJ.out.drewN _, HN.out.drewN _, below_drewN HB.out _⟩
                      case measure => simp [intOf]; omega
                    · obtain ⟨q0, q1, _, _⟩ := HJ.out.at (i := m) (by omega)
                      have hmI : (m : Int) < n := by omega
                      have hm0 : (0 : Int) ≤ m := by omega
                      have hmn : decide ((m : Int) < 0) = false := by simp
                      cases hem : decide (e i < e m) with
                      | true =>
                        have hemI : decide (((e i : Nat) : Int) < (e m : Nat)) = true := by have := of_decide_eq_true hem; simp; omega
                        have HN2 := Lib.hid (near_take HNR.out hlp (Or.inr ⟨m, rfl, of_decide_eq_true hem⟩))
                        generalize l i = li at *
                        generalize e i = ei at *
                        generalize e m = em at *
                        go_wp2_with fail
                        go_quiet (fail)
                        go_wp2_with fail
                        go_roundw
                        case rel => exact ⟨i + 1, i, by omega, by go_num, rfl, HN2.out, HJ.out.drewN _, HN.out.drewN _, below_drewN HB.out _⟩
                        case measure => simp [intOf]; omega
                      | false =>
                        have hemI : decide (((e i : Nat) : Int) < (e m : Nat)) = false := by have := of_decide_eq_false hem; simp; omega
                        have HN2 := Lib.hid (near_keep HNR.out (by have := of_decide_eq_false hem; omega))
                        generalize l i = li at *
                        generalize e i = ei at *
                        generalize e m = em at *
                        go_wp2_with fail
                        go_quiet (fail)
                        go_wp2_with fail
                        go_roundw
                        case rel => exact ⟨i + 1, m, by omega, by go_num, rfl, HN2.out, HJ.out.drewN _, HN.out.drewN _, below_drewN HB.out _⟩
                        case measure => simp [intOf]; omega
                  · have hl0 : decide ((0 : Int) < (l i : Nat)) = false := by simp; omega
                    have hl1 : decide (0 < l i) = false := by simp; omega
                    have HN2 := Lib.hid (near_zero HNR.out (by omega))
                    generalize l i = li at *
                    go_wp2_with fail
                    go_quiet (fail)
                    go_wp2_with fail
                    go_roundw
                    case rel => exact ⟨i + 1, k, by omega, by go_num, rfl, HN2.out, HJ.out.drewN _, HN.out.drewN _, below_drewN HB.out _⟩
                    case measure => simp [intOf]; omega
                · obtain rfl : n = i := by omega
                  rcases HNR.out with ⟨rfl, hz⟩ | ⟨m, rfl, hm1, hm2, hm3⟩
                  · have HKN := Lib.hid (ks_none HKS.out (fun j hj => hz j (by rw [HNX.out]; exact hj)))
                    clear hz
                    go_wp2_with fail
                    go_roundw
                    case rel => exact ⟨t + 1, d, l, e, x, by omega, by go_num, rfl, by omega, HBD.out, HKN.out, HJ.out, HN.out, HB.out⟩
                    case measure => simp [intOf]; omega
                  · obtain ⟨q0, q1, _, q3⟩ := HJ.out.at hm1
                    have hmI : (m : Int) < n := by omega
                    have hm0 : (0 : Int) ≤ m := by omega
                    have hmn : decide ((0 : Int) ≤ (m : Nat)) = true := by simp
                    obtain ⟨L2, hL2⟩ : ∃ L2 : Nat, ((l m : Nat) : Int) - 1 = (L2 : Int) := ⟨l m - 1, by omega⟩
                    have hb1 := HBD.out m hm1
                    have hw : wrap64 (((l m : Nat) : Int) - 1) = L2 := by rw [hL2]; exact (wr2 (by omega) (by omega)).2
                    have HL2c : Hid (L2 = l m - 1 ∧ L2 ≤ 1000) := by unfold Hid; omega
                    have HKR : Hid (KS X (bt bs) (t + 1) (upd l m L2) e x) := ks_run HKS.out (by rw [← HNX.out]; exact hm1) hm2 (fun j hj hl => hm3 j (by rw [HNX.out]; exact hj) hl) (by rw [upd_at]; exact HL2c.out.1) (fun j hne => upd_ne _ _ hne)
                    have HJ2 := Lib.hid (HJ.out.left hm1 L2)
                    have HN2 := Lib.hid (HN.out.off (o := m * 2 + 1) (Nat.ne_of_gt HJN.out) (.int .i64 (L2 : Nat)))
                    have HB2 := Lib.hid (HB.out.setCell (p := ⟨jb, m * 2 + 1, none⟩) (Nat.le_refl _) (.int .i64 (L2 : Nat)))
                    have HBD2 := Lib.hid (HBD.out.less m HL2c.out.2)
                    clear hL2 hm2 hm3 hb1 HJ HN HB HBD HNR HKS
                    generalize l m = lm at *
                    go_wp2_with fail
                    go_roundw
                    case rel => exact ⟨t + 1, d, _, e, x, by omega, by go_num, rfl, by omega, HBD2.out, HKR.out, HJ2.out, HN2.out, HB2.out⟩
                    case measure => simp [intOf]; omega
      · obtain rfl : t = 400 := by omega
        have hdt : decide (((400 : Nat) : Int) < 400) = false := by decide
        have HF : Hid (Below w.heap.size w wr) := chn HB5.out (HSZ.out _ HB.out)
        go_wp2_with fail
        go_ret
        exact ⟨rfl, HF.out⟩
  · go_wp2_with fail
    go_ret
    exact ⟨rfl, HB4.out⟩
  · go_wp2_with fail
    go_ret
    exact ⟨rfl, HB4.out⟩
end Go.Proofs.Ythhdfmpoebedcaa
