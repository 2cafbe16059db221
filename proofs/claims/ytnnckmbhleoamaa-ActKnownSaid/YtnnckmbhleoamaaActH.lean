/- ActPlays. -/
import Derived.Test.YtnnckmbhleoamaaActL
import Derived.Deep.CutRange
namespace Go.Proofs.Ytnnckmbhleoamaa
open Go.RowKit Ac
set_option linter.unusedVariables false

theorem tx_new {B : Nat} {W w2 w3 : World} {rb g mb mg : Nat} {L : List Ak} (hp : PO B W w2 rb g L) (hd : DR w3 mb mg L) (hg : Gd L) (h1 : w2.heap.size ≤ mb) (h2 : w2.heap.size ≤ mg) (h3 : mg < w3.heap.size) (hb : Below w2.heap.size w2 w3) : TX B W w3 rb g mb mg L L := by
  have l1 := hp.r.lt
  have l2 := hp.lt
  have hs : B ≤ w2.heap.size := Nat.le_trans hp.sz hp.bel.size
  exact ⟨hp.below hb, ⟨hd, hg, Nat.le_trans hs h1, Nat.le_trans hs h2, h3, hp.sz, hp.bel.trans (hb.mono hs)⟩, by omega, by omega, by omega, by omega⟩
theorem far_of {B gi s1 s2 m rb g mb mg : Nat} (h : B ≤ gi ∧ (gi < s1 ∨ m = 0)) (h1 : s1 ≤ rb ∧ s1 ≤ g) (h2 : s2 ≤ mb) (h3 : s2 ≤ mg) (h4 : s1 ≤ s2) : 0 < m → gi ≠ rb ∧ gi ≠ g ∧ gi ≠ mb ∧ gi ≠ mg := fun hm => by omega
/-- a row of acts that may be; or an error of both -/
theorem errs (L : List Ak) : (Gd L ∧ True) ∨ ∃ er : Int, (er == 0) = false ∧ (∀ (W : World) (v : Value), AS W v L → Calls Try.prog 8 #[v] W (NoP er W)) ∧ (∀ (W : World) (v : Value), AS W v L → Calls Try.prog 9 #[v] W (NoP er W)) := by
  rcases newE_or L with ⟨h, _⟩ | ⟨h, _⟩ | ⟨h, h1, _⟩
  · exact Or.inr ⟨5, rfl, fun W v hv => new_lim hv h, fun W v hv => rnew_lim hv h⟩
  · exact Or.inl ⟨h, trivial⟩
  · exact Or.inr ⟨2, rfl, fun W v hv => new_no hv h h1, fun W v hv => rnew_no hv h h1⟩
theorem nv_ex (l : List Ak) : ∃ (k n : Int) (s : ByteArray) (b : Bool), nv l = .tuple #[.agg #[.int .i64 k, .int .i64 n, .string s], .bool b] := ⟨_, _, _, _, rfl⟩
theorem gl_far {B gl : Nat} {W w : World} {rb g mb mg : Nat} {l m : List Ak} (h : TX B W w rb g mb mg l m) (hg : w.heap.size ≤ gl) : B ≤ gl ∧ gl ≠ rb ∧ gl ≠ g ∧ gl ≠ mb ∧ gl ≠ mg := by
  have h1 := h.lts
  have h2 := h.sz
  omega
theorem two_same (b : Bool) : (b != b) = false := by cases b <;> rfl
set_option maxRecDepth 100000 in
set_option maxHeartbeats 8000000 in
theorem plays_any {w : World} {u v : Value} {l0 : List Ak} {bs : List Bool} (hu : AS w u l0) (hv : BL w v bs) : Calls Try.prog 3 #[u, v] w (TrueB w) := by
  obtain ⟨a, cap, rfl, h1, h2⟩ := hu.slice
  obtain ⟨ba, bcap, rfl, h3, h4⟩ := hv.slice
  obtain ⟨n, hn⟩ : ∃ n, n = l0.length := ⟨_, rfl⟩
  obtain ⟨m, hm⟩ : ∃ m : Nat, m = min n 40 := ⟨_, rfl⟩
  obtain ⟨bn, hbn⟩ : ∃ n, n = bs.length := ⟨_, rfl⟩
  have hmn : m ≤ n := by omega
  have hm40 : m ≤ 40 := by omega
  rw [← hn] at hu h1 ⊢
  rw [← hbn] at hv h3 ⊢
  have hmx : cap ≤ 9223372036854775807 := by unfold maxLen at h2; omega
  have hbx : bn ≤ 9223372036854775807 := by unfold maxLen at h4; omega
  have hncap : n ≤ cap := h1
  have hmcap : m ≤ cap := by omega
  have hu2 := hu.take hmn
  obtain ⟨L, hL⟩ : ∃ L, L = l0.take m := ⟨_, rfl⟩
  have hLm : L.length = m := by rw [hL, List.length_take]; omega
  rw [← hL] at hu2
  obtain ⟨ia, ic, w1, hrun, hna, hb1, _⟩ := app_acts (NA.nil w w.heap.size) hu2 (Nat.le_refl _) (by rw [hLm]; simp; omega) 22
  rw [List.nil_append, hLm] at hrun hna
  obtain ⟨gi, hgi, _, hgl, hiw⟩ := hna.iw
  rw [hLm] at hgl hiw
  have HRUN := Lib.hid hrun
  have HNA := Lib.hid hna
  have HIW := Lib.hid hiw
  have HB1 := Lib.hid hb1
  have HU := Lib.hid hu2
  have HV := Lib.hid hv
  have HGI := Lib.hid (And.intro hgi hgl)
  have HLM := Lib.hid hLm
  have HM := Lib.hid (And.intro hm hmn)
  clear hu hu2 hv hL hn hbn hrun hna hiw hb1 hgi hgl hLm h1 h2 h4 hm
  go_enter Try.func3, Try.ntmps3
  go_upto_region 1 with (fail)
  go_cut [0] from 19 to 23 (fun o wc => o = .slice a m cap ∧ w = wc)
  case first =>
    have hm := HM.out.1
    clear HM
    by_cases h40 : (40 : Int) < (n : Int)
    · obtain rfl : m = 40 := by omega
      clear hm
      go_wp2_with fail
      go_meet
      case rel => exact ⟨rfl, rfl⟩
    · obtain rfl : m = n := by omega
      clear hm
      go_wp2_with fail
      go_meet
      case rel => exact ⟨rfl, rfl⟩
  case rest =>
    obtain ⟨rfl, rfl⟩ := hcut
    go_wp2_with (at_builtin; refine wpList_append_eq rfl (.tmp 24) (.tmp 25) 22 22 rfl _ _ _ _ rfl rfl HRUN.out ?_)
    clear HM
    have hi1 : (99 : Int) = 99 := rfl
    clear hi1
    rcases errs L with ⟨hg, _⟩ | ⟨er, hz, hn1, hn2⟩
    · have HGD := Lib.hid hg
      clear hg
      refine (po_new (B := w.heap.size) (W := w) HB1.out (Nat.le_refl _) HNA.out.as HGD.out).mono ?_
      rintro e w2 ⟨rb, g, rfl, hp, hr1, hr2, hb2⟩
      have HP := Lib.hid hp
      have HR := Lib.hid (And.intro hr1 hr2)
      have HB2 := Lib.hid hb2
      clear hp hr1 hr2 hb2
      go_wp2_with fail
      refine (rnew_yes ((HU.out.below HB1.out).below HB2.out) HGD.out).mono ?_
      rintro e w3 ⟨mb, mg, rfl, hd, hd1, hd2, hd3, hb3⟩
      have HT := Lib.hid (tx_new HP.out hd HGD.out hd1 hd2 hd3 hb3)
      have HF := Lib.hid (far_of HGI.out HR.out hd1 hd2 HB2.out.size)
      have HI3 := Lib.hid ((HIW.out.below HB2.out).below hb3)
      have HA3 := Lib.hid ((HNA.out.as.below HB2.out).below hb3)
      have HU3 := Lib.hid (((HU.out.below HB1.out).below HB2.out).below hb3)
      clear hd hd1 hd2 hd3 hb3 HP HR HNA HU HIW HB2 HB1
      go_wp2_with fail
      refine (same_any HA3.out HU3.out).mono ?_
      rintro e w4 ⟨rfl, hb4⟩
      have HT4 := Lib.hid (HT.out.below hb4)
      have HI4 := Lib.hid (HI3.out.below hb4)
      clear hb4 HT HI3 HA3 HU3
      go_wp2_with fail
      go_loopw [10] (fun i wr => ∃ k : Nat, k ≤ m ∧ i = .int .i64 k ∧ Hid (IW wr ia gi m) ∧ Hid (TX w.heap.size w wr rb g mb mg L L)) (fun i _ => m - (intOf i).toNat)
      case atStart => exact ⟨0, Nat.zero_le _, rfl, HI4.out, HT4.out⟩
      case round =>
        clear HI4 HT4
        obtain ⟨k, hk, rfl, HI, HT⟩ := hrel
        by_cases hlt : k < m
        · obtain ⟨hia, ⟨u0, q0⟩, ⟨u1, q1⟩, ⟨u2, q2⟩, f0, f1, f2⟩ := HI.out.at hlt
          have HF2 := Lib.hid (HF.out (by omega))
          have HI2 := Lib.hid (HI.out.set k (.int .i64 99) (.int .i64 0) (.string ⟨#[]⟩))
          have HT2 := Lib.hid (HT.out.far (iw_only wr gi k (.int .i64 99) (.int .i64 0) (.string ⟨#[]⟩)) HGI.out.1 HF2.out.1 HF2.out.2.1 HF2.out.2.2.1 HF2.out.2.2.2)
          subst hia
          go_wp2_with fail
          go_roundw
          case rel => exact ⟨k + 1, by omega, by go_num, HI2.out, HT2.out⟩
          case measure => simp [intOf]; omega
        · obtain rfl : k = m := by omega
          clear HI HF
          go_wp2_with fail
          go_loopw [11] (fun i wr => ∃ k : Nat, k ≤ bn ∧ i = .int .i64 k ∧ ∃ l : List Ak, Hid (TX w.heap.size w wr rb g mb mg l l)) (fun i _ => bn - (intOf i).toNat)
          case atStart => exact ⟨0, Nat.zero_le _, rfl, L, HT.out⟩
          case round =>
            clear HT
            obtain ⟨j, hj, rfl, l, HT⟩ := hrel
            by_cases hjb : j < bn
            · by_cases hj1 : j < 100
              · obtain ⟨cb, co, rfl, cbl⟩ := (HV.out.below HT.out.bel).at hjb
                have hjI : decide ((j : Int) < 100) = true := by simp; omega
                have hjN : decide ((j : Int) < (bn : Int)) = true := by simp; omega
                have hjM : decide (j < bn) = true := by simp; omega
                have s1 := Try.eqGuardType33
                have s2 := Try.stoodInHeld33
                generalize bs.getD j false = b at *
                cases b with
                | true =>
                  go_wp2_with fail
                  refine (tx_ran HT.out).mono ?_
                  rintro e x1 ⟨rfl, ht⟩
                  have HT1 := Lib.hid ht
                  clear ht cbl
                  go_wp2_with fail
                  refine (tx_rran HT1.out).mono ?_
                  rintro e x2 ⟨rfl, ht⟩
                  have HT2 := Lib.hid ht
                  clear ht HT1 HT
                  generalize ranL l = l2 at *
                  generalize ranE l = er at *
                  have her : (er == er) = true := by simp
                  obtain ⟨k1, n1, s1, b1, hx⟩ := nv_ex l2
                  have HX := Lib.hid hx
                  clear hx
                  go_wp2_with fail
                  refine (next_any HT2.out.p.r).mono ?_
                  rintro e x3 ⟨he, hb3⟩
                  rw [HX.out] at he
                  subst he
                  have HT3 := Lib.hid ((HT2.out.below hb3).below (below_al x3 (.cells #[.int .i64 k1, .int .i64 n1, .string s1] 33)))
                  have HV3 := Lib.hid (AB.new x3 k1 n1 s1)
                  clear hb3 HT2
                  go_wp2_with fail
                  refine (rnext_any HT3.out.d.r).mono ?_
                  rintro e x4 ⟨he, hb4⟩
                  rw [HX.out] at he
                  subst he
                  have HT4 := Lib.hid ((HT3.out.below hb4).below (below_al x4 (.cells #[.int .i64 k1, .int .i64 n1, .string s1] 33)))
                  have HV4 := Lib.hid ((HV3.out.below hb4).below (below_al x4 (.cells #[.int .i64 k1, .int .i64 n1, .string s1] 33)))
                  have HU4 := Lib.hid (AB.new x4 k1 n1 s1)
                  clear hb4 HT3 HV3 HX
                  go_wp2_with fail
                  refine (rest_any HT4.out.p.r (Nat.le_trans HT4.out.p.gd.len (by decide))).mono ?_
                  rintro e x5 ⟨ra, rc, rfl, hna, hb5⟩
                  obtain ⟨gl, hgl, _, hgs, hiw⟩ := hna.iw
                  have HA5 := Lib.hid hna.as
                  have HI5 := Lib.hid hiw
                  have HT5 := Lib.hid (HT4.out.below hb5)
                  obtain ⟨v0, v1, v2⟩ := (HV4.out.below hb5).cells
                  obtain ⟨z0, z1, z2⟩ := (HU4.out.below hb5).cells
                  have HG5 := Lib.hid (show w.heap.size ≤ gl ∧ gl ≠ rb ∧ gl ≠ g ∧ gl ≠ mb ∧ gl ≠ mg from gl_far HT4.out hgl)
                  obtain ⟨ll, hll⟩ : ∃ ll, ll = l2.length := ⟨_, rfl⟩
                  have HLL := Lib.hid hll
                  rw [← hll] at HA5 HI5 ⊢
                  have hl32 : ll ≤ 32 := by rw [hll]; exact HT4.out.p.gd.len
                  clear hna hb5 hgl hgs hiw HT4 HV4 HU4 hll
                  generalize x3.heap.size = vb at *
                  generalize x4.heap.size = ub at *
                  go_wp2_with fail
                  refine (done_any HT5.out.p.r).mono ?_
                  rintro e x5' ⟨rfl, rfl⟩
                  go_wp2_with fail
                  refine (rdone_any HT5.out.d.r).mono ?_
                  rintro e x5' ⟨rfl, rfl⟩
                  clear v0 v1 v2 z0 z1 z2
                  have hdn := two_same l2.isEmpty
                  generalize l2.isEmpty = dn at *
                  go_wp2_with fail
                  refine (left_any HT5.out.p.r HT5.out.p.gd).mono ?_
                  rintro e x6 ⟨rfl, hb6⟩
                  have HT6 := Lib.hid (HT5.out.below hb6)
                  have HA6 := Lib.hid (HA5.out.below hb6)
                  have HI6 := Lib.hid (HI5.out.below hb6)
                  clear hb6 HT5 HA5 HI5
                  go_wp2_with fail
                  refine (rleft_any HT6.out.d.r HT6.out.d.gd).mono ?_
                  rintro e x7 ⟨rfl, hb7⟩
                  have HT7 := Lib.hid (HT6.out.below hb7)
                  have HA7 := Lib.hid (HA6.out.below hb7)
                  have HI7 := Lib.hid (HI6.out.below hb7)
                  clear hb7 HT6 HA6 HI6
                  generalize left l2 = lf at *
                  go_wp2_with fail
                  refine (rrest_any HT7.out.d.r (Nat.le_trans HT7.out.p.gd.len (by decide))).mono ?_
                  rintro e x8 ⟨da, dc, rfl, hna, hb8⟩
                  have HT8 := Lib.hid (HT7.out.below hb8)
                  have HA8 := Lib.hid (HA7.out.below hb8)
                  have HI8 := Lib.hid (HI7.out.below hb8)
                  have HD8 := Lib.hid hna.as
                  rw [← HLL.out] at HD8 ⊢
                  clear hna hb8 HT7 HA7 HI7
                  go_wp2_with fail
                  refine (same_any HA8.out HD8.out).mono ?_
                  rintro e x9 ⟨rfl, hb9⟩
                  have HT9 := Lib.hid (HT8.out.below hb9)
                  have HI9 := Lib.hid (HI8.out.below hb9)
                  clear hb9 HT8 HA8 HI8 HD8 HLL
                  go_wp2_with fail
                  go_loopw [18] (fun i wr => ∃ k : Nat, k ≤ ll ∧ i = .int .i64 k ∧ Hid (IW wr ra gl ll) ∧ Hid (TX w.heap.size w wr rb g mb mg l2 l2)) (fun i _ => ll - (intOf i).toNat)
                  case atStart => exact ⟨0, Nat.zero_le _, rfl, HI9.out, HT9.out⟩
                  case round =>
                    clear HI9 HT9
                    obtain ⟨k, hk, rfl, HI, HT⟩ := hrel
                    by_cases hlt : k < ll
                    · obtain ⟨hra, ⟨u0, q0⟩, ⟨u1, q1⟩, ⟨u2, q2⟩, f0, f1, f2⟩ := HI.out.at hlt
                      have HI2 := Lib.hid (HI.out.set k (.int .i64 0) (.int .i64 0) (.string ⟨#[]⟩))
                      have HTX := Lib.hid (HT.out.far (iw_only wr gl k (.int .i64 0) (.int .i64 0) (.string ⟨#[]⟩)) HG5.out.1 HG5.out.2.1 HG5.out.2.2.1 HG5.out.2.2.2.1 HG5.out.2.2.2.2)
                      subst hra
                      go_wp2_with fail
                      go_roundw
                      case rel => exact ⟨k + 1, by omega, by go_num, HI2.out, HTX.out⟩
                      case measure => simp [intOf]; omega
                    · obtain rfl : k = ll := by omega
                      go_wp2_with fail
                      go_roundw
                      case rel => exact ⟨j + 1, by omega, by go_num, l2, HT.out⟩
                      case measure => simp [intOf]; omega
                | false =>
                  go_wp2_with fail
                  refine (tx_did HT.out).mono ?_
                  rintro e x1 ⟨rfl, ht⟩
                  have HT1 := Lib.hid ht
                  clear ht cbl
                  go_wp2_with fail
                  refine (tx_rdid HT1.out).mono ?_
                  rintro e x2 ⟨rfl, ht⟩
                  have HT2 := Lib.hid ht
                  clear ht HT1 HT
                  generalize didL l = l2 at *
                  generalize didE l = er at *
                  have her : (er == er) = true := by simp
                  obtain ⟨k1, n1, s1, b1, hx⟩ := nv_ex l2
                  have HX := Lib.hid hx
                  clear hx
                  go_wp2_with fail
                  refine (next_any HT2.out.p.r).mono ?_
                  rintro e x3 ⟨he, hb3⟩
                  rw [HX.out] at he
                  subst he
                  have HT3 := Lib.hid ((HT2.out.below hb3).below (below_al x3 (.cells #[.int .i64 k1, .int .i64 n1, .string s1] 33)))
                  have HV3 := Lib.hid (AB.new x3 k1 n1 s1)
                  clear hb3 HT2
                  go_wp2_with fail
                  refine (rnext_any HT3.out.d.r).mono ?_
                  rintro e x4 ⟨he, hb4⟩
                  rw [HX.out] at he
                  subst he
                  have HT4 := Lib.hid ((HT3.out.below hb4).below (below_al x4 (.cells #[.int .i64 k1, .int .i64 n1, .string s1] 33)))
                  have HV4 := Lib.hid ((HV3.out.below hb4).below (below_al x4 (.cells #[.int .i64 k1, .int .i64 n1, .string s1] 33)))
                  have HU4 := Lib.hid (AB.new x4 k1 n1 s1)
                  clear hb4 HT3 HV3 HX
                  go_wp2_with fail
                  refine (rest_any HT4.out.p.r (Nat.le_trans HT4.out.p.gd.len (by decide))).mono ?_
                  rintro e x5 ⟨ra, rc, rfl, hna, hb5⟩
                  obtain ⟨gl, hgl, _, hgs, hiw⟩ := hna.iw
                  have HA5 := Lib.hid hna.as
                  have HI5 := Lib.hid hiw
                  have HT5 := Lib.hid (HT4.out.below hb5)
                  obtain ⟨v0, v1, v2⟩ := (HV4.out.below hb5).cells
                  obtain ⟨z0, z1, z2⟩ := (HU4.out.below hb5).cells
                  have HG5 := Lib.hid (show w.heap.size ≤ gl ∧ gl ≠ rb ∧ gl ≠ g ∧ gl ≠ mb ∧ gl ≠ mg from gl_far HT4.out hgl)
                  obtain ⟨ll, hll⟩ : ∃ ll, ll = l2.length := ⟨_, rfl⟩
                  have HLL := Lib.hid hll
                  rw [← hll] at HA5 HI5 ⊢
                  have hl32 : ll ≤ 32 := by rw [hll]; exact HT4.out.p.gd.len
                  clear hna hb5 hgl hgs hiw HT4 HV4 HU4 hll
                  generalize x3.heap.size = vb at *
                  generalize x4.heap.size = ub at *
                  go_wp2_with fail
                  refine (done_any HT5.out.p.r).mono ?_
                  rintro e x5' ⟨rfl, rfl⟩
                  go_wp2_with fail
                  refine (rdone_any HT5.out.d.r).mono ?_
                  rintro e x5' ⟨rfl, rfl⟩
                  clear v0 v1 v2 z0 z1 z2
                  have hdn := two_same l2.isEmpty
                  generalize l2.isEmpty = dn at *
                  go_wp2_with fail
                  refine (left_any HT5.out.p.r HT5.out.p.gd).mono ?_
                  rintro e x6 ⟨rfl, hb6⟩
                  have HT6 := Lib.hid (HT5.out.below hb6)
                  have HA6 := Lib.hid (HA5.out.below hb6)
                  have HI6 := Lib.hid (HI5.out.below hb6)
                  clear hb6 HT5 HA5 HI5
                  go_wp2_with fail
                  refine (rleft_any HT6.out.d.r HT6.out.d.gd).mono ?_
                  rintro e x7 ⟨rfl, hb7⟩
                  have HT7 := Lib.hid (HT6.out.below hb7)
                  have HA7 := Lib.hid (HA6.out.below hb7)
                  have HI7 := Lib.hid (HI6.out.below hb7)
                  clear hb7 HT6 HA6 HI6
                  generalize left l2 = lf at *
                  go_wp2_with fail
                  refine (rrest_any HT7.out.d.r (Nat.le_trans HT7.out.p.gd.len (by decide))).mono ?_
                  rintro e x8 ⟨da, dc, rfl, hna, hb8⟩
                  have HT8 := Lib.hid (HT7.out.below hb8)
                  have HA8 := Lib.hid (HA7.out.below hb8)
                  have HI8 := Lib.hid (HI7.out.below hb8)
                  have HD8 := Lib.hid hna.as
                  rw [← HLL.out] at HD8 ⊢
                  clear hna hb8 HT7 HA7 HI7
                  go_wp2_with fail
                  refine (same_any HA8.out HD8.out).mono ?_
                  rintro e x9 ⟨rfl, hb9⟩
                  have HT9 := Lib.hid (HT8.out.below hb9)
                  have HI9 := Lib.hid (HI8.out.below hb9)
                  clear hb9 HT8 HA8 HI8 HD8 HLL
                  go_wp2_with fail
                  go_loopw [18] (fun i wr => ∃ k : Nat, k ≤ ll ∧ i = .int .i64 k ∧ Hid (IW wr ra gl ll) ∧ Hid (TX w.heap.size w wr rb g mb mg l2 l2)) (fun i _ => ll - (intOf i).toNat)
                  case atStart => exact ⟨0, Nat.zero_le _, rfl, HI9.out, HT9.out⟩
                  case round =>
                    clear HI9 HT9
                    obtain ⟨k, hk, rfl, HI, HT⟩ := hrel
                    by_cases hlt : k < ll
                    · obtain ⟨hra, ⟨u0, q0⟩, ⟨u1, q1⟩, ⟨u2, q2⟩, f0, f1, f2⟩ := HI.out.at hlt
                      have HI2 := Lib.hid (HI.out.set k (.int .i64 0) (.int .i64 0) (.string ⟨#[]⟩))
                      have HTX := Lib.hid (HT.out.far (iw_only wr gl k (.int .i64 0) (.int .i64 0) (.string ⟨#[]⟩)) HG5.out.1 HG5.out.2.1 HG5.out.2.2.1 HG5.out.2.2.2.1 HG5.out.2.2.2.2)
                      subst hra
                      go_wp2_with fail
                      go_roundw
                      case rel => exact ⟨k + 1, by omega, by go_num, HI2.out, HTX.out⟩
                      case measure => simp [intOf]; omega
                    · obtain rfl : k = ll := by omega
                      go_wp2_with fail
                      go_roundw
                      case rel => exact ⟨j + 1, by omega, by go_num, l2, HT.out⟩
                      case measure => simp [intOf]; omega
              · have hjI : decide ((j : Int) < 100) = false := by simp; omega
                go_wp2_with fail
                refine (works_any _).mono ?_
                rintro e x1 ⟨rfl, hb⟩
                have HBX := Lib.hid (HT.out.bel.trans (hb.mono HT.out.sz))
                clear hb
                go_wp2_with fail
                go_ret
                exact ⟨rfl, HBX.out⟩
            · obtain rfl : j = bn := by omega
              go_wp2_with fail
              refine (works_any _).mono ?_
              rintro e x1 ⟨rfl, hb⟩
              have HBX := Lib.hid (HT.out.bel.trans (hb.mono HT.out.sz))
              clear hb
              go_wp2_with fail
              go_ret
              exact ⟨rfl, HBX.out⟩
    · have H1 := Lib.hid hn1
      have H2 := Lib.hid hn2
      clear hn1 hn2
      refine (H1.out _ _ HNA.out.as).mono ?_
      rintro e w2 ⟨rfl, hb2⟩
      have HB2 := Lib.hid hb2
      clear hb2
      go_wp2_with fail
      refine (H2.out _ _ ((HU.out.below HB1.out).below HB2.out)).mono ?_
      rintro e w3 ⟨rfl, hb3⟩
      have HI3 := Lib.hid ((HIW.out.below HB2.out).below hb3)
      have HA3 := Lib.hid ((HNA.out.as.below HB2.out).below hb3)
      have HU3 := Lib.hid (((HU.out.below HB1.out).below HB2.out).below hb3)
      have HB3 := Lib.hid ((HB1.out.trans (HB2.out.mono HB1.out.size)).trans (hb3.mono (Nat.le_trans HB1.out.size HB2.out.size)))
      clear hb3 HNA HU HIW HB2 HB1 H1 H2
      have hzz : (er != 0) = true := by simpa using hz
      go_wp2_with fail
      refine (same_any HA3.out HU3.out).mono ?_
      rintro e w4 ⟨rfl, hb4⟩
      have HB4 := Lib.hid (HB3.out.trans (hb4.mono HB3.out.size))
      have HI4 := Lib.hid (HI3.out.below hb4)
      clear hb4 HB3 HI3 HA3 HU3
      go_wp2_with fail
      go_loopw [10] (fun i wr => ∃ k : Nat, k ≤ m ∧ i = .int .i64 k ∧ Hid (IW wr ia gi m) ∧ Hid (Below w.heap.size w wr)) (fun i _ => m - (intOf i).toNat)
      case atStart => exact ⟨0, Nat.zero_le _, rfl, HI4.out, HB4.out⟩
      case round =>
        clear HI4 HB4
        obtain ⟨k, hk, rfl, HI, HB⟩ := hrel
        by_cases hlt : k < m
        · obtain ⟨hia, ⟨u0, q0⟩, ⟨u1, q1⟩, ⟨u2, q2⟩, f0, f1, f2⟩ := HI.out.at hlt
          have HI2 := Lib.hid (HI.out.set k (.int .i64 99) (.int .i64 0) (.string ⟨#[]⟩))
          have HBX := Lib.hid (iw_below HB.out HGI.out.1 k (.int .i64 99) (.int .i64 0) (.string ⟨#[]⟩))
          subst hia
          go_wp2_with fail
          go_roundw
          case rel => exact ⟨k + 1, by omega, by go_num, HI2.out, HBX.out⟩
          case measure => simp [intOf]; omega
        · obtain rfl : k = m := by omega
          clear HI
          go_wp2_with fail
          go_loopw [11] (fun i wr => i = .int .i64 0 ∧ Hid (Below w.heap.size w wr)) (fun i _ => 0)
          case atStart => exact ⟨rfl, HB.out⟩
          case round =>
            clear HB
            obtain ⟨rfl, HB⟩ := hrel
            by_cases hb0 : 0 < bn
            · have hbI : decide ((0 : Int) < (bn : Int)) = true := by simp; omega
              go_wp2_with fail
              refine (works_any _).mono ?_
              rintro e x1 ⟨rfl, hb⟩
              have HBX := Lib.hid (HB.out.trans (hb.mono HB.out.size))
              clear hb
              go_wp2_with fail
              go_ret
              exact ⟨rfl, HBX.out⟩
            · obtain rfl : bn = 0 := by omega
              go_wp2_with fail
              refine (works_any _).mono ?_
              rintro e x1 ⟨rfl, hb⟩
              have HBX := Lib.hid (HB.out.trans (hb.mono HB.out.size))
              clear hb
              go_wp2_with fail
              go_ret
              exact ⟨rfl, HBX.out⟩
end Go.Proofs.Ytnnckmbhleoamaa
