/- The document's answers for many numbers (escapementref01.Sum, Lcm). -/
import Derived.Test.YtebgfemnfbfnpaaWalksE
namespace Go.Proofs.Ytebgfemnfbfnpaa
open Go.RowKit Tk
set_option linter.unusedVariables false

theorem radd_fit (a b n e : Int) (w : World) (hn : addN a b = n) (he : addE a b = e) : Calls Try.prog 10 #[.int .i64 a, .int .i64 b] w (Two n e w) := by
  subst hn he; exact radd_any a b w
theorem rmul_fit (a b n e : Int) (w : World) (hn : mulN a b = n) (he : mulE a b = e) : Calls Try.prog 15 #[.int .i64 a, .int .i64 b] w (Two n e w) := by
  subst hn he; exact rmul_any a b w
theorem rgcd_fit (a b n e : Int) (w : World) (hn : gcdN a b = n) (he : gcdE a b = e) : Calls Try.prog 19 #[.int .i64 a, .int .i64 b] w (Two n e w) := by
  subst hn he; exact rgcd_any a b w
theorem allp_step (p : Int → Bool) (zs : List Int) (k : Nat) (h : k < zs.length) (e : p (zs.getD k 0) = true) (ht : (zs.take k).all p = true) : (zs.take (k + 1)).all p = true := by
  rw [List.take_add_one, List.all_append, ht]
  simp only [List.getD, List.getElem?_eq_getElem h, Option.getD_some] at e
  simp [List.getElem?_eq_getElem h, e]
theorem allp_no (p : Int → Bool) (zs : List Int) (k : Nat) (h : k < zs.length) (e : p (zs.getD k 0) = false) : zs.all p = false := by
  simp only [List.getD, List.getElem?_eq_getElem h, Option.getD_some] at e
  rw [List.all_eq_false]
  exact ⟨zs[k], List.getElem_mem h, by simp [e]⟩

set_option maxHeartbeats 1000000 in
theorem rsum_nil (a : Option Addr) (cap : Nat) (w : World) : Calls Try.prog 25 #[.slice a 0 cap] w (Two 0 0 w) := by
  go_enter Try.func25, Try.ntmps25
  go_wp2
  go_loop [4] (fun i => i = .int .i64 0) (fun _ => 0)
  case atStart => rfl
  case round =>
    subst hrel
    go_wp2
    go_loop [5, 6] (fun m i => i = .int .i64 0 ∧ m = .int .i64 0) (fun _ _ => 0)
    case atStart => exact ⟨rfl, rfl⟩
    case round =>
      obtain ⟨rfl, rfl⟩ := hrel
      go_wp2
      go_ret2
      exact ⟨rfl, rfl⟩

set_option maxHeartbeats 1000000 in
theorem rsum_some (b off cap n : Nat) (zs : List Int) (w : World) (hn : n = zs.length) (hl : n ≤ 9223372036854775807) (hc : ∀ i, i < zs.length → w.cell? ⟨b, off + i, none⟩ = some (.int .i64 (zs.getD i 0))) :
    Calls Try.prog 25 #[.slice (some ⟨b, off, none⟩) n cap] w (Two (sumR zs).1 (sumR zs).2 w) := by
  obtain ⟨R, HR⟩ : ∃ R : Int × Int, Hid (R = sumR zs) := ⟨_, rfl⟩
  rw [← HR.out]
  have HCC := Lib.hid hc; clear hc
  have HN := Lib.hid hn; clear hn
  go_enter Try.func25, Try.ntmps25
  go_wp2
  go_loop [4] (fun i => ∃ k : Nat, k ≤ n ∧ i = .int .i64 k ∧ Hid ((zs.take k).all tk = true)) (fun i => n - (intOf i).toNat)
  case atStart => exact ⟨0, Nat.zero_le _, rfl, by simp [Hid]⟩
  case round =>
    obtain ⟨k, hk, rfl, HT⟩ := hrel
    by_cases hlt : k < n
    · have hkz : k < zs.length := by have := HN.out; omega
      have hcell := HCC.out k hkz
      cases hx : tk (zs.getD k 0) with
      | false =>
        have HG : Hid (R = (0, 2)) := HR.out.trans (sumR_no (allp_no tk zs k hkz hx))
        clear hkz
        generalize zs.getD k 0 = z at *
        go_wp2_with (go_at_call 29; refine (tick_any _ _).mono ?_; rintro e w' ⟨rfl, rfl⟩)
        go_ret2
        exact ⟨by rw [HG.out]; rfl, rfl⟩
      | true =>
        have HF : Hid _ := allp_step tk zs k hkz hx HT.out
        clear hkz
        generalize zs.getD k 0 = z at *
        go_wp2_with (go_at_call 29; refine (tick_any _ _).mono ?_; rintro e w' ⟨rfl, rfl⟩)
        go_round
        case rel => exact ⟨k + 1, by omega, by go_num, HF⟩
        case measure => simp [intOf]; omega
    · have HALL : Hid (zs.all tk = true) := by
        have := HT.out; rw [List.take_of_length_le (by have := HN.out; omega)] at this; exact this
      have HR0 : Hid (R = sumAll 0 (zs.drop 0)) := HR.out.trans (sumR_yes HALL.out)
      clear HR HT
      go_wp2
      clear hlt
      go_loop [5, 6] (fun u i => ∃ (k : Nat) (m : Int), k ≤ n ∧ i = .int .i64 k ∧ u = .int .i64 m ∧ Hid (tk m = true) ∧ Hid (R = sumAll m (zs.drop k))) (fun _ i => n - (intOf i).toNat)
      case atStart => exact ⟨0, 0, Nat.zero_le _, rfl, rfl, tk_yes (by decide) (by decide), HR0⟩
      case round =>
        clear HR0 hk
        obtain ⟨k, m, hk, rfl, rfl, HT, HR⟩ := hrel
        by_cases hlt : k < n
        · have hkz : k < zs.length := by have := HN.out; omega
          have hcell := HCC.out k hkz
          have HX := Lib.hid (all_at HALL.out hkz)
          by_cases hs : m + zs.getD k 0 ≤ 1099511627776
          · have HG : Hid (R = _) := HR.out.trans (sum_go hkz hs)
            have HS := Lib.hid hs
            clear HR hs hkz
            generalize zs.getD k 0 = z at *
            have HNEW : Hid (tk (m + z) = true) := by
              have a1 := (tk_iff _).1 HT.out
              have a2 := (tk_iff _).1 HX.out
              exact tk_yes (by omega) HS.out
            go_wp2_with fail
            refine (radd_fit _ _ _ _ _ (addN_ok HT.out HX.out HS.out) (addE_ok HT.out HX.out HS.out)).mono ?_
            rintro e w1 ⟨rfl, rfl⟩
            go_wp2_with fail
            go_round
            case rel => exact ⟨k + 1, _, by omega, by go_num, rfl, HNEW, HG⟩
            case measure => simp [intOf]; omega
          · have hs' : 1099511627776 < m + zs.getD k 0 := by omega
            have HG : Hid (R = _) := HR.out.trans (sum_halt hkz hs')
            have HS := Lib.hid hs'
            clear HR hs hs' hkz
            generalize zs.getD k 0 = z at *
            go_wp2_with fail
            refine (radd_fit _ _ _ _ _ (addN_over HS.out) (addE_over HT.out HX.out HS.out)).mono ?_
            rintro e w1 ⟨rfl, rfl⟩
            go_wp2_with fail
            go_ret2
            exact ⟨by rw [HG.out]; rfl, rfl⟩
        · have HG : Hid (R = _) := HR.out.trans (sum_end (by have := HN.out; omega))
          go_wp2
          go_ret2
          exact ⟨by rw [HG.out]; rfl, rfl⟩
theorem rsum_any (a : Option Addr) (cap n : Nat) (zs : List Int) (w : World) (hn : n = zs.length) (hl : n ≤ 9223372036854775807) (hr : Row w a zs) : Calls Try.prog 25 #[.slice a n cap] w (Two (sumR zs).1 (sumR zs).2 w) := by
  rcases hr with rfl | ⟨b, off, rfl, hc⟩
  · obtain rfl : n = 0 := by simpa using hn
    exact rsum_nil a cap w
  · exact rsum_some b off cap n zs w hn hl hc

theorem step_parts {n x : Int} (hn : ok1 n = true) (hx : ok1 x = true) : ∃ G : Int, 1 ≤ G ∧ 1 ≤ x ∧ x ≤ 1099511627776 ∧ 0 ≤ x / G ∧ x / G ≤ 1099511627776 ∧ gcdN n x = G ∧ gcdE n x = 0 ∧ lcm2 n x = n * (x / G) ∧ tk n = true ∧ tk (x / G) = true ∧ 1 ≤ lcm2 n x := by
  obtain ⟨g1, g2, d1, d2, tq, tn, l1⟩ := gcd_ok_pos hn hx
  rw [ok1_iff] at hn hx
  have h1 := gcd_bd hn.1 hn.2 hx.1 hx.2
  have h2 := quo_bd hn.1 hn.2 hx.1 hx.2
  exact ⟨_, h1.1, hx.1, hx.2, by omega, h2.2, g1, g2, rfl, tn, tq, l1⟩

set_option maxHeartbeats 1000000 in
theorem rlcm_nil (limit : Int) (a : Option Addr) (cap : Nat) (w : World) : Calls Try.prog 23 #[.int .i64 limit, .slice a 0 cap] w (Two (lcmR limit []).1 (lcmR limit []).2 w) := by
  cases hlim : tk limit with
  | false =>
    rw [lcmR_no1 hlim]
    go_enter Try.func23, Try.ntmps23
    go_wp2_with (go_at_call 29; refine (tick_any _ _).mono ?_; rintro e w' ⟨rfl, rfl⟩)
    go_ret2
    exact ⟨rfl, rfl⟩
  | true =>
    rw [lcmR_yes hlim rfl]
    by_cases hc : 1 ≤ limit
    · rw [show cutTo limit (lcmAll 1 []) = (1, 0) from by simp [cutTo, lcmAll, hc]]
      have hd : decide (limit < 1) = false := by simp; omega
      go_enter Try.func23, Try.ntmps23
      go_wp2_with (go_at_call 29; refine (tick_any _ _).mono ?_; rintro e w' ⟨rfl, rfl⟩)
      go_loop [6] (fun i => i = .int .i64 0) (fun _ => 0)
      case atStart => rfl
      case round =>
        subst hrel
        go_wp2
        go_loop [7, 8] (fun m i => i = .int .i64 0 ∧ m = .int .i64 1) (fun _ _ => 0)
        case atStart => exact ⟨rfl, rfl⟩
        case round =>
          obtain ⟨rfl, rfl⟩ := hrel
          go_wp2
          go_ret2
          exact ⟨rfl, rfl⟩
    · rw [show cutTo limit (lcmAll 1 []) = (0, 10) from by simp [cutTo, lcmAll, hc]]
      have hd : decide (limit < 1) = true := by simp; omega
      go_enter Try.func23, Try.ntmps23
      go_wp2_with (go_at_call 29; refine (tick_any _ _).mono ?_; rintro e w' ⟨rfl, rfl⟩)
      go_loop [6] (fun i => i = .int .i64 0) (fun _ => 0)
      case atStart => rfl
      case round =>
        subst hrel
        go_wp2
        go_loop [7, 8] (fun m i => i = .int .i64 0 ∧ m = .int .i64 1) (fun _ _ => 0)
        case atStart => exact ⟨rfl, rfl⟩
        case round =>
          obtain ⟨rfl, rfl⟩ := hrel
          go_wp2
          go_ret2
          exact ⟨rfl, rfl⟩

set_option maxHeartbeats 2000000 in
theorem rlcm_some (limit : Int) (b off cap n : Nat) (zs : List Int) (w : World) (hn : n = zs.length) (hl : n ≤ 9223372036854775807) (hc : ∀ i, i < zs.length → w.cell? ⟨b, off + i, none⟩ = some (.int .i64 (zs.getD i 0))) (hlim : tk limit = true) :
    Calls Try.prog 23 #[.int .i64 limit, .slice (some ⟨b, off, none⟩) n cap] w (Two (lcmR limit zs).1 (lcmR limit zs).2 w) := by
  obtain ⟨R, HR⟩ : ∃ R : Int × Int, Hid (R = lcmR limit zs) := ⟨_, rfl⟩
  rw [← HR.out]
  have HCC := Lib.hid hc; clear hc
  have HN := Lib.hid hn; clear hn
  have HLIM := Lib.hid hlim
  go_enter Try.func23, Try.ntmps23
  go_wp2_with (go_at_call 29; refine (tick_any _ _).mono ?_; rintro e w' ⟨rfl, rfl⟩)
  clear hlim
  go_loop [6] (fun i => ∃ k : Nat, k ≤ n ∧ i = .int .i64 k ∧ Hid ((zs.take k).all ok1 = true)) (fun i => n - (intOf i).toNat)
  case atStart => exact ⟨0, Nat.zero_le _, rfl, by simp [Hid]⟩
  case round =>
    obtain ⟨k, hk, rfl, HT⟩ := hrel
    by_cases hlt : k < n
    · have hkz : k < zs.length := by have := HN.out; omega
      have hcell := HCC.out k hkz
      cases hx : tk (zs.getD k 0) with
      | false =>
        have HG : Hid (R = (0, 2)) := HR.out.trans (lcmR_no2 (allp_no ok1 zs k hkz (by rw [ok1, hx]; rfl)))
        clear hkz
        generalize zs.getD k 0 = z at *
        go_wp2_with (go_at_call 29; refine (tick_any _ _).mono ?_; rintro e w' ⟨rfl, rfl⟩)
        go_ret2
        exact ⟨by rw [HG.out]; rfl, rfl⟩
      | true =>
        cases hz : (zs.getD k 0 == 0) with
        | true =>
          have HG : Hid (R = (0, 2)) := HR.out.trans (lcmR_no2 (allp_no ok1 zs k hkz (by rw [ok1, hx]; simpa using hz)))
          clear hkz
          generalize zs.getD k 0 = z at *
          go_wp2_with (go_at_call 29; refine (tick_any _ _).mono ?_; rintro e w' ⟨rfl, rfl⟩)
          go_ret2
          exact ⟨by rw [HG.out]; rfl, rfl⟩
        | false =>
          have HF : Hid _ := allp_step ok1 zs k hkz (by rw [ok1, hx]; simpa using hz) HT.out
          clear hkz
          generalize zs.getD k 0 = z at *
          go_wp2_with (go_at_call 29; refine (tick_any _ _).mono ?_; rintro e w' ⟨rfl, rfl⟩)
          go_round
          case rel => exact ⟨k + 1, by omega, by go_num, HF⟩
          case measure => simp [intOf]; omega
    · have HALL : Hid (zs.all ok1 = true) := by
        have := HT.out; rw [List.take_of_length_le (by have := HN.out; omega)] at this; exact this
      have HR0 : Hid (R = cutTo limit (lcmAll 1 (zs.drop 0))) := HR.out.trans (lcmR_yes HLIM.out HALL.out)
      clear HR HT
      go_wp2
      clear hlt
      go_loop [7, 8] (fun u i => ∃ (k : Nat) (m : Int), k ≤ n ∧ i = .int .i64 k ∧ u = .int .i64 m ∧ Hid (ok1 m = true) ∧ Hid (R = cutTo limit (lcmAll m (zs.drop k)))) (fun _ i => n - (intOf i).toNat)
      case atStart => exact ⟨0, 1, Nat.zero_le _, rfl, rfl, (ok1_iff 1).2 (by omega), HR0⟩
      case round =>
        clear HR0 hk
        obtain ⟨k, m, hk, rfl, rfl, HT, HR⟩ := hrel
        by_cases hlt : k < n
        · have hkz : k < zs.length := by have := HN.out; omega
          have hcell := HCC.out k hkz
          have HX := Lib.hid (all_at HALL.out hkz)
          obtain ⟨G, b1, b2, b3, b4, b5, g1, g2, l1, tn, tq, lp⟩ := step_parts HT.out HX.out
          have HG1 := Lib.hid g1; have HG2 := Lib.hid g2; have HL1 := Lib.hid l1; have HTN := Lib.hid tn; have HTQ := Lib.hid tq; have HLP := Lib.hid lp
          clear g1 g2 l1 tn tq lp
          by_cases hs : lcm2 m (zs.getD k 0) ≤ 1099511627776
          · have HG : Hid (R = _) := HR.out.trans (congrArg (cutTo limit) (lcm_go hkz hs))
            have HS := Lib.hid hs
            clear HR hs hkz
            generalize zs.getD k 0 = z at *
            have HNEW : Hid (ok1 (lcm2 m z) = true) := (ok1_iff _).2 ⟨HLP.out, HS.out⟩
            have HM1 : Hid (mulN m (z / G) = lcm2 m z) := by have hs2 := HS.out; rw [HL1.out] at hs2; rw [Hid, HL1.out]; exact mulN_ok HTN.out HTQ.out hs2
            have HM2 : Hid (mulE m (z / G) = 0) := by have hs2 := HS.out; rw [HL1.out] at hs2; exact mulE_ok HTN.out HTQ.out hs2
            have hgb : (G == 0) = false := by simp; omega
            go_wp2_with fail
            refine (rgcd_fit _ _ _ _ _ HG1.out HG2.out).mono ?_
            rintro e w1 ⟨rfl, rfl⟩
            go_wp2_with fail
            refine (rmul_fit _ _ _ _ _ HM1.out HM2.out).mono ?_
            rintro e w1 ⟨rfl, rfl⟩
            go_wp2_with fail
            go_round
            case rel => exact ⟨k + 1, _, by omega, by go_num, rfl, HNEW, HG⟩
            case measure => simp [intOf]; omega
          · have hs' : 1099511627776 < lcm2 m (zs.getD k 0) := by omega
            have HG : Hid (R = _) := HR.out.trans (congrArg (cutTo limit) (lcm_halt hkz hs'))
            have HS := Lib.hid hs'
            clear HR hs hs' hkz
            generalize zs.getD k 0 = z at *
            have HM1 : Hid (mulN m (z / G) = 0) := by have hs2 := HS.out; rw [HL1.out] at hs2; exact mulN_over hs2
            have HM2 : Hid (mulE m (z / G) = 10) := by have hs2 := HS.out; rw [HL1.out] at hs2; exact mulE_over HTN.out HTQ.out hs2
            have hgb : (G == 0) = false := by simp; omega
            go_wp2_with fail
            refine (rgcd_fit _ _ _ _ _ HG1.out HG2.out).mono ?_
            rintro e w1 ⟨rfl, rfl⟩
            go_wp2_with fail
            refine (rmul_fit _ _ _ _ _ HM1.out HM2.out).mono ?_
            rintro e w1 ⟨rfl, rfl⟩
            go_wp2_with fail
            go_ret2
            exact ⟨by rw [HG.out]; rfl, rfl⟩
        · have HG : Hid (R = _) := HR.out.trans (congrArg (cutTo limit) (lcm_end (by have := HN.out; omega)))
          by_cases hcut : m ≤ limit
          · have HG' : Hid (R = (m, 0)) := HG.out.trans (by simp [cutTo, hcut])
            have hd : decide (limit < m) = false := by simp; omega
            go_wp2
            go_ret2
            exact ⟨by rw [HG'.out]; rfl, rfl⟩
          · have HG' : Hid (R = (0, 10)) := HG.out.trans (by simp [cutTo, hcut])
            have hcut' : limit < m := by omega
            clear hcut
            go_wp2
            go_ret2
            exact ⟨by rw [HG'.out]; rfl, rfl⟩
theorem rlcm_any (limit : Int) (a : Option Addr) (cap n : Nat) (zs : List Int) (w : World) (hn : n = zs.length) (hl : n ≤ 9223372036854775807) (hr : Row w a zs) : Calls Try.prog 23 #[.int .i64 limit, .slice a n cap] w (Two (lcmR limit zs).1 (lcmR limit zs).2 w) := by
  rcases hr with rfl | ⟨b, off, rfl, hc⟩
  · obtain rfl : n = 0 := by simpa using hn
    exact rlcm_nil limit a cap w
  · cases hlim : tk limit with
    | false =>
      rw [lcmR_no1 hlim]
      clear hc hn
      go_enter Try.func23, Try.ntmps23
      go_wp2_with (go_at_call 29; refine (tick_any _ _).mono ?_; rintro e w' ⟨rfl, rfl⟩)
      go_ret2
      exact ⟨rfl, rfl⟩
    | true => exact rlcm_some limit b off cap n zs w hn hl hc hlim

end Go.Proofs.Ytebgfemnfbfnpaa
