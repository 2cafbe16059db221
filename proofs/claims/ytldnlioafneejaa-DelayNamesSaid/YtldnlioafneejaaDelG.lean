/- Whether partitions may be asked, and waits: the document's. -/
import Derived.Test.YtldnlioafneejaaDelF
namespace Go.Proofs.Ytldnlioafneejaa
open Go.RowKit Tk De Dl Go.Sort
set_option linter.unusedVariables false

theorem okT_tree (bud : Int) (t : Nat → Int) : okT bud t = (!(decide (t 4 < 0)) && (!(decide (t 2 < t 4)) && (!(decide (t 5 < 0)) && (!(decide (4 < t 5)) &&
    (if (t 5 == 0) = true then (t 6 == 0) && (t 7 == 0) else decide (1 ≤ t 6) && (decide (t 6 ≤ bud) && (decide (1 ≤ t 7) && (decide (t 7 ≤ t 2) && decide (t 6 * t 7 ≤ t 2))))))))) := by
  rw [Bool.eq_iff_iff, okT_iff]
  by_cases h5 : t 5 = 0
  · simp [h5]
  · simp [h5]
set_option maxHeartbeats 4000000 in
theorem rtask9_any {bud : Int} {t : Nat → Int} (h : tOK t = true) (hbd : bud ≤ 64) (w : World) : Calls Try.prog 27 #[tv t, .int .i64 bud] w (YB (okT bud t) w) := by
  have ht := tOK_iff.1 h
  clear h
  have HT := Lib.hid (okT_tree bud t)
  generalize okT bud t = R at *
  have HB := Lib.hid ((Below.refl _ w).alloc (Nat.le_refl _) (tko t))
  unfold tko at HB
  unfold tv
  generalize t 0 = t0 at *
  generalize t 1 = t1 at *
  generalize t 2 = t2 at *
  generalize t 3 = t3 at *
  generalize t 4 = t4 at *
  generalize t 5 = t5 at *
  generalize t 6 = t6 at *
  generalize t 7 = t7 at *
  cases h0 : decide (t4 < 0) with
  | true =>
    rw [h0] at HT
    go_enter Try.func27, Try.ntmps27
    go_wp2
    go_ret
    exact ⟨by rw [HT.out]; rfl, HB.out⟩
  | false =>
    rw [h0] at HT
    cases h1 : decide (t2 < t4) with
    | true =>
      rw [h1] at HT
      go_enter Try.func27, Try.ntmps27
      go_wp2
      go_ret
      exact ⟨by rw [HT.out]; rfl, HB.out⟩
    | false =>
      rw [h1] at HT
      cases h2 : decide (t5 < 0) with
      | true =>
        rw [h2] at HT
        go_enter Try.func27, Try.ntmps27
        go_wp2
        go_ret
        exact ⟨by rw [HT.out]; rfl, HB.out⟩
      | false =>
        rw [h2] at HT
        cases h3 : decide (4 < t5) with
        | true =>
          rw [h3] at HT
          go_enter Try.func27, Try.ntmps27
          go_wp2
          go_ret
          exact ⟨by rw [HT.out]; rfl, HB.out⟩
        | false =>
          rw [h3] at HT
          cases h4 : t5 == 0 with
          | true =>
            rw [h4] at HT
            cases h5 : t6 == 0 with
            | false =>
              rw [h5] at HT
              go_enter Try.func27, Try.ntmps27
              go_wp2
              go_ret
              exact ⟨by rw [HT.out]; rfl, HB.out⟩
            | true =>
              rw [h5] at HT
              go_enter Try.func27, Try.ntmps27
              go_wp2
              go_ret
              exact ⟨by rw [HT.out]; rfl, HB.out⟩
          | false =>
            rw [h4] at HT
            cases h6 : decide (1 ≤ t6) with
            | false =>
              rw [h6] at HT
              go_enter Try.func27, Try.ntmps27
              go_wp2
              go_ret
              exact ⟨by rw [HT.out]; rfl, HB.out⟩
            | true =>
              rw [h6] at HT
              cases h7 : decide (t6 ≤ bud) with
              | false =>
                rw [h7] at HT
                go_enter Try.func27, Try.ntmps27
                go_wp2
                go_ret
                exact ⟨by rw [HT.out]; rfl, HB.out⟩
              | true =>
                rw [h7] at HT
                cases h8 : decide (1 ≤ t7) with
                | false =>
                  rw [h8] at HT
                  go_enter Try.func27, Try.ntmps27
                  go_wp2
                  go_ret
                  exact ⟨by rw [HT.out]; rfl, HB.out⟩
                | true =>
                  rw [h8] at HT
                  cases h9 : decide (t7 ≤ t2) with
                  | false =>
                    rw [h9] at HT
                    go_enter Try.func27, Try.ntmps27
                    go_wp2
                    go_ret
                    exact ⟨by rw [HT.out]; rfl, HB.out⟩
                  | true =>
                    rw [h9] at HT
                    have p0 : 1 ≤ t6 := of_decide_eq_true h6
                    have p1 : t6 ≤ bud := of_decide_eq_true h7
                    have p2 : 1 ≤ t7 := of_decide_eq_true h8
                    have p3 : t7 ≤ t2 := of_decide_eq_true h9
                    have p4 : 0 ≤ t6 * t7 := Int.mul_nonneg (by omega) (by omega)
                    have p5 : t6 * t7 ≤ 64 * 64 := Int.mul_le_mul (by omega) (by omega) (by omega) (by decide)
                    have hw : wrap64 (t6 * t7) = t6 * t7 := by unfold wrap64; omega
                    clear p0 p1 p2 p3 p4 p5 ht hbd
                    go_enter Try.func27, Try.ntmps27
                    go_wp2
                    go_ret
                    exact ⟨by rw [HT.out]; simp, HB.out⟩
theorem rtask9_fit {bud : Int} {t : Nat → Int} {R : Bool} (hr : okT bud t = R) (h : tOK t = true) (hbd : bud ≤ 64) (w : World) : Calls Try.prog 27 #[tv t, .int .i64 bud] w (YB R w) := by subst hr; exact rtask9_any h hbd w
set_option maxHeartbeats 2000000 in
theorem ruses_any {w : World} {per bud : Int} {a : Option Addr} {n cap : Nat} {z : Nat → Nat → Int} (h : TK w (.slice a n cap) n z) (hc : cap ≤ maxLen) (hn : n ≤ 2199023255552) (g : Int) :
    Calls Try.prog 33 #[pv per bud a n cap, .int .i64 g] w (YB (usesN z g n) w) := by
  have HP := Lib.hid h
  have HK0 := Lib.hid (KB.made w per bud a n cap)
  have hmx : n ≤ 9223372036854775807 := by omega
  obtain ⟨R, hR⟩ : ∃ R, R = usesN z g n := ⟨_, rfl⟩
  have HR := Lib.hid hR
  rw [← hR]
  unfold pvo at HK0
  clear hR h
  go_enter Try.func33, Try.ntmps33
  go_wp2_with fail
  go_loopw [5] (fun i wr => ∃ k : Nat, k ≤ n ∧ i = .int .i64 k ∧ Hid (usesN z g k = false) ∧ Hid (KB w wr per bud a n cap)) (fun i _ => n - (intOf i).toNat)
  case atStart => exact ⟨0, by omega, rfl, rfl, HK0.out⟩
  case round =>
    clear HK0
    obtain ⟨k, hk, rfl, HA, HK⟩ := hrel
    have m2 := HK.out.c2
    by_cases hlt : k < n
    · obtain ⟨b, off, rfl, c⟩ := (HP.out.below HK.out.b).at hlt
      obtain ⟨c0, c1, c2, c3, c4, c5, c6, c7⟩ := c
      cases hg : decide (z k 5 = g) with
      | true =>
        have HE : Hid (R = true) := HR.out.trans (uses_hit hlt (of_decide_eq_true hg))
        have hb : (z k 5 == g) = true := by simpa using hg
        clear hg
        go_wp2_with fail
        go_ret
        exact ⟨by rw [HE.out]; rfl, HK.out.b⟩
      | false =>
        have HE : Hid (usesN z g (k + 1) = false) := by unfold Hid usesN; rw [HA.out, hg]; rfl
        have hb : (z k 5 == g) = false := by simpa using hg
        clear hg HA
        go_wp2_with fail
        go_roundw
        case rel => exact ⟨k + 1, by omega, by go_num, HE, HK⟩
        case measure => simp [intOf]; omega
    · obtain rfl : k = n := by omega
      have HE : Hid (R = false) := HR.out.trans HA.out
      go_wp2_with fail
      go_ret
      exact ⟨by rw [HE.out]; rfl, HK.out.b⟩
theorem ruses_fit {w : World} {per bud : Int} {a : Option Addr} {n cap : Nat} {z : Nat → Nat → Int} {g : Int} {R : Bool} (hr : usesN z g n = R) (h : TK w (.slice a n cap) n z) (hc : cap ≤ maxLen) (hn : n ≤ 2199023255552) :
    Calls Try.prog 33 #[pv per bud a n cap, .int .i64 g] w (YB R w) := by subst hr; exact ruses_any h hc hn g
end Go.Proofs.Ytldnlioafneejaa
