/- PurseBegins, PursePlays. -/
import Derived.Test.YtcmejhgjkecpjaaPurB
import Derived.Test.YtcmejhgjkecpjaaPurO
import Derived.Deep.RegionHeld3
namespace Go.Proofs.Ytcmejhgjkecpjaa
open Go.RowKit Pu
set_option linter.unusedVariables false
set_option maxRecDepth 100000

theorem begins_any (p b t : Int) (w : World) : Calls Try.prog 4 #[.int .i64 p, .int .i64 b, .int .i64 t] w (TrueB w) := by
  by_cases hq : nwE p b t = 0
  · have H0 := Lib.hid (og_new w hq rfl)
    have HQ := Lib.hid hq
    clear hq
    go_enter Try.func4, Try.ntmps4
    go_wp2_with fail
    refine H0.out.mono ?_
    rintro E w1 ⟨gb, rfl, hg⟩
    have HG := Lib.hid hg
    clear hg H0
    go_wp2_with fail
    refine (od_new HG.out HQ.out).mono ?_
    rintro E w2 ⟨rfl, hg⟩
    have HO := Lib.hid hg
    clear hg HG
    go_wp2_with fail
    refine (same_any HO.out).mono ?_
    rintro E w3 ⟨rfl, hq⟩
    have HB := Lib.hid (HO.out.below hq).bel
    clear HO hq
    go_wp2_with fail
    refine (works_any _).mono ?_
    rintro E w4 ⟨rfl, hb⟩
    have HB4 := Lib.hid (HB.out.trans (hb.mono HB.out.size))
    clear hb
    go_wp2_with fail
    go_ret
    exact ⟨rfl, HB4.out⟩
  · have H0 := Lib.hid (new_no w hq)
    have H1 := Lib.hid (fun w => rnew_no w hq)
    have hz : (nwE p b t == 0) = false := by simpa using hq
    have hz2 : (nwE p b t != 0) = true := by simpa using hq
    have hz3 : (!(nwE p b t != 0)) = false := by simpa using hq
    generalize nwE p b t = x at *
    clear hq
    go_enter Try.func4, Try.ntmps4
    go_wp2_with fail
    refine H0.out.mono ?_
    rintro E w1 ⟨rfl, hq⟩
    have HB := Lib.hid hq
    clear hq
    go_wp2_with fail
    refine (H1.out _).mono ?_
    rintro E w2 ⟨rfl, rfl⟩
    clear H0 H1
    go_wp2_with fail
    refine (works_any _).mono ?_
    rintro E w4 ⟨rfl, hb⟩
    have HB4 := Lib.hid (HB.out.trans (hb.mono HB.out.size))
    clear hb
    go_wp2_with fail
    go_ret
    exact ⟨rfl, HB4.out⟩
theorem bring5 (a : Int) : bring a 5 = 0 ∨ bring a 5 = 1 ∨ bring a 5 = 2 ∨ bring a 5 = 3 ∨ bring a 5 = 4 := by
  have := bring_range a (n := 5) (by decide)
  omega
theorem wrap_tmod (a : Int) {n : Int} (h : 1 ≤ n) (hn : n ≤ 9007199254740992) : wrap64 (a.tmod n) = a.tmod n := by
  have h1 := Int.lt_tmod_of_pos a (by omega : 0 < n)
  have h2 := Int.tmod_lt_of_pos a (by omega : 0 < n)
  unfold wrap64; omega
theorem beq_self_i (x : Int) : (x == x) = true := by simp
theorem beq_self_b (x : Bool) : (x == x) = true := by simp
set_option maxHeartbeats 60000000 in
theorem plays_any {w : World} {u : Value} {m : Nat} {d : Nat → Nat → Int} (hd : DS w u m d) (p q : Int) : Calls Try.prog 3 #[.int .i64 p, .int .i64 q, u] w (TrueB w) := by
  obtain ⟨a, cap, rfl, hn1, hn2⟩ := hd.slice
  have hmx : m ≤ 9223372036854775807 := by unfold maxLen at hn2; omega
  have HD := Lib.hid hd
  clear hd hn1 hn2
  by_cases hq : nwE p q 3 = 0
  · have H0 := Lib.hid (og_new w hq rfl)
    have HQ := Lib.hid hq
    clear hq
    go_enter Try.func3, Try.ntmps3
    go_wp2_with fail
    refine H0.out.mono ?_
    rintro E w1 ⟨gb, rfl, hg⟩
    have HG := Lib.hid hg
    clear hg H0
    go_wp2_with fail
    refine (od_new HG.out HQ.out).mono ?_
    rintro E w2 ⟨rfl, hg⟩
    have HO := Lib.hid hg
    clear hg HG HQ
    generalize w1.heap.size = c at *
    generalize nwS p q 3 = s0 at *
    go_wp2_with fail
    go_loopw [11] (fun i wr => ∃ (k : Nat) (s : St), k ≤ m ∧ i = .int .i64 k ∧ Hid (OD w.heap.size w wr gb c k s)) (fun i _ => m - (intOf i).toNat)
    case atStart => exact ⟨0, s0, Nat.zero_le _, rfl, HO.out⟩
    case round =>
      clear HO
      obtain ⟨k, s, hk, rfl, HO⟩ := hrel
      by_cases hkm : k < m
      · by_cases hk2 : k < 100
        · obtain ⟨db, off, rfl, c0, c1, c2⟩ := (HD.out.below HO.out.bel).at hkm
          have hk1 : decide ((k : Int) < 100) = true := by simp; omega
          have hkI : (k : Int) < (m : Int) := by omega
          have hk0 : (0 : Int) ≤ k := by omega
          generalize d k 0 = y at *
          generalize d k 1 = xa at *
          generalize d k 2 = xb at *
          have HBR := Lib.hid (fun w => bring_any y 5 w (by decide) (by decide))
          have hxb : wr.heap.size ≠ gb := Nat.ne_of_gt HO.out.g.lt
          have hxc : wr.heap.size ≠ c := Nat.ne_of_gt HO.out.d.lt
          have HA := Lib.hid (HO.out.alloc (.cells #[.int .i64 y, .int .i64 xa, .int .i64 xb] 31 (0, 0)))
          have HX := Lib.hid (heap_alloc_new wr (.cells #[.int .i64 y, .int .i64 xa, .int .i64 xb] 31 (0, 0)))
          go_wp2_with fail
          generalize wr.heap.size = g at *
          generalize wr.alloc (.cells #[.int .i64 y, .int .i64 xa, .int .i64 xb] 31 (0, 0)) = W0 at *
          have x1 := cell_of_row _ _ 1 _ _ _ HX.out
          have x2 := cell_of_row _ _ 2 _ _ _ HX.out
          clear HO c0 c1 c2
          rcases bring5 y with hy | hy | hy | hy | hy <;> rw [hy] at HBR <;> clear hy
          · skip
            refine (HBR.out _).mono ?_
            rintro E w3 ⟨rfl, rfl⟩
            clear HBR
            go_wp2_with fail
            refine (od_charge HA.out).mono ?_
            rintro E w4 ⟨rfl, ho, _⟩
            have HO2 := Lib.hid ho
            clear ho HA
            go_wp2_with fail
            refine (oh_charge HO2.out).mono ?_
            rintro E w5 ⟨rfl, ho, _⟩
            have HO3 := Lib.hid ho
            clear ho HO2
            go_wp2_with fail
            refine (same_any HO3.out).mono ?_
            rintro E w6 ⟨rfl, hq⟩
            have HS := Lib.hid (HO3.out.below hq)
            clear hq
            clear HO3
            go_wp2_with fail
            go_roundw
            case rel => exact ⟨k + 1, _, by omega, by go_num, HS.out⟩
            case measure => simp [intOf]; omega
          · skip
            refine (HBR.out _).mono ?_
            rintro E w3 ⟨rfl, rfl⟩
            clear HBR
            go_wp2_with fail
            refine (od_charge HA.out).mono ?_
            rintro E w4 ⟨rfl, ho, _⟩
            have HO2 := Lib.hid ho
            clear ho HA
            go_wp2_with fail
            refine (oh_charge HO2.out).mono ?_
            rintro E w5 ⟨rfl, ho, _⟩
            have HO3 := Lib.hid ho
            clear ho HO2
            go_wp2_with fail
            refine (same_any HO3.out).mono ?_
            rintro E w6 ⟨rfl, hq⟩
            have HS := Lib.hid (HO3.out.below hq)
            clear hq
            clear HO3
            go_wp2_with fail
            go_roundw
            case rel => exact ⟨k + 1, _, by omega, by go_num, HS.out⟩
            case measure => simp [intOf]; omega
          · skip
            have c3 := HA.out.d.c3
            by_cases hz : xa.tmod 3 = 0
            · have hz1 : (xa.tmod 3 == 0) = true := by simpa using hz
              clear hz
              refine (HBR.out _).mono ?_
              rintro E w3 ⟨rfl, rfl⟩
              clear HBR
              go_wp2_with fail
              clear c3 hz1
              refine (od_turn HA.out (by omega) xb).mono ?_
              rintro E w4 ⟨rfl, ho, _⟩
              have HO2 := Lib.hid ho
              clear ho HA
              go_wp2_with fail
              refine (oh_turn (by omega) HO2.out).mono ?_
              rintro E w5 ⟨rfl, ho, _⟩
              have HO3 := Lib.hid ho
              clear ho HO2
              go_wp2_with fail
              refine (same_any HO3.out).mono ?_
              rintro E w6 ⟨rfl, hq⟩
              have HS := Lib.hid (HO3.out.below hq)
              clear hq
              clear HO3
              go_wp2_with fail
              go_roundw
              case rel => exact ⟨k + 1, _, by omega, by go_num, HS.out⟩
              case measure => simp [intOf]; omega
            · have hz1 : (xa.tmod 3 == 0) = false := by simpa using hz
              clear hz
              refine (HBR.out _).mono ?_
              rintro E w3 ⟨rfl, rfl⟩
              clear HBR
              go_wp2_with fail
              clear c3 hz1
              refine (od_turn HA.out (by omega) s.e).mono ?_
              rintro E w4 ⟨rfl, ho, _⟩
              have HO2 := Lib.hid ho
              clear ho HA
              go_wp2_with fail
              refine (oh_turn (by omega) HO2.out).mono ?_
              rintro E w5 ⟨rfl, ho, _⟩
              have HO3 := Lib.hid ho
              clear ho HO2
              go_wp2_with fail
              refine (same_any HO3.out).mono ?_
              rintro E w6 ⟨rfl, hq⟩
              have HS := Lib.hid (HO3.out.below hq)
              clear hq
              clear HO3
              go_wp2_with fail
              go_roundw
              case rel => exact ⟨k + 1, _, by omega, by go_num, HS.out⟩
              case measure => simp [intOf]; omega
          · have HP : Hid (Calls Try.prog 14 #[.pointer (some ⟨gb, 0, none⟩), .int .i64 xa, .int .i64 xb] W0.drew (fun E w' => E = .returned (.int .i64 (cgE s xa xb)) ∧ OH w.heap.size w w' gb c k (cgS s xa xb) s ∧ w'.heap[g]? = some (.cells #[.int .i64 y, .int .i64 xa, .int .i64 xb] 31 (0, 0)))) := Lib.hid ((od_change HA.out.drew xa xb).mono (fun E w' q => ⟨q.1, q.2.1, q.2.2 g _ HX.out hxb hxc⟩))
            have HD2 : Hid (∀ w1, OH w.heap.size w w1 gb c k (cgS s xa xb) s → w1.heap[g]? = some (.cells #[.int .i64 y, .int .i64 xa, .int .i64 xb] 31 (0, 0)) → Calls Try.prog 15 #[.pointer (some ⟨c, 0, none⟩), .int .i64 xa, .int .i64 xb] w1 (fun E w' => E = .returned (.int .i64 (cgE s xa xb)) ∧ OD w.heap.size w w' gb c (k + 1) (cgS s xa xb) ∧ w'.heap[g]? = some (.cells #[.int .i64 y, .int .i64 xa, .int .i64 xb] 31 (0, 0)))) := Lib.hid (fun w1 h1 h2 => (oh_change h1).mono (fun E w' q => ⟨q.1, q.2.1, q.2.2 g _ h2 hxb hxc⟩))
            have HS0 := Lib.hid (And.intro x1 x2)
            generalize cgS s xa xb = s1 at *
            generalize cgE s xa xb = er at *
            refine (HBR.out _).mono ?_
            rintro E w3 ⟨rfl, rfl⟩
            clear HBR
            go_wp2_with fail
            clear HA
            go_region_held3 (fun w' => w'.cell? ⟨g, 1, none⟩ = some (.int .i64 xa) ∧ w'.cell? ⟨g, 2, none⟩ = some (.int .i64 xb))
              (first | assumption | exact HS0.out | go_keep)
              (first | (go_at_call 14; refine HP.out.mono ?_; rintro E w5 ⟨rfl, hr5, hS5⟩; have HD5 := Lib.hid (HD2.out _ hr5 hS5); have hS5 := And.intro (cell_of_row _ _ 1 _ _ _ hS5) (cell_of_row _ _ 2 _ _ _ hS5); clear hr5) | (go_at_call 15; refine HD5.out.mono ?_; rintro E w6 ⟨rfl, hr6, hS6⟩; have H6 := Lib.hid hr6; have hS6 := And.intro (cell_of_row _ _ 1 _ _ _ hS6) (cell_of_row _ _ 2 _ _ _ hS6); clear hr6))
            all_goals
              go_wp2_with fail
              refine (same_any H6.out).mono ?_
              rintro E w7 ⟨rfl, hq⟩
              have HS := Lib.hid (H6.out.below hq)
              clear hq
              clear H6
              go_wp2_with fail
              go_roundw
              case rel => exact ⟨k + 1, _, by omega, by go_num, HS.out⟩
              case measure => simp [intOf]; omega
          · skip
            by_cases hz : xa.tmod 4 = 0
            · have hz1 : (xa.tmod 4 != 0) = false := by simpa using hz
              clear hz
              refine (HBR.out _).mono ?_
              rintro E w3 ⟨rfl, rfl⟩
              clear HBR
              go_wp2_with fail
              clear hz1
              refine (od_leave HA.out).mono ?_
              rintro E w4 ⟨rfl, ho, _⟩
              have HO2 := Lib.hid ho
              clear ho HA
              go_wp2_with fail
              refine (oh_leave HO2.out).mono ?_
              rintro E w5 ⟨rfl, ho, _⟩
              have HO3 := Lib.hid ho
              clear ho HO2
              go_wp2_with fail
              refine (same_any HO3.out).mono ?_
              rintro E w6 ⟨rfl, hq⟩
              have HS := Lib.hid (HO3.out.below hq)
              clear hq
              clear HO3
              go_wp2_with fail
              go_roundw
              case rel => exact ⟨k + 1, _, by omega, by go_num, HS.out⟩
              case measure => simp [intOf]; omega
            · have hz1 : (xa.tmod 4 != 0) = true := by simpa using hz
              clear hz
              have HA2 := Lib.hid HA.out.up
              clear HA
              refine (HBR.out _).mono ?_
              rintro E w3 ⟨rfl, rfl⟩
              clear HBR
              go_wp2_with fail
              refine (same_any HA2.out).mono ?_
              rintro E w6 ⟨rfl, hq⟩
              have HS := Lib.hid (HA2.out.below hq)
              clear hq
              clear HA2
              go_wp2_with fail
              go_roundw
              case rel => exact ⟨k + 1, _, by omega, by go_num, HS.out⟩
              case measure => simp [intOf]; omega
        · have hk1 : decide ((k : Int) < 100) = false := by simp; omega
          have hkI : (k : Int) < (m : Int) := by omega
          go_wp2_with fail
          refine (works_any _).mono ?_
          rintro E w5 ⟨rfl, hb5⟩
          have HB5 := Lib.hid (HO.out.bel.trans (hb5.mono HO.out.bel.size))
          clear hb5
          go_wp2_with fail
          go_ret
          exact ⟨rfl, HB5.out⟩
      · obtain rfl : k = m := by omega
        go_wp2_with fail
        refine (works_any _).mono ?_
        rintro E w5 ⟨rfl, hb5⟩
        have HB5 := Lib.hid (HO.out.bel.trans (hb5.mono HO.out.bel.size))
        clear hb5
        go_wp2_with fail
        go_ret
        exact ⟨rfl, HB5.out⟩
  · have H0 := Lib.hid (new_no w hq)
    have H1 := Lib.hid (fun w => rnew_no w hq)
    have hz : (nwE p q 3 == 0) = false := by simpa using hq
    have hz2 : (nwE p q 3 != 0) = true := by simpa using hq
    have hz3 : (!(nwE p q 3 != 0)) = false := by simpa using hq
    generalize nwE p q 3 = x at *
    clear hq
    go_enter Try.func3, Try.ntmps3
    go_wp2_with fail
    refine H0.out.mono ?_
    rintro E w1 ⟨rfl, hq⟩
    have HB := Lib.hid hq
    clear hq
    go_wp2_with fail
    refine (H1.out _).mono ?_
    rintro E w2 ⟨rfl, rfl⟩
    clear H0 H1
    go_wp2_with fail
    go_loopw [11] (fun i wr => i = .int .i64 0 ∧ wr = w1) (fun i _ => 0)
    case atStart => exact ⟨rfl, rfl⟩
    case round =>
      obtain ⟨rfl, rfl⟩ := hrel
      by_cases hm : 0 < m
      · have hm1 : decide ((0 : Int) < (m : Int)) = true := by simp; omega
        go_wp2_with fail
        refine (works_any _).mono ?_
        rintro E w5 ⟨rfl, hb5⟩
        have HB5 := Lib.hid (HB.out.trans (hb5.mono HB.out.size))
        clear hb5
        go_wp2_with fail
        go_ret
        exact ⟨rfl, HB5.out⟩
      · obtain rfl : m = 0 := by omega
        go_wp2_with fail
        refine (works_any _).mono ?_
        rintro E w5 ⟨rfl, hb5⟩
        have HB5 := Lib.hid (HB.out.trans (hb5.mono HB.out.size))
        clear hb5
        go_wp2_with fail
        go_ret
        exact ⟨rfl, HB5.out⟩
end Go.Proofs.Ytcmejhgjkecpjaa
