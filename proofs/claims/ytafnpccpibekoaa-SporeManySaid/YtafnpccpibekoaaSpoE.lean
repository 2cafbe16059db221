/- SporeApart. -/
import Derived.Test.YtafnpccpibekoaaSpoD
namespace Go.Proofs.Ytafnpccpibekoaa
open Go.RowKit Sp
set_option linter.unusedVariables false

theorem og_rel0 {B : Nat} {W w : World} {b : Nat} {p e : Int} (h : OG B W w b p e) {n : Int} (h1 : 0 ≤ n) (h2 : n ≤ 1099511627776) (h3 : e ≤ n) : Calls Try.prog 10 #[.pointer (some ⟨b, 0, none⟩), .int .i64 n] w (OgP B W b (.int .i64 0) p (n + p)) := by
  rcases wt_cases e n with ⟨_, _⟩ | ⟨_, _, _⟩ | ⟨_, _, _, _⟩ | ⟨_, _, _, q⟩
  · omega
  · omega
  · omega
  · exact og_rel h n q (if_pos q)
theorem og_relE {B : Nat} {W w : World} {b : Nat} {p e : Int} (h : OG B W w b p e) {n : Int} (h1 : 0 ≤ n) (h2 : n ≤ 1099511627776) (h3 : n < e) : Calls Try.prog 10 #[.pointer (some ⟨b, 0, none⟩), .int .i64 n] w (OgP B W b (.int .i64 140) p e) := by
  rcases wt_cases e n with ⟨_, _⟩ | ⟨_, _, _⟩ | ⟨_, _, _, q⟩ | ⟨_, _, _, q⟩
  · omega
  · omega
  · exact og_rel h n q (if_neg (by rw [q]; decide))
  · omega
theorem og_mayY {B : Nat} {W w : World} {b : Nat} {p e : Int} (h : OG B W w b p e) {n : Int} (h1 : 0 ≤ n) (h2 : n ≤ 1099511627776) (h3 : e ≤ n) : Calls Try.prog 12 #[.pointer (some ⟨b, 0, none⟩), .int .i64 n] w (IsB true w) := by
  rcases wt_cases e n with ⟨_, _⟩ | ⟨_, _, _⟩ | ⟨_, _, _, _⟩ | ⟨_, _, _, q⟩
  · omega
  · omega
  · omega
  · exact og_may' h n (by rw [q]; rfl)
theorem og_mayN {B : Nat} {W w : World} {b : Nat} {p e : Int} (h : OG B W w b p e) {n : Int} (h1 : 0 ≤ n) (h2 : n ≤ 1099511627776) (h3 : n < e) : Calls Try.prog 12 #[.pointer (some ⟨b, 0, none⟩), .int .i64 n] w (IsB false w) := by
  rcases wt_cases e n with ⟨_, _⟩ | ⟨_, _, _⟩ | ⟨_, _, _, q⟩ | ⟨_, _, _, q⟩
  · omega
  · omega
  · exact og_may' h n (by rw [q]; rfl)
  · omega
theorem wp_in {q : Int} (h1 : 1 ≤ q) (h2 : q ≤ 64) : wp q = 0 := if_pos ⟨h1, h2⟩
theorem ch_in {p q : Int} (h1 : 1 ≤ q) (h2 : q ≤ 64) : ch p q = q := if_pos (wp_in h1 h2)
/-- the last release, and the period at it -/
def La (now last had e : Int) : Prop := (last = -1 ∧ had = 0 ∧ e = 0) ∨ (0 ≤ last ∧ last ≤ now ∧ 1 ≤ had ∧ had ≤ 64 ∧ e = last + had)
set_option maxHeartbeats 8000000 in
theorem apart_any {w : World} {u : Value} {m : Nat} {d : Nat → Nat → Int} (hd : DS w u m d) (x : Int) : Calls Try.prog 4 #[.int .i64 x, u] w (TrueB w) := by
  obtain ⟨a, cap, rfl, hn1, hn2⟩ := hd.slice
  have hmx : m ≤ 9223372036854775807 := by unfold maxLen at hn2; omega
  have HD := Lib.hid hd
  have HBX := Lib.hid (fun w => bring_any x 64 w (by decide) (by decide))
  have hr := bring_range x (n := 64) (by decide)
  generalize bring x 64 = y at *
  obtain ⟨r1, r2⟩ := hr
  have HQ := Lib.hid (wp_in (q := 1 + y) (by omega) (by omega))
  clear hd
  go_enter Try.func4, Try.ntmps4
  go_wp2_with fail
  refine (works_any _).mono ?_
  rintro E w0 ⟨rfl, hb⟩
  have HB := Lib.hid hb
  clear hb
  go_wp2_with fail
  refine (HBX.out _).mono ?_
  rintro E w0' ⟨rfl, rfl⟩
  clear HBX
  go_wp2_with fail
  refine (og_new _ HQ.out).mono ?_
  rintro E w1 ⟨rfl, hg⟩
  have HO : Hid (OG w.heap.size w w1 w0.heap.size (1 + y) 0) := ⟨hg.g, hg.ok, HB.out.size, HB.out.trans (hg.bel.mono HB.out.size)⟩
  clear hg HB HQ
  generalize w0.heap.size = b at *
  generalize 1 + y = p0 at *
  go_wp2_with fail
  go_loopw [5, 8, 9, 10, 11] (fun vp vn vl vh i wr => ∃ (k : Nat) (p now last had e : Int), k ≤ m ∧ k ≤ 200 ∧ vp = .int .i64 p ∧ vn = .int .i64 now ∧ vl = .int .i64 last ∧ vh = .int .i64 had ∧ i = .int .i64 k ∧ 0 ≤ now ∧ now ≤ 90 * k ∧ Hid (La now last had e) ∧ Hid (OG w.heap.size w wr b p e)) (fun _ _ _ _ i _ => m - (intOf i).toNat)
  case atStart => exact ⟨0, p0, 0, -1, 0, 0, Nat.zero_le _, by omega, rfl, rfl, rfl, rfl, rfl, by omega, by omega, Or.inl ⟨rfl, rfl, rfl⟩, HO.out⟩
  case round =>
    clear HO r1 r2
    obtain ⟨k, p, now, last, had, e, hk, hk2, rfl, rfl, rfl, rfl, rfl, hn0, hn9, HL, HO⟩ := hrel
    by_cases hgo : k < m ∧ k < 200
    · obtain ⟨hkm, hk3⟩ := hgo
      obtain ⟨db, off, rfl, c0, c1⟩ := (HD.out.below HO.out.bel).at hkm
      have hk1 : decide ((k : Int) < 200) = true := by simp; omega
      have hkI : (k : Int) < (m : Int) := by omega
      have hk0 : (0 : Int) ≤ k := by omega
      generalize d k 0 = y at *
      generalize d k 1 = n at *
      have HBR := Lib.hid (fun w => bring_any y 4 w (by decide) (by decide))
      by_cases hy : bring y 4 = 3
      · rw [hy] at HBR
        have HB6 := Lib.hid (fun w => bring_any n 64 w (by decide) (by decide))
        have hr := bring_range n (n := 64) (by decide)
        generalize bring n 64 = z at *
        obtain ⟨r1, r2⟩ := hr
        have HC := Lib.hid (og_cha HO.out (1 + z) (x := 0) (p' := 1 + z) (wp_in (by omega) (by omega)) (ch_in (by omega) (by omega)))
        clear hy HO
        go_wp2_with fail
        refine (HBR.out _).mono ?_
        rintro E w3 ⟨rfl, rfl⟩
        go_wp2_with fail
        refine (HB6.out _).mono ?_
        rintro E w3 ⟨rfl, rfl⟩
        clear c0 c1
        go_wp2_with fail
        refine HC.out.mono ?_
        rintro E w4 ⟨rfl, ho⟩
        have HO := Lib.hid ho
        clear ho HC
        go_wp2_with fail
        go_roundw
        case rel => exact ⟨k + 1, _, _, _, _, e, by omega, by omega, rfl, rfl, rfl, rfl, by go_num, hn0, by omega, HL.out, HO.out⟩
        case measure => simp [intOf]; omega
      · have hy2 : (bring y 4 == 3) = false := by simpa using hy
        have hy3 : decide (bring y 4 = 3) = false := by simpa using hy
        generalize bring y 4 = kd at *
        have HB6 := Lib.hid (fun w => bring_any n 90 w (by decide) (by decide))
        have hr := bring_range n (n := 90) (by decide)
        generalize bring n 90 = z at *
        obtain ⟨r1, r2⟩ := hr
        rcases HL.out with ⟨rfl, rfl, rfl⟩ | ⟨l1, l2, l3, l4, l5⟩
        · have HM := Lib.hid (og_mayY HO.out (n := now + z) (by omega) (by omega) (by omega))
          have HR := Lib.hid (og_rel0 HO.out (n := now + z) (by omega) (by omega) (by omega))
          clear hy HL HO
          go_wp2_with fail
          refine (HBR.out _).mono ?_
          rintro E w3 ⟨rfl, rfl⟩
          go_wp2_with fail
          refine (HB6.out _).mono ?_
          rintro E w3 ⟨rfl, rfl⟩
          clear c0 c1
          go_wp2_with fail
          refine HM.out.mono ?_
          rintro E w3 ⟨rfl, rfl⟩
          go_wp2_with fail
          refine HR.out.mono ?_
          rintro E w4 ⟨rfl, ho⟩
          have HO := Lib.hid ho
          clear ho HR HM
          go_wp2_with fail
          go_roundw
          case rel => exact ⟨k + 1, _, _, _, _, _, by omega, by omega, rfl, rfl, rfl, rfl, by go_num, by omega, by omega, Or.inr ⟨by omega, by omega, HO.out.ok.p1, HO.out.ok.p2, rfl⟩, HO.out⟩
          case measure => simp [intOf]; omega
        · by_cases hm : last + had ≤ now + z
          · have HM := Lib.hid (og_mayY HO.out (n := now + z) (by omega) (by omega) (by omega))
            have HR := Lib.hid (og_rel0 HO.out (n := now + z) (by omega) (by omega) (by omega))
            have hl0 : decide (last < 0) = false := by simp; omega
            have hm1 : decide (last + had ≤ now + z) = true := by simpa using hm
            clear hy HL HO
            go_wp2_with fail
            refine (HBR.out _).mono ?_
            rintro E w3 ⟨rfl, rfl⟩
            go_wp2_with fail
            refine (HB6.out _).mono ?_
            rintro E w3 ⟨rfl, rfl⟩
            clear c0 c1
            go_wp2_with fail
            refine HM.out.mono ?_
            rintro E w3 ⟨rfl, rfl⟩
            go_wp2_with fail
            refine HR.out.mono ?_
            rintro E w4 ⟨rfl, ho⟩
            have HO := Lib.hid ho
            clear ho HR HM
            go_wp2_with fail
            go_roundw
            case rel => exact ⟨k + 1, _, _, _, _, _, by omega, by omega, rfl, rfl, rfl, rfl, by go_num, by omega, by omega, Or.inr ⟨by omega, by omega, HO.out.ok.p1, HO.out.ok.p2, rfl⟩, HO.out⟩
            case measure => simp [intOf]; omega
          · have HM := Lib.hid (og_mayN HO.out (n := now + z) (by omega) (by omega) (by omega))
            have HR := Lib.hid (og_relE HO.out (n := now + z) (by omega) (by omega) (by omega))
            have HL2 : Hid (La (now + z) last had e) := Or.inr ⟨l1, by omega, l3, l4, l5⟩
            have hl0 : decide (last < 0) = false := by simp; omega
            have hm1 : decide (last + had ≤ now + z) = false := by simpa using hm
            clear hy HL HO
            go_wp2_with fail
            refine (HBR.out _).mono ?_
            rintro E w3 ⟨rfl, rfl⟩
            go_wp2_with fail
            refine (HB6.out _).mono ?_
            rintro E w3 ⟨rfl, rfl⟩
            clear c0 c1
            go_wp2_with fail
            refine HM.out.mono ?_
            rintro E w3 ⟨rfl, rfl⟩
            go_wp2_with fail
            refine HR.out.mono ?_
            rintro E w4 ⟨rfl, ho⟩
            have HO := Lib.hid ho
            clear ho HR HM
            go_wp2_with fail
            go_roundw
            case rel => exact ⟨k + 1, _, _, _, _, _, by omega, by omega, rfl, rfl, rfl, rfl, by go_num, by omega, by omega, HL2.out, HO.out⟩
            case measure => simp [intOf]; omega
    · have hstop : k = m ∨ k < m ∧ k = 200 := by omega
      rcases HL.out with ⟨rfl, rfl, rfl⟩ | ⟨l1, l2, l3, l4, l5⟩
      · rcases hstop with rfl | ⟨hkm, rfl⟩
        all_goals
          go_wp2_with fail
          go_ret
          exact ⟨rfl, HO.out.bel⟩
      · have hl0 : decide (last < 0) = false := by simp; omega
        have HL5 := Lib.hid l5
        have hE := Lib.hid (og_next HO.out)
        rw [l5] at hE
        clear l5
        rcases hstop with rfl | ⟨hkm, rfl⟩
        all_goals
          go_wp2_with fail
          refine hE.out.mono ?_
          rintro E w3 ⟨rfl, rfl⟩
          go_wp2_with fail
          go_ret
          exact ⟨by simp, HO.out.bel⟩
end Go.Proofs.Ytafnpccpibekoaa
