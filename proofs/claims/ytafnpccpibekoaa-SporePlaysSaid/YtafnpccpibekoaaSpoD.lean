/- Calls that can be read; SporePlays. -/
import Derived.Test.YtafnpccpibekoaaSpoC
namespace Go.Proofs.Ytafnpccpibekoaa
open Go.RowKit Sp
set_option linter.unusedVariables false

/-- rows of two numbers that can be read -/
def DS (w : World) (v : Value) (n : Nat) (d : Nat → Nat → Int) : Prop :=
  ∃ a cap, v = .slice a n cap ∧ n ≤ cap ∧ cap ≤ maxLen ∧
    (0 < n → ∃ b off, a = some ⟨b, off, none⟩ ∧ ∀ i, i < n → ∀ j, j < 2 → w.cell? ⟨b, off + i * 2 + j, none⟩ = some (.int .i64 (d i j)))
theorem DS.nil (w : World) (d : Nat → Nat → Int) : DS w (.slice none 0 0) 0 d := ⟨none, 0, rfl, Nat.le_refl _, Nat.zero_le _, fun h => by cases h⟩
theorem DS.slice {w : World} {v : Value} {n : Nat} {d : Nat → Nat → Int} (h : DS w v n d) : ∃ a cap, v = .slice a n cap ∧ n ≤ cap ∧ cap ≤ maxLen := by obtain ⟨a, cap, h1, h2, h3, _⟩ := h; exact ⟨a, cap, h1, h2, h3⟩
theorem DS.below {w w' : World} {v : Value} {n : Nat} {d : Nat → Nat → Int} (h : DS w v n d) (q : Below w.heap.size w w') : DS w' v n d := by
  obtain ⟨a, cap, h1, h2, h3, h5⟩ := h
  exact ⟨a, cap, h1, h2, h3, fun hn => by obtain ⟨b, off, e, hc⟩ := h5 hn; exact ⟨b, off, e, fun i hi j hj => (q.cell (lt_of_cell (hc i hi j hj))).trans (hc i hi j hj)⟩⟩
theorem DS.at {w : World} {n cap : Nat} {a : Option Addr} {m : Nat} {d : Nat → Nat → Int} (h : DS w (.slice a n cap) m d) {i : Nat} (hi : i < n) : ∃ b off, a = some ⟨b, off, none⟩ ∧ w.cell? ⟨b, off + i * 2, none⟩ = some (.int .i64 (d i 0)) ∧ w.cell? ⟨b, off + i * 2 + 1, none⟩ = some (.int .i64 (d i 1)) := by
  obtain ⟨a', cap', e, h1, h2, h4⟩ := h
  obtain ⟨rfl, rfl, rfl⟩ : a = a' ∧ n = m ∧ cap = cap' := by simpa using e
  obtain ⟨b, off, rfl, hc⟩ := h4 (by omega)
  exact ⟨b, off, rfl, hc i hi 0 (by decide), hc i hi 1 (by decide)⟩
theorem bring3 (a : Int) : bring a 3 = 0 ∨ bring a 3 = 1 ∨ bring a 3 = 2 := by
  have := bring_range a (n := 3) (by decide)
  omega
set_option maxHeartbeats 8000000 in
theorem plays_any {w : World} {u : Value} {m : Nat} {d : Nat → Nat → Int} (hd : DS w u m d) (x : Int) : Calls Try.prog 3 #[.int .i64 x, u] w (TrueB w) := by
  obtain ⟨a, cap, rfl, hn1, hn2⟩ := hd.slice
  have hmx : m ≤ 9223372036854775807 := by unfold maxLen at hn2; omega
  have HD := Lib.hid hd
  clear hd
  rcases wp_cases x with ⟨q1, q2, q⟩ | ⟨q1, q⟩
  · have H0 := Lib.hid (og_new w q)
    have HQ := Lib.hid q
    clear q
    go_enter Try.func3, Try.ntmps3
    go_wp2_with fail
    refine H0.out.mono ?_
    rintro E w1 ⟨rfl, hg⟩
    have HG := Lib.hid hg
    clear hg H0
    go_wp2_with fail
    refine (od_new HG.out HQ.out).mono ?_
    rintro E w2 ⟨rfl, hg⟩
    have HO := Lib.hid hg
    clear hg HG
    generalize w1.heap.size = c at *
    go_wp2_with fail
    go_loopw [9] (fun i wr => ∃ (k : Nat) (p e : Int), k ≤ m ∧ i = .int .i64 k ∧ Hid (OD w.heap.size w wr w.heap.size c p e)) (fun i _ => m - (intOf i).toNat)
    case atStart => exact ⟨0, x, 0, Nat.zero_le _, rfl, HO.out⟩
    case round =>
      clear HO
      obtain ⟨k, p, e, hk, rfl, HO⟩ := hrel
      by_cases hkm : k < m
      · by_cases hk2 : k < 200
        · obtain ⟨db, off, rfl, c0, c1⟩ := (HD.out.below HO.out.bel).at hkm
          have hk1 : decide ((k : Int) < 200) = true := by simp; omega
          have hkI : (k : Int) < (m : Int) := by omega
          have hk0 : (0 : Int) ≤ k := by omega
          generalize d k 0 = y at *
          generalize d k 1 = n at *
          have HBR := Lib.hid (fun w => bring_any y 3 w (by decide) (by decide))
          rcases bring3 y with hy | hy | hy
          · rw [hy] at HBR
            clear hy
            go_wp2_with fail
            refine (HBR.out _).mono ?_
            rintro E w3 ⟨rfl, rfl⟩
            clear c0 c1
            go_wp2_with fail
            refine (od_release HO.out n).mono ?_
            rintro E w4 ⟨rfl, ho⟩
            have HO2 := Lib.hid ho
            clear ho
            go_wp2_with fail
            refine (oe_release HO2.out n rfl rfl).mono ?_
            rintro E w5 ⟨rfl, ho⟩
            have HO3 := Lib.hid ho
            clear ho HO HO2
            go_wp2_with fail
            refine (od_next HO3.out).mono ?_
            rintro E w6 ⟨rfl, rfl⟩
            go_wp2_with fail
            refine (od_rnext HO3.out).mono ?_
            rintro E w6 ⟨rfl, rfl⟩
            go_wp2_with fail
            go_roundw
            case rel => exact ⟨k + 1, _, _, by omega, by go_num, HO3.out⟩
            case measure => simp [intOf]; omega
          · rw [hy] at HBR
            clear hy
            go_wp2_with fail
            refine (HBR.out _).mono ?_
            rintro E w3 ⟨rfl, rfl⟩
            clear c0 c1
            go_wp2_with fail
            refine (od_may HO.out n).mono ?_
            rintro E w4 ⟨rfl, rfl⟩
            go_wp2_with fail
            refine (od_rmay HO.out n).mono ?_
            rintro E w5 ⟨rfl, rfl⟩
            have HO3 := HO
            go_wp2_with fail
            refine (od_next HO3.out).mono ?_
            rintro E w6 ⟨rfl, rfl⟩
            go_wp2_with fail
            refine (od_rnext HO3.out).mono ?_
            rintro E w6 ⟨rfl, rfl⟩
            go_wp2_with fail
            go_roundw
            case rel => exact ⟨k + 1, _, _, by omega, by go_num, HO3.out⟩
            case measure => simp [intOf]; omega
          · rw [hy] at HBR
            clear hy
            go_wp2_with fail
            refine (HBR.out _).mono ?_
            rintro E w3 ⟨rfl, rfl⟩
            clear c0 c1
            go_wp2_with fail
            refine (od_change HO.out n).mono ?_
            rintro E w4 ⟨rfl, ho⟩
            have HO2 := Lib.hid ho
            clear ho
            go_wp2_with fail
            refine (oe_change HO2.out n rfl rfl).mono ?_
            rintro E w5 ⟨rfl, ho⟩
            have HO3 := Lib.hid ho
            clear ho HO HO2
            go_wp2_with fail
            refine (od_next HO3.out).mono ?_
            rintro E w6 ⟨rfl, rfl⟩
            go_wp2_with fail
            refine (od_rnext HO3.out).mono ?_
            rintro E w6 ⟨rfl, rfl⟩
            go_wp2_with fail
            go_roundw
            case rel => exact ⟨k + 1, _, _, by omega, by go_num, HO3.out⟩
            case measure => simp [intOf]; omega
        · have hk1 : decide ((k : Int) < 200) = false := by simp; omega
          have hkI : (k : Int) < (m : Int) := by omega
          go_wp2_with fail
          refine (works_any _).mono ?_
          rintro E w5 ⟨rfl, hb5⟩
          have HB5 := Lib.hid (HO.out.bel.trans (hb5.mono HO.out.bel.size))
          clear hb5
          go_wp2_with fail
          go_ret
          exact ⟨rfl, HB5.out⟩
      · obtain rfl : k = m := by omega
        go_wp2_with fail
        refine (works_any _).mono ?_
        rintro E w5 ⟨rfl, hb5⟩
        have HB5 := Lib.hid (HO.out.bel.trans (hb5.mono HO.out.bel.size))
        clear hb5
        go_wp2_with fail
        go_ret
        exact ⟨rfl, HB5.out⟩
  · have H0 := Lib.hid (new_no w q)
    have H1 := Lib.hid (rnew_no w q)
    clear q q1
    go_enter Try.func3, Try.ntmps3
    go_wp2_with fail
    refine H0.out.mono ?_
    rintro E w1 ⟨rfl, rfl⟩
    go_wp2_with fail
    refine H1.out.mono ?_
    rintro E w2 ⟨rfl, rfl⟩
    clear H0 H1
    go_wp2_with fail
    go_loopw [9] (fun i wr => i = .int .i64 0 ∧ wr = w) (fun i _ => 0)
    case atStart => exact ⟨rfl, rfl⟩
    case round =>
      obtain ⟨rfl, rfl⟩ := hrel
      have HO := Lib.hid (Below.refl wr.heap.size wr)
      by_cases hm : 0 < m
      · have hm1 : decide ((0 : Int) < (m : Int)) = true := by simp; omega
        go_wp2_with fail
        refine (works_any _).mono ?_
        rintro E w5 ⟨rfl, hb5⟩
        have HB5 := Lib.hid hb5
        clear hb5
        go_wp2_with fail
        go_ret
        exact ⟨rfl, HB5.out⟩
      · obtain rfl : m = 0 := by omega
        go_wp2_with fail
        refine (works_any _).mono ?_
        rintro E w5 ⟨rfl, hb5⟩
        have HB5 := Lib.hid hb5
        clear hb5
        go_wp2_with fail
        go_ret
        exact ⟨rfl, HB5.out⟩
end Go.Proofs.Ytafnpccpibekoaa
