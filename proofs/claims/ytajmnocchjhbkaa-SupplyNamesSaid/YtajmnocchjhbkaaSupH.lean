/- SupplyNames: both ends, small servers. -/
import Derived.Test.YtajmnocchjhbkaaSupE
namespace Go.Proofs.Ytajmnocchjhbkaa
open Go.RowKit Tk Su
set_option linter.unusedVariables false

set_option maxRecDepth 100000 in
set_option maxHeartbeats 2000000 in
theorem names_law (w : World) : Calls Try.prog 8 #[] w (TrueB w) := by
  go_enter Try.func8, Try.ntmps8
  go_wp2_with fail
  go_loopw [1, 2, 3] (fun p _ _ wr => ∃ i : Int, -1 ≤ i ∧ i ≤ 7 ∧ p = .int .i64 i ∧ Hid (Below w.heap.size w wr)) (fun p _ _ _ => (7 - intOf p).toNat)
  case atStart => exact ⟨-1, by omega, by omega, rfl, Below.refl _ _⟩
  case round =>
    obtain ⟨i, hi1, hi2, rfl, HB⟩ := hrel
    by_cases hlt : i < 7
    · go_wp2_with fail
      obtain ⟨wo, rfl⟩ : ∃ wo : World, wo = wr := ⟨_, rfl⟩
      go_loopw [2, 3] (fun p _ wr => ∃ j : Int, -1 ≤ j ∧ j ≤ 8 ∧ p = .int .i64 j ∧ Hid (Below w.heap.size w wr)) (fun p _ _ => (8 - intOf p).toNat)
      case atStart => exact ⟨-1, by omega, by omega, rfl, HB⟩
      case round =>
        clear HB
        obtain ⟨j, hj1, hj2, rfl, HB⟩ := hrel
        by_cases hlt2 : j < 8
        · go_wp2_with fail
          obtain ⟨wp, rfl⟩ : ∃ wp : World, wp = wr := ⟨_, rfl⟩
          go_loopw [3] (fun p wr => ∃ k : Int, -1 ≤ k ∧ k ≤ 20 ∧ p = .int .i64 k ∧ Hid (Below w.heap.size w wr)) (fun p _ => (20 - intOf p).toNat)
          case atStart => exact ⟨-1, by omega, by omega, rfl, HB⟩
          case round =>
            clear HB
            obtain ⟨k, hk1, hk2, rfl, HB⟩ := hrel
            by_cases hlt3 : k < 20
            · go_wp2_with fail
              refine (of_law i j k _).mono ?_
              rintro e w1 ⟨rfl, hb⟩
              have HB1 := Lib.hid (chn HB.out hb)
              clear hb HB
              go_wp2_with fail
              refine (wait_law i j k _).mono ?_
              rintro e w2 ⟨rfl, hb⟩
              have HB2 := Lib.hid (chn HB1.out hb)
              clear hb HB1
              go_wp2_with fail
              go_roundw
              case rel => exact ⟨k + 1, by omega, by omega, rfl, HB2.out⟩
              case measure => simp [intOf]; omega
            · obtain rfl : k = 20 := by omega
              go_wp2_with fail
              go_roundw
              case rel => exact ⟨j + 1, by omega, by omega, rfl, HB.out⟩
              case measure => simp [intOf]; omega
        · obtain rfl : j = 8 := by omega
          go_wp2_with fail
          go_roundw
          case rel => exact ⟨i + 1, by omega, by omega, rfl, HB.out⟩
          case measure => simp [intOf]; omega
    · obtain rfl : i = 7 := by omega
      go_wp2_with fail
      refine (of_fit (show ofN 64 64 1048576 = 1048576 by decide +kernel) (show ofE 64 64 1048576 = 0 by decide +kernel) _).mono ?_
      rintro e w1 ⟨rfl, hb⟩
      have HB1 := Lib.hid (chn HB.out hb)
      clear hb HB
      go_wp2_with fail
      refine (of_fit (show ofN 64 64 1048577 = 0 by decide +kernel) (show ofE 64 64 1048577 = 2 by decide +kernel) _).mono ?_
      rintro e w2 ⟨rfl, hb⟩
      have HB2 := Lib.hid (chn HB1.out hb)
      clear hb HB1
      go_wp2_with fail
      refine (of_fit (show ofN 65 1 1 = 0 by decide +kernel) (show ofE 65 1 1 = 2 by decide +kernel) _).mono ?_
      rintro e w3 ⟨rfl, hb⟩
      have HB3 := Lib.hid (chn HB2.out hb)
      clear hb HB2
      go_wp2_with fail
      refine (wa_fit (show waN 64 1 4096 = 262207 by decide +kernel) (show waE 64 1 4096 = 0 by decide +kernel) _).mono ?_
      rintro e w4 ⟨rfl, hb⟩
      have HB4 := Lib.hid (chn HB3.out hb)
      clear hb HB3
      go_wp2_with fail
      refine (wa_fit (show waN 64 1 4097 = 0 by decide +kernel) (show waE 64 1 4097 = 2 by decide +kernel) _).mono ?_
      rintro e w5 ⟨rfl, hb⟩
      have HB5 := Lib.hid (chn HB4.out hb)
      clear hb HB4
      go_wp2_with fail
      refine (works_any _).mono ?_
      rintro e w6 ⟨rfl, hb⟩
      have HB6 := Lib.hid (chn HB5.out hb)
      clear hb HB5
      go_wp2_with fail
      go_ret
      exact ⟨rfl, HB6.out⟩
end Go.Proofs.Ytajmnocchjhbkaa
