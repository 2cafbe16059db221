/- works; SupplyOf and SupplyWait. -/
import Derived.Test.YtajmnocchjhbkaaSupC
namespace Go.Proofs.Ytajmnocchjhbkaa
open Go.RowKit Tk Su
set_option linter.unusedVariables false

/-- true is answered; what was there is as it was -/
def TrueB (w : World) (e : Ending) (w' : World) : Prop := e = .returned (.bool true) ∧ Below w.heap.size w w'
def wnt : List Int := [0, 0, 0, 0, 0, 0, 0, 1, 2, 2, 2, 2, 3, 4, 4]
theorem wnt_at : ∀ j : Nat, j < 15 → ofN 5 2 j = wnt.getD j 0 ∧ ofE 5 2 j = 0 := by decide +kernel
theorem of_fit {p b t n e : Int} (hn : ofN p b t = n) (he : ofE p b t = e) (w : World) : Calls Try.prog 9 #[.int .i64 p, .int .i64 b, .int .i64 t] w (TwoB n e w) := by subst hn he; exact of_any p b t w
theorem wa_fit {p b t n e : Int} (hn : waN p b t = n) (he : waE p b t = e) (w : World) : Calls Try.prog 12 #[.int .i64 p, .int .i64 b, .int .i64 t] w (TwoB n e w) := by subst hn he; exact waits_any p b t w
theorem Row.at {w : World} {a : Option Addr} {zs : List Int} (h : Row w a zs) {i : Nat} (hi : i < zs.length) : ∃ b off, a = some ⟨b, off, none⟩ ∧ w.cell? ⟨b, off + i, none⟩ = some (.int .i64 (zs.getD i 0)) := by
  rcases h with rfl | ⟨b, off, rfl, hc⟩
  · cases hi
  · exact ⟨b, off, rfl, hc i hi⟩
set_option maxRecDepth 100000 in
set_option maxHeartbeats 1000000 in
theorem works_any (w : World) : Calls Try.prog 11 #[] w (TrueB w) := by
  have HL := Lib.hid (Row.made w wnt)
  have HB0 := Lib.hid (below_alloc w (.cells (wnt.map (Value.int .i64)).toArray 3))
  go_enter Try.func11, Try.ntmps11
  go_wp2_with fail
  go_loopw [2, 3] (fun i _ wr => ∃ j : Nat, j ≤ 15 ∧ i = .int .i64 j ∧ Hid (Row wr (some ⟨w.heap.size, 0, none⟩) wnt) ∧ Hid (Below w.heap.size w wr)) (fun i _ _ => 15 - (intOf i).toNat)
  case atStart => exact ⟨0, by omega, rfl, HL.out, HB0.out⟩
  case round =>
    clear HL HB0
    obtain ⟨j, hj, rfl, HR, HB⟩ := hrel
    by_cases hlt : j < 15
    · have HN := Lib.hid (wnt_at j hlt)
      have hjd : decide ((j : Int) < 15) = true := by simp; omega
      have hj0 : (0 : Int) ≤ j := by omega
      have hj15 : (j : Int) < 15 := by omega
      obtain ⟨x, hx⟩ : ∃ x, x = wnt.getD j 0 := ⟨_, rfl⟩
      rw [← hx] at HN
      have HX := Lib.hid hx
      clear hx
      go_wp2_with fail
      refine (of_fit HN.out.1 HN.out.2 _).mono ?_
      rintro e w1 ⟨rfl, hb⟩
      have HR1 := Lib.hid (HR.out.below hb); have HB1 := Lib.hid (chn HB.out hb)
      clear hb HR HB HN
      obtain ⟨b, off, he, c0⟩ := HR1.out.at (i := j) (by simpa [wnt] using hlt)
      rw [← HX.out] at c0
      injection he with he
      injection he with e1 e2 _
      subst e1; subst e2
      rw [Nat.zero_add] at c0
      go_wp2_with fail
      go_roundw
      case rel => exact ⟨j + 1, by omega, by go_num, HR1.out, HB1.out⟩
      case measure => simp [intOf]; omega
    · obtain rfl : j = 15 := by omega
      clear HR
      go_wp2_with fail
      refine (of_fit (show ofN 1 1 7 = 7 by decide +kernel) (show ofE 1 1 7 = 0 by decide +kernel) _).mono ?_
      rintro e w1 ⟨rfl, hb⟩
      have HB1 := Lib.hid (chn HB.out hb)
      clear hb HB
      go_wp2_with fail
      refine (of_fit (show ofN 5 6 1 = 0 by decide +kernel) (show ofE 5 6 1 = 2 by decide +kernel) _).mono ?_
      rintro e w2 ⟨rfl, hb⟩
      have HB2 := Lib.hid (chn HB1.out hb)
      clear hb HB1
      go_wp2_with fail
      refine (of_fit (show ofN 0 0 1 = 0 by decide +kernel) (show ofE 0 0 1 = 2 by decide +kernel) _).mono ?_
      rintro e w3 ⟨rfl, hb⟩
      have HB3 := Lib.hid (chn HB2.out hb)
      clear hb HB2
      go_wp2_with fail
      refine (wa_fit (show waN 5 2 1 = 7 by decide +kernel) (show waE 5 2 1 = 0 by decide +kernel) _).mono ?_
      rintro e w4 ⟨rfl, hb⟩
      have HB4 := Lib.hid (chn HB3.out hb)
      clear hb HB3
      go_wp2_with fail
      refine (wa_fit (show waN 5 2 3 = 12 by decide +kernel) (show waE 5 2 3 = 0 by decide +kernel) _).mono ?_
      rintro e w5 ⟨rfl, hb⟩
      have HB5 := Lib.hid (chn HB4.out hb)
      clear hb HB4
      go_wp2_with fail
      refine (wa_fit (show waN 5 2 0 = 0 by decide +kernel) (show waE 5 2 0 = 0 by decide +kernel) _).mono ?_
      rintro e w6 ⟨rfl, hb⟩
      have HB6 := Lib.hid (chn HB5.out hb)
      clear hb HB5
      go_wp2_with fail
      go_ret
      exact ⟨rfl, HB6.out⟩
theorem of_law (p b t : Int) (w : World) : Calls Try.prog 3 #[.int .i64 p, .int .i64 b, .int .i64 t] w (TrueB w) := by
  have HO := Lib.hid (of_any p b t); have HR := Lib.hid (rof_any p b t)
  generalize ofN p b t = x at *
  generalize ofE p b t = y at *
  go_enter Try.func3, Try.ntmps3
  go_wp2_with fail
  refine (HO.out _).mono ?_
  rintro e w1 ⟨rfl, hb⟩
  have HB := Lib.hid hb
  clear hb
  go_wp2_with fail
  refine (HR.out _).mono ?_
  rintro e w2 ⟨rfl, rfl⟩
  go_wp2_with fail
  refine (works_any _).mono ?_
  rintro e w3 ⟨rfl, hb⟩
  have HB2 := Lib.hid (chn HB.out hb)
  clear hb
  go_wp2_with fail
  go_ret
  exact ⟨rfl, HB2.out⟩
theorem wait_law (p b t : Int) (w : World) : Calls Try.prog 4 #[.int .i64 p, .int .i64 b, .int .i64 t] w (TrueB w) := by
  have HO := Lib.hid (waits_any p b t); have HR := Lib.hid (rwait_any p b t)
  generalize waN p b t = x at *
  generalize waE p b t = y at *
  go_enter Try.func4, Try.ntmps4
  go_wp2_with fail
  refine (HO.out _).mono ?_
  rintro e w1 ⟨rfl, hb⟩
  have HB := Lib.hid hb
  clear hb
  go_wp2_with fail
  refine (HR.out _).mono ?_
  rintro e w2 ⟨rfl, rfl⟩
  go_wp2_with fail
  refine (works_any _).mono ?_
  rintro e w3 ⟨rfl, hb⟩
  have HB2 := Lib.hid (chn HB.out hb)
  clear hb
  go_wp2_with fail
  go_ret
  exact ⟨rfl, HB2.out⟩
end Go.Proofs.Ytajmnocchjhbkaa
