/- Whether tasks may be asked: the document's answer. -/
import Derived.Test.YtkkmfpllgjoceaaGreatZd
namespace Go.Proofs.YtkkmfpllgjoceaaGreat.Dm
open Go.RowKit Tk De
set_option linter.unusedVariables false
set_option maxRecDepth 100000

/-- a task, by value -/
abbrev tv (t : Nat → Int) : Value := .agg #[.int .i64 (t 0), .int .i64 (t 1), .int .i64 (t 2), .int .i64 (t 3), .int .i64 (t 4), .int .i64 (t 5), .int .i64 (t 6), .int .i64 (t 7)]
theorem tOK_six (t : Nat → Int) : tOK t = (decide (1 ≤ t 0) && (decide (t 0 ≤ 64) && (decide (1 ≤ t 1) && (decide (t 1 ≤ t 0) && (decide (1 ≤ t 2) && decide (t 2 ≤ t 1)))))) := by
  unfold tOK
  simp only [Bool.and_assoc]
theorem rtask_any (t : Nat → Int) (w : World) : Calls Tryz.prog 101 #[tv t] w (YB (tOK t) w) := by
  have HT := Lib.hid (tOK_six t)
  generalize tOK t = R at *
  have HB := Lib.hid ((Below.refl _ w).alloc (Nat.le_refl _) (tko t))
  unfold tko at HB
  unfold tv
  generalize t 0 = t0 at *
  generalize t 1 = t1 at *
  generalize t 2 = t2 at *
  generalize t 3 = t3 at *
  generalize t 4 = t4 at *
  generalize t 5 = t5 at *
  generalize t 6 = t6 at *
  generalize t 7 = t7 at *
  cases h0 : decide (1 ≤ t0) with
  | false =>
    rw [h0] at HT
    go_enter Tryz.func101, Tryz.ntmps101
    go_wp2
    go_ret
    exact ⟨by rw [HT.out]; rfl, HB.out⟩
  | true =>
    rw [h0] at HT
    cases h1 : decide (t0 ≤ 64) with
    | false =>
      rw [h1] at HT
      go_enter Tryz.func101, Tryz.ntmps101
      go_wp2
      go_ret
      exact ⟨by rw [HT.out]; rfl, HB.out⟩
    | true =>
      rw [h1] at HT
      cases h2 : decide (1 ≤ t1) with
      | false =>
        rw [h2] at HT
        go_enter Tryz.func101, Tryz.ntmps101
        go_wp2
        go_ret
        exact ⟨by rw [HT.out]; rfl, HB.out⟩
      | true =>
        rw [h2] at HT
        cases h3 : decide (t1 ≤ t0) with
        | false =>
          rw [h3] at HT
          go_enter Tryz.func101, Tryz.ntmps101
          go_wp2
          go_ret
          exact ⟨by rw [HT.out]; rfl, HB.out⟩
        | true =>
          rw [h3] at HT
          cases h4 : decide (1 ≤ t2) with
          | false =>
            rw [h4] at HT
            go_enter Tryz.func101, Tryz.ntmps101
            go_wp2
            go_ret
            exact ⟨by rw [HT.out]; rfl, HB.out⟩
          | true =>
            rw [h4] at HT
            go_enter Tryz.func101, Tryz.ntmps101
            go_wp2
            go_ret
            exact ⟨by rw [HT.out]; rfl, HB.out⟩
theorem rtask_fit {t : Nat → Int} {R : Bool} (h : tOK t = R) (w : World) : Calls Tryz.prog 101 #[tv t] w (YB R w) := by subst h; exact rtask_any t w
set_option maxHeartbeats 1000000 in
theorem rtasks_any {w : World} {v : Value} {n : Nat} {z : Nat → Nat → Int} (h : TK w v n z) : Calls Tryz.prog 40 #[v] w (YB (tasksOK n z) w) := by
  obtain ⟨a, cap, rfl, hn1, hn2⟩ := h.slice
  have HP := Lib.hid h
  clear h
  have hmx : n ≤ 9223372036854775807 := by unfold maxLen at hn2; omega
  obtain ⟨R, hR⟩ : ∃ R, R = tasksOK n z := ⟨_, rfl⟩
  have HR := Lib.hid hR
  rw [← hR]
  clear hR
  go_enter Tryz.func40, Tryz.ntmps40
  go_wp2_with fail
  go_loopw [3] (fun i wr => ∃ k : Nat, k ≤ n ∧ i = .int .i64 k ∧ Hid (allT z k = true) ∧ Hid (Below w.heap.size w wr)) (fun i _ => n - (intOf i).toNat)
  case atStart => exact ⟨0, by omega, rfl, rfl, Below.refl _ _⟩
  case round =>
    obtain ⟨k, hk, rfl, HA, HB⟩ := hrel
    by_cases hlt : k < n
    · obtain ⟨b, off, rfl, c⟩ := (HP.out.below HB.out).at hlt
      obtain ⟨c0, c1, c2, c3, c4, c5, c6, c7⟩ := c
      cases g : tOK (z k) with
      | false =>
        have HE : Hid (R = false) := by rw [Hid, HR.out, tasksOK, allT_no hlt g, Bool.and_false]
        have G := Lib.hid (rtask_fit g)
        clear g
        unfold tv at G
        go_wp2_with fail
        refine (G.out _).mono ?_
        rintro e w1 ⟨rfl, hb⟩
        have HB2 := Lib.hid (chn HB.out hb)
        clear hb
        go_wp2_with fail
        go_ret
        exact ⟨by rw [HE.out]; rfl, HB2.out⟩
      | true =>
        have HE : Hid (allT z (k + 1) = true) := by unfold Hid allT; rw [HA.out, g]; rfl
        have G := Lib.hid (rtask_fit g)
        clear g HA
        unfold tv at G
        go_wp2_with fail
        refine (G.out _).mono ?_
        rintro e w1 ⟨rfl, hb⟩
        have HB2 := Lib.hid (chn HB.out hb)
        clear hb
        go_wp2_with fail
        go_roundw
        case rel => exact ⟨k + 1, by omega, by go_num, HE, HB2.out⟩
        case measure => simp [intOf]; omega
    · obtain rfl : k = n := by omega
      have HE : Hid (R = decide (k ≤ 4)) := by rw [Hid, HR.out, tasksOK, HA.out, Bool.and_true]
      cases g : decide (k ≤ 4) with
      | false =>
        rw [g] at HE
        have g2 : decide ((k : Int) ≤ 4) = false := by have := of_decide_eq_false g; simp; omega
        clear g
        go_wp2_with fail
        go_ret
        exact ⟨by rw [HE.out]; rfl, HB.out⟩
      | true =>
        rw [g] at HE
        have g2 : decide ((k : Int) ≤ 4) = true := by have := of_decide_eq_true g; simp; omega
        clear g
        go_wp2_with fail
        go_ret
        exact ⟨by rw [HE.out]; rfl, HB.out⟩
theorem rtasks_fit {w : World} {v : Value} {n : Nat} {z : Nat → Nat → Int} {R : Bool} (hR : tasksOK n z = R) (h : TK w v n z) : Calls Tryz.prog 40 #[v] w (YB R w) := by subst hR; exact rtasks_any h
/-- the first k of them are such -/
def mo (xs : List Int) : Nat → Bool
  | 0 => true
  | k + 1 => mo xs k && inMore (xs.getD k 0)
theorem mo_at {xs : List Int} : ∀ {k : Nat}, mo xs k = true ↔ ∀ j, j < k → inMore (xs.getD j 0) = true
  | 0 => by simp [mo]
  | k + 1 => by
    unfold mo
    rw [Bool.and_eq_true, mo_at]
    exact ⟨fun h j hj => by
      by_cases e : j = k
      · subst e; exact h.2
      · exact h.1 j (by omega), fun h => ⟨fun j hj => h j (by omega), h k (by omega)⟩⟩
theorem mo_all (xs : List Int) : mo xs xs.length = moreOK xs := by
  rw [Bool.eq_iff_iff, mo_at]
  exact ⟨more_all, fun h j hj => all_at (p := inMore) h hj⟩
theorem mo_no {xs : List Int} {k : Nat} (hk : k < xs.length) (h : mo xs (k + 1) = false) : moreOK xs = false := by
  cases e : moreOK xs with
  | false => rfl
  | true =>
    rw [← mo_all, mo_at] at e
    rw [mo_at.2 (fun j hj => e j (by omega))] at h
    cases h
end Go.Proofs.YtkkmfpllgjoceaaGreat.Dm
