/- ShareExact: the walk. -/
import Derived.Test.YtlifkclgflfnlaaShaL
namespace Go.Proofs.Ytlifkclgflfnlaa.Sh
open Go.RowKit Tk De Dl Go.Proofs.Ytlifkclgflfnlaa.Lo Go.Proofs.Ytlifkclgflfnlaa.Ed Go.Proofs.Ytlifkclgflfnlaa.Su
set_option linter.unusedVariables false

set_option maxRecDepth 100000 in
set_option maxHeartbeats 8000000 in
theorem exact_law {w : World} {v : Value} {ps : List Pn} (h : PS w v ps) : Calls Try.prog 5 #[v] w (TrueB w) := by
  have HS := Lib.hid (sv_of_ps h)
  obtain ⟨a, cap, rfl, _⟩ := h.slice
  generalize ps.length = n0 at *
  generalize sp ps = p at *
  generalize sb ps = b at *
  have mixed : Try.prog.follows .mixedOrders = true := by kernel_rfl
  obtain ⟨n, hn⟩ : ∃ n, n = min n0 4 := ⟨_, rfl⟩
  have hn4 : n ≤ 4 := by omega
  have HMA := Lib.hid (made_any HS.out)
  unfold MadeP at HMA
  rw [← hn] at HMA
  have hmk := run_make_row' (P := Try.prog) 29 3 (.int .i64 0) 8 Try.underlying29 infoIn rfl .i64 .i64 n (by omega) (by omega)
  clear h hn HS
  go_enter Try.func5, Try.ntmps5
  go_wp2_with fail
  refine HMA.out.mono ?_
  rintro e w1 ⟨r, rfl, hsw, hb⟩
  have B1 := Lib.hid hb
  obtain ⟨a2, c2, rfl, hc1, hc2, _, hc3, hro⟩ := ro_of hsw
  have HRO0 := Lib.hid hro
  have HC : Hid (n ≤ c2 ∧ c2 ≤ maxLen ∧ (a2 = none → c2 = 0)) := ⟨hc1, hc2, hc3⟩
  have HBD0 : Hid (∀ j, j < n → 1 ≤ mP p j ∧ mP p j ≤ 64 ∧ 1 ≤ mB p b j ∧ mB p b j ≤ mP p j ∧ (j < 0 → mP p j ≤ 9)) := fun j _ => by have := m_bd p b j; omega
  clear hb hsw hc1 hc2 hc3 hro HMA
  go_wp2_with fail
  go_loopw [3] (fun iv W => ∃ (i : Nat) (P B : Nat → Nat), i ≤ n ∧ iv = .int .i64 i ∧ Hid (∀ j, j < n → 1 ≤ P j ∧ P j ≤ 64 ∧ 1 ≤ B j ∧ B j ≤ P j ∧ (j < i → P j ≤ 9)) ∧ Hid (RO W w.heap.size a2 n P B) ∧ Hid (Below w.heap.size w W)) (fun iv _ => n - (intOf iv).toNat)
  case atStart => exact ⟨0, _, _, Nat.zero_le _, rfl, HBD0.out, HRO0.out, B1.out⟩
  case round =>
    clear HBD0 HRO0 B1
    obtain ⟨i, P, B, hi, rfl, HBD, HRO, HB⟩ := hrel
    by_cases hlt : i < n
    · have hI : (i : Int) < n := by omega
      have hI0 : (0 : Int) ≤ i := by omega
      obtain ⟨g, rfl, hg, hrs⟩ := HRO.out (by omega)
      have HRS := Lib.hid hrs
      have HG := Lib.hid hg
      obtain ⟨k0, k1, k2, k3⟩ := hrs.at hlt
      obtain ⟨b1, b2, b3, b4, b5⟩ := HBD.out i hlt
      obtain ⟨r9, X, q9, Y, h1, h2, h3, h4, h5, h6, h7, h8, h9, h10⟩ := bring_9 (P i) (B i) (by omega) (by omega)
      have lX : X ≤ 1099511627776 := by omega
      have lY : Y ≤ 1099511627776 := by omega
      have lr : r9 ≤ 1099511627776 := by omega
      have lq : q9 ≤ 1099511627776 := by omega
      have hz : ((X : Int) == 0) = false := by simp; omega
      have hz2 : ¬ X = 0 := by omega
      have HBD2 : Hid (∀ j, j < n → 1 ≤ upd P i X j ∧ upd P i X j ≤ 64 ∧ 1 ≤ upd B i Y j ∧ upd B i Y j ≤ upd P i X j ∧ (j < i + 1 → upd P i X j ≤ 9)) := fun j hj => by
        have := HBD.out j hj
        unfold upd
        split
        · omega
        · refine ⟨this.1, this.2.1, this.2.2.1, this.2.2.2.1, fun hji => this.2.2.2.2 (by omega)⟩
      obtain ⟨w2, w2'⟩ := wr3 h2 lX
      obtain ⟨w4, w4'⟩ := wr3 h4 lY
      have w3 := (wr3 (x := (r9 : Int)) rfl lr).2
      have w3' := (wr3 (x := (r9 : Int)) rfl lr).1
      have w5 := (wr3 (x := (q9 : Int)) rfl lq).2
      have w5' := (wr3 (x := (q9 : Int)) rfl lq).1
      have w6 := (wr3 (x := (X : Int)) rfl lX).2
      have w6' := (wr3 (x := (X : Int)) rfl lX).1
      have w7 := (wr3 (x := (Y : Int)) rfl lY).2
      have w7' := (wr3 (x := (Y : Int)) rfl lY).1
      have HRS2 := Lib.hid (HRS.out.setP hlt X)
      obtain ⟨q0, q1, q2, q3⟩ := (HRS.out.setP hlt X).at hlt
      rw [upd_at] at q0
      have HRS3 := Lib.hid ((HRS.out.setP hlt X).drew.setB hlt Y)
      have HB3 := Lib.hid (((HB.out.setCell (p := ⟨g, i * 3, none⟩) hg (.int .i64 (X : Nat))).drew).setCell (p := ⟨g, i * 3 + 1, none⟩) hg (.int .i64 (Y : Nat)))
      clear lX lY lr lq b1 b2 b3 b4 b5 h5 h6 h7 h8 h9 h10 hg hrs HRO HBD HRS HB
      generalize P i = pi at *
      generalize B i = bi at *
      go_wp2_with fail
      generalize wr.setCell ⟨g, i * 3, none⟩ (.int .i64 (X : Nat)) = W2 at *
      have f0 : W2.drew.cell? ⟨g, i * 3, none⟩ = some (.int .i64 (X : Nat)) := q0
      have f1 : W2.drew.cell? ⟨g, i * 3 + 1, none⟩ = some (.int .i64 (bi : Nat)) := q1
      have f2 : W2.drew.frozen? ⟨g, i * 3 + 1, none⟩ = false := q3
      clear q0 q1 q2 q3 k0 k1 k2 k3
      refine wp_region_still_tail 16 mixed (by kernel_rfl) ?_
      simp only [List.take_succ_cons, List.take_zero, List.drop_succ_cons, List.drop_zero]
      change wpStill _ _ W2.drew _ _ _
      repeat still_step
      refine wpStill_nil ?_
      go_wp2_with fail
      go_roundw
      case rel => exact ⟨i + 1, _, _, by omega, by go_num, HBD2.out, fun _ => ⟨g, rfl, HG.out, HRS3.out⟩, HB3.out⟩
      case measure => simp [intOf]; omega
    · obtain rfl : i = n := by omega
      obtain ⟨hc1, hc2, hc3⟩ := HC.out
      have HSV := Lib.hid (HRO.out.sv hc1 hc2 hc3)
      have HPB : Hid (∀ j, j < i → 1 ≤ P j ∧ P j ≤ 64 ∧ 1 ≤ B j ∧ B j ≤ P j) := fun j hj => by have := HBD.out j hj; omega
      have HD : Hid (∀ j, j < i → P j ∣ 2520) := fun j hj => by have := HBD.out j hj; exact dvd_2520 _ (by omega) this.1
      have HTE := Lib.hid (te_made hn4 HPB.out)
      obtain ⟨t, r, ht, hr, htr⟩ : ∃ (t : Int) (r : Bool), teE i (fun j => (P j : Nat)) (fun j => (B j : Nat)) = t ∧ (∀ r2 : Bool, (Fits i P B → r2 = true) → (Over i P B 2520 → r2 = false) → r2 = r) ∧ ((t = 0 ∧ r = true) ∨ (t = 120 ∧ r = false)) := by
        rcases HTE.out with ⟨h1, h2⟩ | ⟨h1, h2⟩
        · exact ⟨0, true, h1, fun r2 h3 _ => h3 h2, Or.inl ⟨rfl, rfl⟩⟩
        · exact ⟨120, false, h1, fun r2 _ h3 => h3 (h2 2520 (by decide) HD.out), Or.inr ⟨rfl, rfl⟩⟩
      have HT := Lib.hid ht
      have HR := Lib.hid hr
      have HN4 := Lib.hid hn4
      clear hc1 hc2 hc3 HC HRO HBD HD HTE ht hr
      have HS0 := Lib.hid (Below.refl wr.heap.size wr)
      rcases htr with ⟨rfl, rfl⟩ | ⟨rfl, rfl⟩
      all_goals
        go_wp2_with fail
        go_region_held3 (fun w' => Below wr.heap.size wr w')
          (first | assumption | exact HS0.out | exact HS0.out.drew | exact Below.alloc (by assumption) (by assumption |> Below.size) _ | go_keep)
          (first | (go_at_call 9; refine (test_S HSV.out HT.out (by assumption)).mono ?_; rintro e w' ⟨rfl, hb, hq⟩)
                 | (go_at_call 14; refine (kept_S HSV.out HN4.out HPB.out HR.out (by assumption) (by first | exact ns_made (heap_alloc_new _ _) | exact NS.below (ns_made (heap_alloc_new _ _)) hb | exact NS.below (NS.drew (ns_made (heap_alloc_new _ _))) hb | exact NS.drew (ns_made (heap_alloc_new _ _)))).mono ?_; rintro e w' ⟨rfl, hq2⟩)
                 | (go_at_call 11; refine (works_S (by assumption)).mono ?_; rintro e w' ⟨rfl, hq3⟩))
        all_goals
          rename_i hHeld
          have HQ := Lib.hid (chn HB.out hq3)
          clear hHeld hq hq2 hq3 HS0
          go_wp2_with fail
          go_ret
          exact ⟨rfl, HQ.out⟩
end Go.Proofs.Ytlifkclgflfnlaa.Sh
