/- ShareKeeps. -/
import Derived.Test.YtlifkclgflfnlaaShaG
namespace Go.Proofs.Ytlifkclgflfnlaa.Sh
open Go.RowKit Tk De Dl Go.Proofs.Ytlifkclgflfnlaa.Lo Go.Proofs.Ytlifkclgflfnlaa.Ed Go.Proofs.Ytlifkclgflfnlaa.Su
set_option linter.unusedVariables false

theorem un_dvd {B P : Nat → Nat} : ∀ {n i : Nat}, i < n → P i ∣ (un B P n).2
  | 0, _, h => by cases h
  | n + 1, i, h => by
    by_cases e : i = n
    · rw [e]; exact Nat.dvd_mul_left _ _
    · exact Nat.dvd_trans (un_dvd (B := B) (n := n) (by omega)) (Nat.dvd_mul_right _ _)
/-- servers that are such: they pass, or share more than 1 -/
theorem te_made {n : Nat} {P B : Nat → Nat} (hn : n ≤ 4) (h : ∀ i, i < n → 1 ≤ P i ∧ P i ≤ 64 ∧ 1 ≤ B i ∧ B i ≤ P i) :
    (teE n (fun i => (P i : Nat)) (fun i => (B i : Nat)) = 0 ∧ Fits n P B) ∨ (teE n (fun i => (P i : Nat)) (fun i => (B i : Nat)) = 120 ∧ ∀ M, 0 < M → (∀ i, i < n → P i ∣ M) → Over n P B M) := by
  have hm : mayS n (fun i => ((P i : Nat) : Int)) (fun i => ((B i : Nat) : Int)) = true := by
    unfold mayS
    rw [decide_eq_true hn, Bool.true_and]
    exact okS_iff.2 fun i hi => by have := h i hi; omega
  obtain ⟨_, _, _, h4⟩ := su_yes hm
  have e : suF n (fun i => ((P i : Nat) : Int)) (fun i => ((B i : Nat) : Int)) = sumF B P n := rfl
  rw [h4, e]
  have hP : ∀ i, i < n → 0 < P i := fun i hi => (h i hi).1
  by_cases hc : (sumF B P n).2 < (sumF B P n).1
  · rw [if_pos hc]
    refine Or.inr ⟨rfl, fun M hM hd => ⟨hd, ?_⟩⟩
    rcases Nat.lt_or_ge M (sm (fun i => B i * (M / P i)) n) with h1 | h1
    · exact h1
    · have := (sumF_le hM hP hd).2 h1
      omega
  · rw [if_neg hc]
    have hpos := un_pos (B := B) hP
    exact Or.inl ⟨rfl, _, hpos, fun i hi => un_dvd hi, (sumF_le hpos hP fun i hi => un_dvd hi).1 (by omega)⟩
set_option maxRecDepth 100000 in
set_option maxHeartbeats 8000000 in
theorem keeps_law {w : World} {v u : Value} {ps : List Pn} {xs : List Int} (h : PS w v ps) (hx : IS w u xs) : Calls Try.prog 4 #[v, u] w (TrueB w) := by
  have HS := Lib.hid (sv_of_ps h)
  obtain ⟨a, cap, rfl, _⟩ := h.slice
  obtain ⟨ax, cx, rfl, hx1, hx2⟩ := hx.slice
  have HX := Lib.hid hx
  have hmx : xs.length ≤ 9223372036854775807 := by unfold maxLen at hx2; omega
  generalize ps.length = n0 at *
  generalize sp ps = p at *
  generalize sb ps = b at *
  generalize xs.length = nx at *
  have HW := Lib.hid works_any
  obtain ⟨P, hP⟩ : ∃ P, P = mP p := ⟨_, rfl⟩
  obtain ⟨B, hB⟩ : ∃ B, B = mB p b := ⟨_, rfl⟩
  obtain ⟨n, hn⟩ : ∃ n, n = min n0 4 := ⟨_, rfl⟩
  have HBD : Hid (∀ i, i < n → 1 ≤ P i ∧ P i ≤ 64 ∧ 1 ≤ B i ∧ B i ≤ P i) := fun i _ => by rw [hP, hB]; have := m_bd p b i; omega
  have hn4 : n ≤ 4 := by omega
  have HMA := Lib.hid (fun W (q : Below w.heap.size w W) => made_any (HS.out.below q))
  unfold MadeP at HMA
  rw [← hn, ← hP, ← hB] at HMA
  have HTE := Lib.hid (te_made hn4 HBD.out)
  have hmk := run_make_row' (P := Try.prog) 29 3 (.int .i64 0) 8 Try.underlying29 infoIn rfl .i64 .i64 n (by omega) (by omega)
  clear h hx hx1 hx2 hn hP hB
  go_enter Try.func4, Try.ntmps4
  go_wp2_with fail
  refine (HW.out _).mono ?_
  rintro e w1 ⟨rfl, hb⟩
  have B1 := Lib.hid hb
  clear hb HW
  go_wp2_with fail
  refine (HMA.out _ B1.out).mono ?_
  rintro e w2 ⟨r, rfl, hsw, hb⟩
  have B2 := Lib.hid (chn B1.out hb)
  have HSV := Lib.hid hsw.sv
  obtain ⟨a2, c2, rfl, _⟩ := hsw.sv.slice
  clear hb B1 hsw HMA HS
  have HN := Lib.hid (ns_made (heap_alloc_new w2 (.cells (madeCells #[.int .i64 0] n) 3)))
  have B3 := Lib.hid ((Below.refl w2.heap.size w2).alloc (Nat.le_refl _) (.cells (madeCells #[.int .i64 0] n) 3))
  go_wp2_with fail
  clear hmk
  obtain ⟨g, hg⟩ : ∃ g, g = w2.heap.size := ⟨_, rfl⟩
  have HG := Lib.hid hg
  rw [← hg] at HN ⊢
  clear hg
  go_loopw [6] (fun iv W => ∃ (i : Nat) (x : Nat → Nat), i ≤ n ∧ i ≤ nx ∧ iv = .int .i64 i ∧ Hid (∀ j, j < n → x j ≤ 1000) ∧ Hid (NS W g n x) ∧ Hid (Below w2.heap.size w2 W)) (fun iv _ => n - (intOf iv).toNat)
  case atStart => exact ⟨0, _, Nat.zero_le _, Nat.zero_le _, rfl, fun _ _ => Nat.zero_le _, HN.out, B3.out⟩
  case round =>
    clear HN B3
    obtain ⟨i, x, hi, hix, rfl, HXB, HN, B3⟩ := hrel
    by_cases hlt : i < n ∧ i < nx
    · obtain ⟨hin, hinx⟩ := hlt
      have hI : (i : Int) < n := by omega
      have hI2 : (i : Int) < nx := by omega
      have hI0 : (0 : Int) ≤ i := by omega
      obtain ⟨bx, ox, rfl, cx0⟩ := (HX.out.below (chn B2.out B3.out)).at hinx
      obtain ⟨n0c, n0f⟩ := HN.out.at hin
      generalize xs.getD i 0 = y at *
      have HBr := Lib.hid (fun w => bring_q y 100 w (by decide) (by decide))
      have hr := bn_lt y (n := 100) (by decide)
      generalize bn y 100 = q at *
      have HXB2 : Hid (∀ j, j < n → upd x i q j ≤ 1000) := fun j hj => by unfold upd; split; omega; exact HXB.out j hj
      have HN2 := Lib.hid (HN.out.set hin q)
      have B4 := Lib.hid (B3.out.setCell (p := ⟨g, i, none⟩) (by rw [HG.out]; exact Nat.le_refl _) (.int .i64 (q : Nat)))
      clear hr HXB HN B3
      go_wp2_with fail
      refine (HBr.out _).mono ?_
      rintro e w5 ⟨rfl, rfl⟩
      go_wp2_with fail
      go_roundw
      case rel => exact ⟨i + 1, _, by omega, by omega, by go_num, HXB2.out, HN2.out, B4.out⟩
      case measure => simp [intOf]; omega
    · have HV := Lib.hid (HN.out.nv (by unfold maxLen; omega))
      have HSV2 := Lib.hid (HSV.out.below B3.out)
      have HT := Lib.hid (Test_any HSV2.out)
      have B5 := Lib.hid (chn B2.out B3.out)
      have HKP := Lib.hid (fun W (q : Below wr.heap.size wr W) => kept_any (HSV2.out.below q) hn4 HBD.out (HV.out.below q) HXB.out 600 (by decide))
      clear HN B3 B2 HSV HXB HX
      have key : Hid ((i : Int) < n → (i : Int) < nx → False) := fun h1 h2 => hlt ⟨by omega, by omega⟩
      clear hlt
      by_cases h1 : i < n
      · have h2 : ¬ i < nx := fun h2 => key.out (by omega) (by omega)
        have d1 : decide ((i : Int) < n) = true := by simp; omega
        have d2 : decide ((i : Int) < nx) = false := by simp; omega
        go_wp2_with fail
        refine HT.out.mono ?_
        rintro e w6 ⟨rfl, hb⟩
        have B6 := Lib.hid (chn B5.out hb)
        have HB6 := Lib.hid hb
        clear hb HT B5
        rcases HTE.out with ⟨ht, hf⟩ | ⟨ht, _⟩
        · rw [ht]
          have HF := Lib.hid hf
          clear ht hf HTE
          have HKQ := Lib.hid (HKP.out _ HB6.out)
          clear HKP HB6
          go_wp2_with fail
          refine HKQ.out.mono ?_
          rintro e w7 ⟨r, rfl, hb, hr, _⟩
          have hr2 := hr HF.out
          subst hr2
          have B7 := Lib.hid (chn B6.out hb)
          clear hb hr B6
          go_wp2_with fail
          go_ret
          exact ⟨rfl, B7.out⟩
        · rw [ht]
          clear ht HTE HKP
          go_wp2_with fail
          go_ret
          exact ⟨rfl, B6.out⟩
      · have d1 : decide ((i : Int) < n) = false := by simp; omega
        go_wp2_with fail
        refine HT.out.mono ?_
        rintro e w6 ⟨rfl, hb⟩
        have B6 := Lib.hid (chn B5.out hb)
        have HB6 := Lib.hid hb
        clear hb HT B5
        rcases HTE.out with ⟨ht, hf⟩ | ⟨ht, _⟩
        · rw [ht]
          have HF := Lib.hid hf
          clear ht hf HTE
          have HKQ := Lib.hid (HKP.out _ HB6.out)
          clear HKP HB6
          go_wp2_with fail
          refine HKQ.out.mono ?_
          rintro e w7 ⟨r, rfl, hb, hr, _⟩
          have hr2 := hr HF.out
          subst hr2
          have B7 := Lib.hid (chn B6.out hb)
          clear hb hr B6
          go_wp2_with fail
          go_ret
          exact ⟨rfl, B7.out⟩
        · rw [ht]
          clear ht HTE HKP
          go_wp2_with fail
          go_ret
          exact ⟨rfl, B6.out⟩
end Go.Proofs.Ytlifkclgflfnlaa.Sh
