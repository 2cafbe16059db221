/- TurnKeeps. -/
import Derived.Test.YtfjeoefnpcgnnaaTurV
import Derived.Test.YtfjeoefnpcgnnaaTurK
import Derived.Test.YtfjeoefnpcgnnaaShaS
namespace Go.Proofs.Ytfjeoefnpcgnnaa.Sh
open Go.RowKit Tk De Dl Go.Proofs.Ytfjeoefnpcgnnaa.Lo Go.Proofs.Ytfjeoefnpcgnnaa.Ed Go.Proofs.Ytfjeoefnpcgnnaa.Su
set_option linter.unusedVariables false
set_option maxRecDepth 100000

theorem un_dvd {B P : Nat → Nat} : ∀ {n i : Nat}, i < n → P i ∣ (un B P n).2
  | 0, _, h => by cases h
  | n + 1, i, h => by
    by_cases e : i = n
    · rw [e]; exact Nat.dvd_mul_left _ _
    · exact Nat.dvd_trans (un_dvd (B := B) (n := n) (by omega)) (Nat.dvd_mul_right _ _)
/-- servers that are such: they pass, or share more than 1 -/
theorem te_made {n : Nat} {P B : Nat → Nat} (hn : n ≤ 4) (h : ∀ i, i < n → 1 ≤ P i ∧ P i ≤ 64 ∧ 1 ≤ B i ∧ B i ≤ P i) :
    (teE n (fun i => (P i : Nat)) (fun i => (B i : Nat)) = 0 ∧ Fits n P B) ∨ (teE n (fun i => (P i : Nat)) (fun i => (B i : Nat)) = 120 ∧ ∀ M, 0 < M → (∀ i, i < n → P i ∣ M) → Over n P B M) := by
  have hm : mayS n (fun i => ((P i : Nat) : Int)) (fun i => ((B i : Nat) : Int)) = true := by
    unfold mayS
    rw [decide_eq_true hn, Bool.true_and]
    exact okS_iff.2 fun i hi => by have := h i hi; omega
  obtain ⟨_, _, _, h4⟩ := su_yes hm
  have e : suF n (fun i => ((P i : Nat) : Int)) (fun i => ((B i : Nat) : Int)) = sumF B P n := rfl
  rw [h4, e]
  have hP : ∀ i, i < n → 0 < P i := fun i hi => (h i hi).1
  by_cases hc : (sumF B P n).2 < (sumF B P n).1
  · rw [if_pos hc]
    refine Or.inr ⟨rfl, fun M hM hd => ⟨hd, ?_⟩⟩
    rcases Nat.lt_or_ge M (sm (fun i => B i * (M / P i)) n) with h1 | h1
    · exact h1
    · have := (sumF_le hM hP hd).2 h1
      omega
  · rw [if_neg hc]
    have hpos := un_pos (B := B) hP
    exact Or.inl ⟨rfl, _, hpos, fun i hi => un_dvd hi, (sumF_le hpos hP fun i hi => un_dvd hi).1 (by omega)⟩
end Go.Proofs.Ytfjeoefnpcgnnaa.Sh
namespace Go.Proofs.Ytfjeoefnpcgnnaa.Pw
open Go.RowKit Go.Sort Pu
set_option linter.unusedVariables false

theorem ticks_at (m : Nat) (P B b : Nat → Nat) {N t : Nat} (h : t < N) : (ticks m P B b N).getD t 0 = Tu.pl m P B b t := by
  unfold ticks
  rw [List.getD_eq_getElem?_getD, List.getElem?_map, List.getElem?_range h]; rfl
theorem cnt_le (f : Nat → Int) (i a : Nat) : ∀ s, Tu.cnt f i a s ≤ s
  | 0 => Nat.le_refl _
  | s + 1 => by have := cnt_le f i a s; show Tu.cnt f i a s + _ ≤ _; split <;> omega
set_option maxHeartbeats 40000000 in
theorem keeps_law {w : World} {v u : Value} {m0 : Nat} {p q : Nat → Int} {xs : List Int} (h : SV w v m0 p q) (hu : IS w u xs) : Calls Try.prog 5 #[v, u] w (VB (.bool true) w) := by
  have HV := Lib.hid h
  have HU := Lib.hid hu
  obtain ⟨a, cap, rfl, hn1, hn2⟩ := h.slice
  obtain ⟨a2, cap2, rfl, hn3, hn4⟩ := hu.slice
  have HW := Lib.hid works_any
  have HMA := Lib.hid (fun w' (hb : Below w.heap.size w w') => made_any (HV.out.below hb))
  obtain ⟨P, hP⟩ : ∃ P, P = mP p := ⟨_, rfl⟩
  obtain ⟨B, hB⟩ : ∃ B, B = mB p q := ⟨_, rfl⟩
  obtain ⟨m, hm⟩ : ∃ m, m = min m0 4 := ⟨_, rfl⟩
  have hm4 : m ≤ 4 := by omega
  have HBD : Hid (∀ i, i < m → 1 ≤ P i ∧ P i ≤ 64 ∧ 1 ≤ B i ∧ B i ≤ P i) := fun i _ => by rw [hP, hB]; have := m_bd p q i; omega
  have HP2 : Hid (∀ i, P i ≤ 20) := fun i => by rw [hP]; exact (m_bd p q i).2.1
  have HTE := Lib.hid (Sh.te_made hm4 HBD.out)
  unfold MadeP at HMA
  rw [← hm, ← hP, ← hB] at HMA
  clear h hu hn1 hn2 hn3 hn4 hP hB hm
  go_enter Try.func5, Try.ntmps5
  go_wp2_with fail
  refine (HW.out _).mono ?_
  rintro E w1 ⟨rfl, hb⟩
  have B1 := Lib.hid hb
  clear hb HW
  go_wp2_with fail
  refine (HMA.out _ B1.out).mono ?_
  rintro E w2 ⟨r, rfl, hsw, hb⟩
  have B2 := Lib.hid (chnB B1.out hb)
  have S2 := Lib.hid hsw.sv
  obtain ⟨a2', c2, rfl, _, _⟩ := hsw.sv.slice
  clear hb B1 hsw HMA
  have HT := Lib.hid (Sh.Test_any (w := w2) (v := .slice a2' m c2) (n := m) (p := fun i => (P i : Nat)) (b := fun i => (B i : Nat)) S2.out)
  rcases HTE.out with ⟨ht, HF⟩ | ⟨ht, _⟩
  · rw [ht] at HT
    have HFT := Lib.hid HF
    clear ht HF HTE
    go_wp2_with fail
    refine HT.out.mono ?_
    rintro E w3 ⟨rfl, hb⟩
    have S3 := Lib.hid (S2.out.below hb)
    have HBE := Lib.hid (begun_any S3.out (HU.out.below (chnB B2.out hb)) hm4)
    have B3 := Lib.hid (chnB B2.out hb)
    clear hb S2 B2 HT HU
    go_wp2_with fail
    refine HBE.out.mono ?_
    rintro E w4 ⟨r, j, rfl, hi, hb⟩
    have I4 := Lib.hid hi
    have S4 := Lib.hid (S3.out.below hb)
    have B4 := Lib.hid (chnB B3.out hb)
    have HBL := Lib.hid (bg_len xs m j)
    have HBR := Lib.hid (bg_range xs m j)
    obtain ⟨ba, bc, rfl, _, _⟩ := hi.slice
    rw [HBL.out] at I4 ⊢
    generalize bg xs m j = bs at *
    clear hi hb S3 B3 HBE
    have hE : plE m (fun i => (P i : Nat)) (fun i => (B i : Nat)) bs 500 = 0 := plE_ok (by omega) HBL.out (fun i hi => by
      obtain ⟨q1, q2, q3, q4⟩ := HBD.out i hi
      obtain ⟨r1, r2⟩ := HBR.out i
      exact ⟨⟨⟨by omega, by omega⟩, by omega, by omega⟩, r1, by omega⟩)
    obtain ⟨b, hbb⟩ : ∃ b : Nat → Nat, b = fun i => (bs.getD i 0).toNat := ⟨_, rfl⟩
    have HBI : Hid (∀ i, bs.getD i 0 = (b i : Nat) ∧ b i < 50) := fun i => by have := HBR.out i; rw [hbb]; refine ⟨(Int.toNat_of_nonneg this.1).symm, ?_⟩; show (bs.getD i 0).toNat < 50; omega
    have HPL := Lib.hid (plan_ok S4.out I4.out hE)
    have etk : tk m (fun i => (P i : Nat)) (fun i => (B i : Nat)) bs 500 = ticks m P B b 500 := by rw [hbb]; rfl
    unfold PlanI at HPL
    rw [etk] at HPL
    have HKE : Hid (∀ i a, i < m → Tu.rel (P i) (b i) a → Tu.cnt (Tu.pl m P B b) i a (P i) = B i) := fun i a hi hr => by
      obtain ⟨M, hM, hd, hs⟩ := HFT.out
      exact Tu.keeps HBD.out hm4 hM hd hs hi hr
    clear hE etk hbb HFT
    go_wp2_with fail
    refine HPL.out.mono ?_
    rintro E w5 ⟨r, rfl, hi, hb⟩
    have I5 := Lib.hid (I4.out.below hb)
    have S5 := Lib.hid (S4.out.below hb)
    have B5 := Lib.hid (chnB B4.out hb)
    have A5 := Lib.hid hi
    have HL := Lib.hid (ticks_len m P B b 500)
    obtain ⟨pa, pc, rfl, _, _⟩ := hi.slice
    rw [HL.out] at A5 ⊢
    clear hi hb I4 S4 B4 HPL
    go_wp2_with fail
    go_loopw [8] (fun iv wr => ∃ i : Nat, i ≤ m ∧ iv = .int .i64 i ∧ w5 = wr) (fun iv _ => m - (intOf iv).toNat)
    case atStart => exact ⟨0, Nat.zero_le _, rfl, rfl⟩
    case round =>
      obtain ⟨i, him, rfl, rfl⟩ := hrel
      by_cases hi : i < m
      · obtain ⟨gb, ob, rfl, e0⟩ := I5.out.at hi
        rw [(HBI.out i).1] at e0
        obtain ⟨gs, os, ta, tn, tc, rfl, l0, l1, _⟩ := S5.out.at hi
        have hI : (i : Int) < (m : Int) := by omega
        have hI0 : (0 : Int) ≤ i := by omega
        obtain ⟨hp1, hp2, hp3, hp4⟩ := HBD.out i hi
        have hp20 := HP2.out i
        have hb50 := (HBI.out i).2
        have HKi := Lib.hid (fun a hr => HKE.out i a hi hr)
        have HR0 := Lib.hid (Tu.rel_self (P i) (b i))
        have HSH := Lib.hid (fun a (hr : Tu.rel (P i) (b i) a) => (show Tu.rel (P i) (b i) (a + P i) from ⟨by have := hr.1; omega, by rw [show a + P i - b i = (a - b i) + P i by have := hr.1; omega, Nat.add_mod_right]; exact hr.2⟩))
        have HPLT : Hid (∀ t, t < 500 → ∃ g o, pa = some ⟨g, o, none⟩ ∧ w5.cell? ⟨g, o + t, none⟩ = some (.int .i64 (Tu.pl m P B b t))) := fun t ht => by
          obtain ⟨g, o, e, c⟩ := A5.out.at ht
          rw [ticks_at m P B b ht] at c
          exact ⟨g, o, e, c⟩
        have HWB := Lib.hid B5.out
        generalize hPi : P i = pi at *
        generalize hBi : B i = qi at *
        generalize hbi : b i = bi at *
        clear hPi hBi hbi
        go_wp2_with fail
        go_loopw [9] (fun av wr2 => ∃ a : Nat, a ≤ 600 ∧ av = .int .i64 a ∧ w5 = wr2 ∧ Hid (Tu.rel pi bi a)) (fun av _ => 600 - (intOf av).toNat)
        case atStart => exact ⟨bi, by omega, rfl, rfl, HR0.out⟩
        case round =>
          obtain ⟨a, ha6, rfl, rfl, HR⟩ := hrel
          by_cases ha : a + pi ≤ 500
          · have hd : decide ((a : Int) + (pi : Int) ≤ 500) = true := by simp; omega
            go_wp2_with fail
            go_loopw [10, 11] (fun nv tv wr3 => ∃ s : Nat, s ≤ pi ∧ nv = .int .i64 (Tu.cnt (Tu.pl m P B b) i a s : Nat) ∧ tv = .int .i64 ((a + s : Nat) : Int) ∧ w5 = wr3) (fun _ tv _ => 1200 - (intOf tv).toNat)
            case atStart => exact ⟨0, Nat.zero_le _, rfl, rfl, rfl⟩
            case round =>
              obtain ⟨s, hs, rfl, rfl, rfl⟩ := hrel
              have hcnt : Tu.cnt (Tu.pl m P B b) i a s ≤ s := cnt_le _ _ _ _
              have HCS := Lib.hid (show Tu.cnt (Tu.pl m P B b) i a (s + 1) = Tu.cnt (Tu.pl m P B b) i a s + if Tu.pl m P B b (a + s) = i then 1 else 0 from rfl)
              by_cases hlt : s < pi
              · obtain ⟨gp, op, rfl, cp⟩ := HPLT.out (a + s) (by omega)
                have d1 : decide (((a + s : Nat) : Int) < (a : Int) + (pi : Int)) = true := by simp; omega
                have hI5 : ((a + s : Nat) : Int) < 500 := by omega
                have hI6 : (0 : Int) ≤ ((a + s : Nat) : Int) := by omega
                have HTS : Hid (((a + s : Nat) : Int) + 1 = ((a + (s + 1) : Nat) : Int)) := by unfold Hid; omega
                by_cases he : Tu.pl m P B b (a + s) = i
                · have d2 : (Tu.pl m P B b (a + s) == (i : Int)) = true := by simpa using he
                  have HC2 : Hid (((Tu.cnt (Tu.pl m P B b) i a s : Nat) : Int) + 1 = ((Tu.cnt (Tu.pl m P B b) i a (s + 1) : Nat) : Int)) := by have := HCS.out; rw [if_pos he] at this; unfold Hid; omega
                  clear he HCS
                  generalize Tu.cnt (Tu.pl m P B b) i a s = c0 at *
                  generalize Tu.pl m P B b (a + s) = z at *
                  generalize hts : a + s = ts at *
                  clear hts
                  go_wp2_with fail
                  go_roundw
                  case rel => exact ⟨s + 1, by omega, by rw [HC2.out], by rw [HTS.out], by first | rfl | trivial⟩
                  case measure => simp [intOf]; omega
                · have d2 : (Tu.pl m P B b (a + s) == (i : Int)) = false := by simpa using he
                  have HC2 : Hid (Tu.cnt (Tu.pl m P B b) i a s = Tu.cnt (Tu.pl m P B b) i a (s + 1)) := by have := HCS.out; rw [if_neg he] at this; unfold Hid; omega
                  clear he HCS
                  generalize Tu.cnt (Tu.pl m P B b) i a s = c0 at *
                  generalize Tu.pl m P B b (a + s) = z at *
                  generalize hts : a + s = ts at *
                  clear hts
                  go_wp2_with fail
                  go_roundw
                  case rel => exact ⟨s + 1, by omega, by rw [HC2.out], by rw [HTS.out], by first | rfl | trivial⟩
                  case measure => simp [intOf]; omega
              · obtain rfl : s = pi := by omega
                have d1 : decide (((a + s : Nat) : Int) < (a : Int) + (s : Int)) = false := by simp
                have HK1 := Lib.hid (HKi.out a HR.out)
                have hne : ((qi : Int) != (qi : Int)) = false := by simp
                rw [HK1.out]
                have HSA := Lib.hid (HSH.out a HR.out)
                have HT1 : Hid ((a : Int) + (s : Int) = ((a + s : Nat) : Int)) := by unfold Hid; omega
                clear HCS hcnt
                go_wp2_with fail
                go_roundw
                case rel => exact ⟨a + s, by omega, by rw [HT1.out], by first | rfl | trivial, HSA.out⟩
                case measure => simp [intOf]; omega
          · have hd : decide ((a : Int) + (pi : Int) ≤ 500) = false := by simp; omega
            go_wp2_with fail
            go_roundw
            case rel => exact ⟨i + 1, by omega, by go_num, by first | rfl | trivial⟩
            case measure => simp [intOf]; omega
      · obtain rfl : i = m := by omega
        have HB := Lib.hid B5.out
        go_wp2_with fail
        go_ret
        exact ⟨rfl, HB.out⟩
  · rw [ht] at HT
    clear ht HTE
    go_wp2_with fail
    refine HT.out.mono ?_
    rintro E w3 ⟨rfl, hb⟩
    have B3 := Lib.hid (chnB B2.out hb)
    clear hb
    go_wp2_with fail
    go_ret
    exact ⟨rfl, B3.out⟩
end Go.Proofs.Ytfjeoefnpcgnnaa.Pw
