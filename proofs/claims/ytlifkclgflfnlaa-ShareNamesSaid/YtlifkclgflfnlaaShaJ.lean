/- ShareNames. -/
import Derived.Test.YtlifkclgflfnlaaShaG
namespace Go.Proofs.Ytlifkclgflfnlaa.Sh
open Go.RowKit Tk De Dl Go.Proofs.Ytlifkclgflfnlaa.Lo
set_option linter.unusedVariables false

theorem SV.cap {w : World} {a : Option Addr} {n cap m : Nat} {p b : Nat → Int} (h : SV w (.slice a n cap) m p b) : n ≤ cap := by
  obtain ⟨a', cap', e, h1, _⟩ := h
  obtain ⟨rfl, rfl, rfl⟩ : a = a' ∧ n = m ∧ cap = cap' := by simpa using e
  exact h1
theorem SV.cut {w : World} {a : Option Addr} {n cap m : Nat} {p b : Nat → Int} (h : SV w (.slice a n cap) m p b) {j : Nat} (hj : j < n) : ∃ g off, a = some ⟨g, off, none⟩ ∧ SV w (.slice (some ⟨g, off + j * 3, none⟩) 1 (cap - j)) 1 (fun k => p (j + k)) (fun k => b (j + k)) := by
  obtain ⟨a', cap', e, h1, h2, h3, h4⟩ := h
  obtain ⟨rfl, rfl, rfl⟩ : a = a' ∧ n = m ∧ cap = cap' := by simpa using e
  obtain ⟨g, off, rfl, hc⟩ := h4 (by omega)
  refine ⟨g, off, rfl, _, _, rfl, by omega, by omega, (fun h => by cases h), fun _ => ⟨g, off + j * 3, rfl, fun i hi => ?_⟩⟩
  obtain rfl : i = 0 := by omega
  rw [Nat.zero_mul, Nat.add_zero, Nat.add_zero]
  exact hc j hj
def badl : List Int := [0, 1, 1, 0, 2, 1, 1, 65, -1, 5]
theorem bad_te : ∀ i, i < 5 → teE 1 (fun k => tP badl (i + k)) (fun k => tB badl (i + k)) = 2 := by decide +kernel
def fivl : List Int := [1, 9, 1, 9, 1, 9, 1, 9, 1, 9]
theorem f1 : teE 5 (tP fivl) (tB fivl) = 2 := by decide +kernel
theorem f2 : teE 4 (tP fivl) (tB fivl) = 0 := by decide +kernel
def prml : List Int := [1, 64, 1, 63, 1, 61, 1, 59]
theorem f3 : suA 4 (tP prml) (tB prml) = 940913 ∧ suB 4 (tP prml) (tB prml) = 14511168 ∧ suE 4 (tP prml) (tB prml) = 0 := by decide +kernel
def full : List Int := [64, 64, 64, 64, 64, 64, 64, 64]
theorem f4 : suA 4 (tP full) (tB full) = 4 ∧ suB 4 (tP full) (tB full) = 1 ∧ suE 4 (tP full) (tB full) = 0 := by decide +kernel
theorem f5 : teE 3 (tP [1, 2, 1, 3, 1, 6]) (tB [1, 2, 1, 3, 1, 6]) = 0 := by decide +kernel
theorem f6 : teE 3 (tP [1, 2, 1, 3, 1, 5]) (tB [1, 2, 1, 3, 1, 5]) = 120 := by decide +kernel
theorem f7 (p b : Nat → Int) : teE 0 p b = 0 := rfl
theorem Sum_fit {w : World} {v : Value} {n : Nat} {p b : Nat → Int} (h : SV w v n p b) {x y : Int} (hx : suA n p b = x) (hy : suB n p b = y) (he : suE n p b = 0) : Calls Try.prog 7 #[v] w (ThreeB x y 0 w) := by
  have := Sum_any h
  rw [hx, hy, he] at this
  exact this
set_option maxRecDepth 100000 in
set_option maxHeartbeats 8000000 in
theorem names_law (w : World) : Calls Try.prog 6 #[] w (TrueB w) := by
  have HT := Lib.hid turn_any
  have HW := Lib.hid works_any
  go_enter Try.func6, Try.ntmps6
  go_wp2_with fail
  refine (HT.out w badl (by decide)).mono ?_
  rintro e w1 ⟨a1, c1, rfl, hs, hb⟩
  have B1 := Lib.hid hb
  have HS := Lib.hid hs
  obtain ⟨g, off, rfl, _⟩ := hs.cut (j := 0) (by decide)
  have hc1 := hs.cap
  clear hb hs
  rw [show badl.length / 2 = 5 from rfl] at HS ⊢
  have hc5 : 5 ≤ c1 := hc1
  clear hc1
  go_wp2_with fail
  go_loopw [2] (fun iv W => ∃ i : Nat, i ≤ 5 ∧ iv = .int .i64 i ∧ Hid (Below w1.heap.size w1 W)) (fun iv _ => 5 - (intOf iv).toNat)
  case atStart => exact ⟨0, Nat.zero_le _, rfl, Below.refl _ _⟩
  case round =>
    obtain ⟨i, hi, rfl, HB⟩ := hrel
    by_cases hlt : i < 5
    · have hd : decide ((i : Int) < 5) = true := by simp; omega
      obtain ⟨g', off', e', hcut⟩ := HS.out.cut hlt
      injection e' with e'
      injection e' with e1 e2 _
      subst e1; subst e2
      have HTT := Lib.hid (Test_fit (hcut.below HB.out) (bad_te i hlt))
      clear hcut
      have hc6 : i + 1 ≤ c1 := by omega
      have hc7 : (i : Int) + 1 ≤ c1 := by omega
      go_wp2_with fail
      refine HTT.out.mono ?_
      rintro e w2 ⟨rfl, hb⟩
      have HB2 := Lib.hid (chn HB.out hb)
      clear hb HTT HB
      go_wp2_with fail
      go_roundw
      case rel => exact ⟨i + 1, by omega, by go_num, HB2.out⟩
      case measure => simp [intOf]; omega
    · obtain rfl : i = 5 := by omega
      have B2 := Lib.hid (chn B1.out HB.out)
      obtain ⟨w2, rfl⟩ : ∃ w2, w2 = wr := ⟨_, rfl⟩
      rw [show ((5 : Nat) : Int) = 5 from rfl]
      clear HS B1 HB hc5
      go_wp2_with fail
      refine (HT.out w2 fivl (by decide)).mono ?_
      rintro e w3 ⟨a3, c3, rfl, hs, hb⟩
      have B3 := Lib.hid (chn B2.out hb)
      have HF := Lib.hid hs
      have hc1 := hs.cap
      rw [show fivl.length / 2 = 5 from rfl] at HF ⊢
      have hc5 : 5 ≤ c3 := hc1
      have hc4 : 4 ≤ c3 := by omega
      have hc4' : (4 : Int) ≤ c3 := by omega
      clear hs hb B2 hc1
      go_wp2_with fail
      refine (HT.out w3 prml (by decide)).mono ?_
      rintro e w4 ⟨a4, c4, rfl, hs, hb⟩
      have B4 := Lib.hid (chn B3.out hb)
      have F4 := Lib.hid (HF.out.below hb)
      have S4 := Lib.hid (Sum_fit hs f3.1 f3.2.1 f3.2.2)
      clear hs hb B3 HF
      go_wp2_with fail
      refine S4.out.mono ?_
      rintro e w5 ⟨rfl, hb⟩
      have B5 := Lib.hid (chn B4.out hb)
      have F5 := Lib.hid (F4.out.below hb)
      clear hb B4 F4 S4
      go_wp2_with fail
      refine (HW.out _).mono ?_
      rintro e w6 ⟨rfl, hb⟩
      have B6 := Lib.hid (chn B5.out hb)
      have F6 := Lib.hid (F5.out.below hb)
      have T6 := Lib.hid (Test_fit F6.out f1)
      clear hb B5 F5 HW
      go_wp2_with fail
      refine T6.out.mono ?_
      rintro e w7 ⟨rfl, hb⟩
      have B7 := Lib.hid (chn B6.out hb)
      have F7 := Lib.hid ((F6.out.below hb).take (j := 4) (by decide))
      have T7 := Lib.hid (Test_fit F7.out f2)
      clear hb B6 F6 T6
      go_wp2_with fail
      refine T7.out.mono ?_
      rintro e w8 ⟨rfl, hb⟩
      have B8 := Lib.hid (chn B7.out hb)
      clear hb B7 F7 T7
      go_wp2_with fail
      refine (HT.out w8 full (by decide)).mono ?_
      rintro e w9 ⟨a9, c9, rfl, hs, hb⟩
      have B9 := Lib.hid (chn B8.out hb)
      have S9 := Lib.hid (sums_yes hs f4.1 f4.2.1 f4.2.2)
      clear hs hb B8
      go_wp2_with fail
      refine S9.out.mono ?_
      rintro e w10 ⟨rfl, hb⟩
      have B10 := Lib.hid (chn B9.out hb)
      clear hb B9 S9
      go_wp2_with fail
      refine (HT.out w10 [1, 2, 1, 3, 1, 6] (by decide)).mono ?_
      rintro e w11 ⟨a11, c11, rfl, hs, hb⟩
      have B11 := Lib.hid (chn B10.out hb)
      have S11 := Lib.hid (Test_fit hs f5)
      clear hs hb B10
      go_wp2_with fail
      refine S11.out.mono ?_
      rintro e w12 ⟨rfl, hb⟩
      have B12 := Lib.hid (chn B11.out hb)
      clear hb B11 S11
      go_wp2_with fail
      refine (HT.out w12 [1, 2, 1, 3, 1, 5] (by decide)).mono ?_
      rintro e w13 ⟨a13, c13, rfl, hs, hb⟩
      have B13 := Lib.hid (chn B12.out hb)
      have S13 := Lib.hid (Test_fit hs f6)
      clear hs hb B12
      go_wp2_with fail
      refine S13.out.mono ?_
      rintro e w14 ⟨rfl, hb⟩
      have B14 := Lib.hid (chn B13.out hb)
      have S14 := Lib.hid (Test_fit (SV.nil w14 (fun _ => 0) (fun _ => 0)) (f7 _ _))
      clear hb B13 S13
      go_wp2_with fail
      refine S14.out.mono ?_
      rintro e w15 ⟨rfl, hb⟩
      have B15 := Lib.hid (chn B14.out hb)
      clear hb B14 S14
      go_wp2_with fail
      go_ret
      exact ⟨rfl, B15.out⟩
end Go.Proofs.Ytlifkclgflfnlaa.Sh
