/- DemandMore. -/
import Derived.Test.YtdlhnkjghiphoaaDemT
namespace Go.Proofs.Ytdlhnkjghiphoaa
open Go.RowKit Tk De
set_option linter.unusedVariables false

theorem dem_mono (P D J : Nat → Nat) {t u : Nat} (h : t ≤ u) : ∀ n, dem P D J t n ≤ dem P D J u n
  | 0 => Nat.le_refl _
  | n + 1 => by
    unfold dem
    exact Nat.add_le_add (dem_mono P D J h n) (Nat.mul_le_mul_right _ (jobs_mono h))
theorem dem_period {P D J : Nat → Nat} {t L : Nat} : ∀ {n : Nat}, (∀ i, i < n → 0 < P i ∧ D i ≤ t ∧ L % P i = 0) → dem P D J (t + L) n = dem P D J t n + use P J L n
  | 0, _ => rfl
  | n + 1, h => by
    have ih := dem_period (J := J) (n := n) (fun i hi => h i (by omega))
    obtain ⟨h1, h2, h3⟩ := h n (by omega)
    have hq : L = L / P n * P n := by
      have := Nat.div_add_mod L (P n)
      rw [h3, Nat.add_zero, Nat.mul_comm] at this
      exact this.symm
    have hj := jobs_period (D := D n) (t := t) h1 h2 (L / P n)
    rw [← hq] at hj
    unfold dem use
    rw [ih, hj, Nat.add_mul]
    omega
theorem fs_zero (n : Nat) : (fs (fun _ => 0) n).map (Value.int .i64) = List.replicate n (Value.int .i64 0) := by
  unfold fs
  rw [List.map_map]
  apply List.ext_getElem?
  intro i
  rw [List.getElem?_map, List.getElem?_replicate]
  by_cases h : i < n
  · rw [List.getElem?_range h, if_pos h]; rfl
  · rw [List.getElem?_eq_none (by simpa using h), if_neg h]; rfl
theorem fs_at {F : Nat → Nat} {n i : Nat} (h : i < n) : (fs F n).getD i 0 = (F i : Int) := by simp [fs, List.getD, h]
theorem more_goods (z : Nat → Nat → Int) {n : Nat} (h : n ≤ 4) {F : Nat → Nat} (hF : ∀ i, i < n → F i ≤ 4096) : Goods n (mz z) (fs F n) := by
  refine ⟨mz_good z h, fs_len F n, fun i hi => ?_⟩
  rw [asks, fs_at hi]
  have e2 : mz z i 2 = (mB z i : Int) := rfl
  have := mz_bd z i
  have := hF i hi
  rw [e2]
  omega
/-- zeros, made now -/
theorem zeros_nv {w w' : World} {n : Nat} (hown : w'.ownsRow w.heap.size 3 1 (.slice (some ⟨w.heap.size, 0, none⟩) n n) n (madeCells (Value.int .i64 0).cells (n * 1)).toList) : NV w' w.heap.size (.slice (some ⟨w.heap.size, 0, none⟩) n n) n (fun _ => 0) := by
  obtain ⟨hg, _⟩ := own_full hown
  refine ⟨w.heap.size, rfl, Nat.le_refl _, ?_⟩
  rw [hg, Nat.mul_one, fs_zero]
  have := FN.start (fun _ => 0) n
  unfold FN at this
  have e : madeCells (Value.int .i64 0).cells n = madeCells #[Value.int .i64 0] n := rfl
  rw [e, this]
  simp
/-- what the calls answer -/
structure MoreA (z : Nat → Nat → Int) (m Q T L d1 d2 d3 us : Nat) : Prop where
  hy : hyR m (mz z) (Q : Nat) = (((L : Nat) : Int), 0)
  o1 : ofR m (mz z) (fs (fun _ => 0) m) (T : Nat) = (((d1 : Nat) : Int), 0)
  o2 : ofR m (mz z) (fs (fun _ => 0) m) ((T + L : Nat) : Int) = (((d2 : Nat) : Int), 0)
  o3 : ofR m (mz z) (fs (fun _ => 0) m) ((T + 1 : Nat) : Int) = (((d3 : Nat) : Int), 0)
  u : useR m (mz z) (fs (fun _ => 0) m) (L : Nat) = (((us : Nat) : Int), 0)
  eq : d1 + us = d2
  le : d1 ≤ d3
  b1 : d1 ≤ 17448304640
  b2 : us ≤ 17448304640
  bL : L ≤ 4096
theorem more_plain (z : Nat → Nat → Int) {m Q T : Nat} (hm4 : m ≤ 4) (hQ : 0 < Q) (hQ2 : Q ≤ 64) (hT : 64 ≤ T) (hT2 : T ≤ 10000) :
    hyR m (mz z) (Q : Nat) = (0, 5) ∨ ∃ L d1 d2 d3 us, MoreA z m Q T L d1 d2 d3 us := by
  have hL0 := (mz_good z hm4).hyp_pos hQ hQ2
  have hR := hyR_yes (mz_good z hm4).ok (inn_iff.2 (by omega) : inn 1 64 (Q : Int) = true)
  have hdv := (hypL_dvd (n := m) (z := mz z) (p := Q)).1 (Nat.dvd_refl _)
  have hg := more_goods z hm4 (F := fun _ => 0) (fun _ _ => Nat.zero_le _)
  generalize hypL m (mz z) Q = L at *
  by_cases hL : L ≤ 4096
  · rw [if_pos hL] at hR
    have hall : ∀ i, i < m → 0 < per (mz z) i ∧ dea (mz z) i ≤ T ∧ L % per (mz z) i = 0 := fun i hi => by
      have h1 := (mz_good z hm4).at' i hi
      have h2 := Nat.mod_eq_zero_of_dvd (hdv.2 i hi)
      exact ⟨h1.2.2.1, by omega, h2⟩
    have hd1 := hg.dem_le (t := T) (by omega) (Nat.le_refl m)
    have hd2 := hg.use_le (T := L) (by omega) (Nat.le_refl m)
    have hmm : m * 4362076160 ≤ 17448304640 := by omega
    exact Or.inr ⟨L, _, _, _, _, hR, ofR_ok hg.ok (by omega), ofR_ok hg.ok (by omega), ofR_ok hg.ok (by omega), useR_ok hg.ok hL0 (by omega) (dvs_iff.2 (fun i hi => (hall i hi).2.2)), (dem_period hall).symm, dem_mono _ _ _ (by omega) m, Nat.le_trans hd1 hmm, Nat.le_trans hd2 hmm, hL⟩
  · rw [if_neg hL] at hR
    exact Or.inl hR
set_option maxRecDepth 100000 in
set_option maxHeartbeats 2000000 in
theorem more_law {w : World} {v : Value} {n : Nat} {z : Nat → Nat → Int} (h : TK w v n z) (p t : Int) :
    Calls Try.prog 6 #[v, .int .i64 p, .int .i64 t] w (TrueB w) := by
  obtain ⟨i0, hi, hz0, hz1, hz2⟩ := info_parts infoIn
  have HI := Lib.hid (⟨hi, hz0, hz1, hz2⟩ : _ ∧ _ ∧ _ ∧ _)
  have HM := Lib.hid (made_any h)
  have hq := bn_lt p (show 0 < 64 by decide)
  have hu := bn_lt t (show 0 < 9000 by decide)
  have HP := Lib.hid (fun w => bring_bn p 64 w (by decide) (by decide))
  have HT := Lib.hid (fun w => bring_bn t 9000 w (by decide) (by decide))
  clear h hi hz0 hz1 hz2
  generalize bn p 64 = q at *
  generalize bn t 9000 = u at *
  obtain ⟨Q, hQ⟩ : ∃ Q, Q = 1 + q := ⟨_, rfl⟩
  obtain ⟨T, hT⟩ : ∃ T, T = 64 + u := ⟨_, rfl⟩
  have HPl := Lib.hid (fun m hm4 => more_plain z (m := m) (Q := Q) (T := T) hm4 (by omega) (by omega) (by omega) (by omega))
  have hwq : wrap64 (1 + (q : Int)) = Q := by rw [show (1 : Int) + q = Q by omega]; exact wrap_nat (by omega)
  have hwu : wrap64 (64 + (u : Int)) = T := by rw [show (64 : Int) + u = T by omega]; exact wrap_nat (by omega)
  have hT2 : T ≤ 10000 := by omega
  clear hQ hT hq hu
  go_enter Try.func6, Try.ntmps6
  go_wp2_with fail
  refine HM.out.mono ?_
  rintro e w1 ⟨r, m, rfl, hm4, ht, hb⟩
  have HT1 := Lib.hid ht; have HB1 := Lib.hid hb
  obtain ⟨a, cap, rfl, _, _⟩ := ht.slice
  have hPl := HPl.out m hm4
  have Hm1 : Hid (i0.bytes * m ≤ 281474976710656) := by rw [Hid, HI.out.2.2.2]; omega
  have Hm2 : Hid (m ≤ maxLen) := by unfold Hid maxLen; omega
  clear hb ht HM HPl
  go_wp2_with (at_make; refine wpList_make_full _ rfl _ _ 23 rfl w1.heap.size 3 i0 _ 1 Try.underlying23 HI.out.1 HI.out.2.1 HI.out.2.2.1 .i64 .i64 _ _ m rfl rfl rfl rfl Hm1.out Hm2.out (Nat.le_refl _) ?_; intro V hown hgrow)
  have hbV := (Below.refl w1.heap.size w1).grown hgrow (Nat.le_refl _) (fun k hk => by cases hk)
  have HX := Lib.hid ((zeros_nv hown).is hm4)
  have HTV := Lib.hid (HT1.out.below hbV)
  have HBV := Lib.hid (chn HB1.out hbV)
  clear hown hgrow hbV HT1 HB1 HI Hm1 Hm2
  generalize w1.heap.size = g at *
  rcases hPl with h5 | ⟨L, d1, d2, d3, us, hA⟩
  · have HHy := Lib.hid (hyper_fit h5 HTV.out)
    clear h5
    go_wp2_with fail
    refine (HP.out _).mono ?_
    rintro e w2 ⟨rfl, rfl⟩
    go_wp2_with fail
    refine HHy.out.mono ?_
    rintro e w3 ⟨rfl, hb⟩
    have HB3 := Lib.hid (chn HBV.out hb)
    clear hb HHy
    go_wp2_with fail
    refine (works_any _).mono ?_
    rintro e w4 ⟨rfl, hb⟩
    have HB4 := Lib.hid (chn HB3.out hb)
    clear hb
    go_wp2_with fail
    go_ret
    exact ⟨rfl, HB4.out⟩
  · have HHy := Lib.hid (hyper_fit hA.hy HTV.out)
    have HA := Lib.hid hA
    have hwl : wrap64 ((T : Int) + L) = ((T + L : Nat) : Int) := by
      have := hA.bL
      rw [show (T : Int) + L = ((T + L : Nat) : Int) from (Int.natCast_add T L).symm]
      exact wrap_nat (by omega)
    have hw1 : wrap64 ((T : Int) + 1) = ((T + 1 : Nat) : Int) := by
      rw [show (T : Int) + 1 = ((T + 1 : Nat) : Int) from (Int.natCast_add T 1).symm]
      exact wrap_nat (by omega)
    have hws : wrap64 ((d1 : Int) + us) = d2 := by
      have h1 := hA.b1; have h2 := hA.b2; have h3 := hA.eq
      clear hw1 hwl hwq hwu
      unfold wrap64
      omega
    have hcmp : decide (d1 ≤ d3) = true := decide_eq_true hA.le
    clear hA hT2
    go_wp2_with fail
    refine (HP.out _).mono ?_
    rintro e w2 ⟨rfl, rfl⟩
    go_wp2_with fail
    refine HHy.out.mono ?_
    rintro e w3 ⟨rfl, hb⟩
    have HB3 := Lib.hid (chn HBV.out hb)
    have HT3 := Lib.hid (HTV.out.below hb); have HX3 := Lib.hid (HX.out.below hb)
    clear hb HHy HBV HTV HX
    go_wp2_with fail
    refine (HT.out _).mono ?_
    rintro e w4 ⟨rfl, rfl⟩
    go_wp2_with fail
    refine (of_fit HA.out.o1 HT3.out HX3.out).mono ?_
    rintro e w4 ⟨rfl, hb⟩
    have HB4 := Lib.hid (chn HB3.out hb)
    have HT4 := Lib.hid (HT3.out.below hb); have HX4 := Lib.hid (HX3.out.below hb)
    clear hb HB3 HT3 HX3
    go_wp2_with fail
    refine (of_fit HA.out.o2 HT4.out HX4.out).mono ?_
    rintro e w5 ⟨rfl, hb⟩
    have HB5 := Lib.hid (chn HB4.out hb)
    have HT5 := Lib.hid (HT4.out.below hb); have HX5 := Lib.hid (HX4.out.below hb)
    clear hb HB4 HT4 HX4
    go_wp2_with fail
    refine (of_fit HA.out.o3 HT5.out HX5.out).mono ?_
    rintro e w6 ⟨rfl, hb⟩
    have HB6 := Lib.hid (chn HB5.out hb)
    have HT6 := Lib.hid (HT5.out.below hb); have HX6 := Lib.hid (HX5.out.below hb)
    clear hb HB5 HT5 HX5
    go_wp2_with fail
    refine (use_fit HA.out.u HT6.out HX6.out).mono ?_
    rintro e w7 ⟨rfl, hb⟩
    have HB7 := Lib.hid (chn HB6.out hb)
    clear hb HB6 HT6 HX6
    go_wp2_with fail
    refine (works_any _).mono ?_
    rintro e w8 ⟨rfl, hb⟩
    have HB8 := Lib.hid (chn HB7.out hb)
    clear hb HB7
    go_wp2_with fail
    go_ret
    exact ⟨rfl, HB8.out⟩
end Go.Proofs.Ytdlhnkjghiphoaa
