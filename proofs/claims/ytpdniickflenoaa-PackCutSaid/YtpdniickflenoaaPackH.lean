/- What can be read is written so. -/
import Derived.Test.YtpdniickflenoaaPackG
namespace Go.Proofs.Ytpdniickflenoaa
open Go.RowKit Pk
set_option linter.unusedVariables false

theorem rdN_max {xs : List Int} (hb : Bys xs) : rdN xs 0 9007199254740991 = cutAny xs := by
  unfold rdN cutN
  rw [if_neg (by decide)]
  rcases cutAny_err xs with h | ⟨h1, h2, h3⟩
  · have := (isN_yes (num_cutAny hb h).2).2
    rw [if_neg (by rw [h]; decide), if_neg (by omega)]
    rw [← h]
  · rw [if_pos (by omega), ← h1, ← h2]

set_option maxRecDepth 100000 in
set_option maxHeartbeats 1000000 in
theorem again_law {w : World} {v : Value} {xs : List Int} (hv : BS w v xs) (hb : Bys xs) (hl : xs.length ≤ 140737488351232) : Calls Try.prog 5 #[v] w (TrueB w) := by
  have HV := Lib.hid hv; have HBX := Lib.hid hb
  have H1 := Lib.hid (read_any hv hb (by omega))
  obtain ⟨a, cap, rfl, hcap, hcm, _⟩ := hv
  obtain ⟨L, hL⟩ : ∃ L, L = xs.length := ⟨_, rfl⟩
  rw [← hL] at hl H1 HV hcap ⊢
  have HL := Lib.hid hL
  clear hL hb
  go_enter Try.func5, Try.ntmps5
  go_wp2_with fail
  refine H1.out.mono ?_
  rintro e w1 ⟨rb, rfl, hrb, hrd, hb1⟩
  have HB1 := Lib.hid hb1; have HRB := Lib.hid hrb
  have H2 := num_any hrd 9007199254740991
  rw [rdN_max HBX.out] at H2
  have hce := cutAny_err xs
  have hnc := fun h => num_cutAny HBX.out h
  obtain ⟨r, hr⟩ : ∃ r, r = cutAny xs := ⟨_, rfl⟩
  rw [← hr] at H2 hce hnc
  obtain ⟨n, rest, er⟩ := r
  simp only at H2 hce hnc
  have H3 := Lib.hid H2
  clear hr H2 H1 hb1 hrb hrd
  go_wp2_with fail
  refine H3.out.mono ?_
  rintro e w2 ⟨rfl, hrd2, ho2⟩
  have HR2 := Lib.hid hrd2; have HB2 := Lib.hid (HB1.out.trans (ho2.rd HRB.out HB1.out.size))
  clear hrd2 ho2 H3 HB1
  have HLF := Lib.hid (left_any HR2.out); have HER := Lib.hid (err_any HR2.out); have HEN := Lib.hid (end_any HR2.out)
  go_wp2_with fail
  refine HLF.out.mono ?_
  rintro e w3 ⟨rfl, rfl⟩
  go_wp2_with fail
  refine HER.out.mono ?_
  rintro e w3 ⟨rfl, rfl⟩
  cases he : decide (er = 0) with
  | false =>
    have he0 := of_decide_eq_false he
    have he' : (er == 0) = false := by simpa using he0
    have h5 : n = 0 ∧ rest = [] ∧ (er = 3 ∨ er = 4) := hce.resolve_left he0
    obtain ⟨rfl, rfl, h34⟩ := h5
    have hen : endOf [] er = er := by unfold endOf; simp
    rw [hen] at HEN
    clear hce hnc he he0 hen HLF
    have HW := Lib.hid (works_any w2)
    rcases h34 with rfl | rfl
    · go_wp2_with fail
      refine HER.out.mono ?_
      rintro e w3 ⟨rfl, rfl⟩
      go_wp2_with fail
      refine HEN.out.mono ?_
      rintro e w3 ⟨rfl, rfl⟩
      go_wp2_with fail
      refine HER.out.mono ?_
      rintro e w3 ⟨rfl, rfl⟩
      go_wp2_with fail
      refine HW.out.mono ?_
      rintro e w3 ⟨rfl, hb3⟩
      go_wp2_with fail
      go_ret
      exact ⟨rfl, chain HB2.out hb3⟩
    · go_wp2_with fail
      refine HER.out.mono ?_
      rintro e w3 ⟨rfl, rfl⟩
      go_wp2_with fail
      refine HER.out.mono ?_
      rintro e w3 ⟨rfl, rfl⟩
      go_wp2_with fail
      refine HEN.out.mono ?_
      rintro e w3 ⟨rfl, rfl⟩
      go_wp2_with fail
      refine HER.out.mono ?_
      rintro e w3 ⟨rfl, rfl⟩
      go_wp2_with fail
      refine HW.out.mono ?_
      rintro e w3 ⟨rfl, hb3⟩
      go_wp2_with fail
      go_ret
      exact ⟨rfl, chain HB2.out hb3⟩
  | true =>
    have he0 := of_decide_eq_true he
    subst he0
    obtain ⟨hx, hn⟩ := hnc rfl
    have h1 := Lib.hid (put_any (BS.nil _) (is_lit w2 [n] (by show 1 ≤ maxLen; decide)) (by simp))
    obtain ⟨lf, hlf⟩ : ∃ lf, lf = rest.length := ⟨_, rfl⟩
    obtain ⟨K, hK⟩ : ∃ K, K = (num n).length := ⟨_, rfl⟩
    have hLK : L = K + lf := by rw [HL.out, hx, List.length_append, hK, hlf]
    have hsub : wrap64 ((L : Int) - lf) = K := by unfold wrap64; omega
    have hgt : decide (L < lf) = false := decide_eq_false (by omega)
    have hgt2 : decide ((lf : Int) > L) = false := decide_eq_false (by omega)
    have hKL : (K : Int) ≤ L := by omega
    have HKL : Hid (K ≤ L) := by unfold Hid; omega
    have htk : Hid (xs.take K = num n) := by rw [hx, hK]; simp [Hid]
    have HK := Lib.hid hK
    have hx2 := Lib.hid hx
    rw [← hlf]
    clear hce hnc he HEN HER HLF hx hK hLK hlf
    go_wp2_with fail
    refine h1.out.mono ?_
    intro e w3 hp
    obtain ⟨v1, rfl, ho1, hb3⟩ := hp.yes (by simp [hn])
    have e1 : [] ++ nums [n] = num n := by simp [nums]
    rw [e1] at ho1
    have hbs1 := ho1.bs
    obtain ⟨a1, cap1, rfl⟩ := ho1.slice
    have HB3 : Hid (Below w.heap.size w w3) := HB2.out.trans (((Below.refl _ w2).alloc (Nat.le_refl _) _).trans (hb3.mono (by simp)) |>.mono HB2.out.size)
    have HQ := Lib.hid hbs1
    have HT : Hid (BS w3 (.slice a K cap) (num n)) := by rw [← htk.out]; exact (HV.out.take HKL.out).below HB3.out
    rw [← HK.out] at HQ ⊢
    have HEQ := Lib.hid (eq_any HQ.out HT.out)
    have HW := Lib.hid (works_any w3)
    clear hp ho1 hb3 hbs1 h1 e1 HB2 hn
    go_wp2_with fail
    refine HEQ.out.mono ?_
    rintro e w4 ⟨rfl, rfl⟩
    go_wp2_with fail
    refine HW.out.mono ?_
    rintro e w4 ⟨rfl, hb4⟩
    go_wp2_with fail
    go_ret
    exact ⟨rfl, chain HB3.out hb4⟩
end Go.Proofs.Ytpdniickflenoaa
