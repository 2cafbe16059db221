/- Bytes that are cut. -/
import Derived.Test.YtpdniickflenoaaPackH
namespace Go.Proofs.Ytpdniickflenoaa
open Go.RowKit Pk
set_option linter.unusedVariables false

theorem isN_size {m : Nat} (h : m ≤ 65536) : isN m = true := by unfold isN; simp; omega
theorem rdN_cut {n : Int} (h : isN n = true) {k : Nat} (hk : k < (num n).length) (most : Int) : rdN ((num n).take k) 0 most = (0, [], 3) := by
  unfold rdN; rw [if_neg (by decide), cutN_cut h hk]
theorem rdT_cut {n : Int} {s : List Int} (hn : n = s.length) (h : isN n = true) {k : Nat} (hk : k < (num n ++ s).length) {most : Int} (hm : n ≤ most) : rdT ((num n ++ s).take k) 0 most = ([], [], 3) := by
  unfold rdT; rw [if_neg (by decide), cutT_cut hn h hk hm]

theorem RD.nobyte {w : World} {rb : Nat} {xs : List Int} {er : Int} (h : RD w rb xs er) (p : Addr) (z : Int) (hb : p.block = rb) : w.cell? p ≠ some (.int .u8 z) := by
  intro hp
  obtain ⟨v, h1, hv⟩ := h.other
  obtain ⟨b, o, f⟩ := p
  simp only at hb
  subst hb
  simp only [World.cell?, h1] at hp
  split at hp
  · cases hp
  · match o, hp with
    | 0, hp => exact hv z (Option.some.inj hp)
    | 1, hp => cases hp
    | o + 2, hp => simp at hp
theorem RD.only {w w' : World} {rb rb2 : Nat} {xs xs1 : List Int} {er er1 : Int} (h : RD w rb2 xs er) (k : RD w rb xs1 er1) (ho : Only (fun k => k = rb) w w') (hne : rb ≠ rb2) : RD w' rb2 xs er := by
  have hv := fun p z hb => k.nobyte p z hb
  have hl := h.lt
  obtain ⟨v, h1, h2, h3⟩ := h
  exact ⟨v, (ho.block _ hl (fun e => hne e.symm)).trans h1, h2.cells fun p z hp => (ho.cell (lt_of_cell hp) (fun e => hv p z e hp)).trans hp, h3⟩
set_option maxRecDepth 100000 in
set_option maxHeartbeats 1000000 in
theorem cut_law (n : Int) (s : ByteArray) (at' : Int) (w : World) (h1 : -9223372036854775808 ≤ n ∧ n ≤ 9223372036854775807) (hs : s.size ≤ 140737488351232) : Calls Try.prog 6 #[.int .i64 n, .string s, .int .i64 at'] w (TrueB w) := by
  obtain ⟨m, hm⟩ : ∃ m : Nat, m = min s.size 600 := ⟨_, rfl⟩
  have hmin : (if (600 : Int) < (s.size : Int) then 600 else (s.size : Int)) = (m : Int) := by split <;> omega
  have hm0 : (m : Int) ≤ s.size := by omega
  have hm1 : m ≤ s.size := by omega
  obtain ⟨s2, hs2⟩ : ∃ s2, s2 = s.extract 0 m := ⟨_, rfl⟩
  have hex : s.extract 0 m = s2 := hs2.symm
  have hsz : s2.size = m := by rw [hs2, ByteArray.size_extract]; omega
  have H1 := Lib.hid (number_any n w h1.1 h1.2)
  have hn := number_is n
  obtain ⟨N, hN⟩ : ∃ N, N = number n := ⟨_, rfl⟩
  rw [← hN] at H1 hn
  have H2 := Lib.hid (put_any (BS.nil _) (is_lit w [N] (by show 1 ≤ maxLen; decide)) (by simp))
  have HM := Lib.hid hm; have HS2 := Lib.hid hs2; have HSZ := Lib.hid hsz; have HNN := Lib.hid hn
  clear hm hs2 hN hsz hn
  go_enter Try.func6, Try.ntmps6
  go_wp2_with fail
  refine H1.out.mono ?_
  rintro e w1 ⟨rfl, rfl⟩
  clear H1 hmin hm0 hex
  go_wp2_with fail
  refine H2.out.mono ?_
  intro e w1 hp
  obtain ⟨v1, rfl, ho1, hb1⟩ := hp.yes (by simp [HNN.out])
  have e1 : [] ++ nums [N] = num N := by simp [nums]
  rw [e1] at ho1
  have HB1 : Hid (Below w.heap.size w w1) := ((Below.refl _ w).alloc (Nat.le_refl _) _).trans (hb1.mono (by simp))
  have HA1 := Lib.hid ho1.bs
  have HP := Lib.hid (putText_any (w := w1) s2 (BS.nil _) (by decide))
  clear hp ho1 hb1 e1 H2
  go_wp2_with fail
  refine HP.out.mono ?_
  intro e w2 hp
  obtain ⟨v2, rfl, ho2, hb2⟩ := hp.yes (by have := HSZ.out; have := HM.out; omega)
  rw [List.nil_append] at ho2
  have HB2 := Lib.hid (chain HB1.out hb2)
  have HA2 := Lib.hid (HA1.out.below hb2)
  have HC2 := Lib.hid ho2.bs
  clear hp ho2 hb2 HP HB1 HA1
  have hA := HA2.out
  have hC := HC2.out
  obtain ⟨a1, cap1, rfl, g1, g2, _⟩ := hA
  obtain ⟨a2, cap2, rfl, g3, g4, _⟩ := hC
  have hbd := num_bounds N
  have hbd2 := num_bounds (s2.size : Int)
  obtain ⟨K, hK⟩ : ∃ K, K = (num N).length := ⟨_, rfl⟩
  obtain ⟨J, hJ⟩ : ∃ J, J = (num (s2.size : Int) ++ txt s2).length := ⟨_, rfl⟩
  have hJb : 1 ≤ J ∧ J ≤ 609 := by
    have := HSZ.out; have := HM.out
    rw [hJ, List.length_append, txt_length]; omega
  rw [← hK] at HA2 g1 hbd ⊢
  rw [← hJ] at HC2 g3 ⊢
  have hk0 : ((K : Int) == 0) = false := by simp; omega
  have hj0 : ((J : Int) == 0) = false := by simp; omega
  have q1 := bring_range (i := at') (n := (K : Int)) (by omega)
  have q2 := bring_range (i := at') (n := (J : Int)) (by omega)
  have H3 := Lib.hid (bring_any at' K w2 (by omega) (by omega)); have H4 := fun w3 => bring_any at' J w3 (by omega) (by omega)
  obtain ⟨k, hk⟩ := Int.eq_ofNat_of_zero_le q1.1
  obtain ⟨j, hj⟩ := Int.eq_ofNat_of_zero_le q2.1
  rw [hk] at H3 q1
  rw [hj] at q2
  have H5 := Lib.hid (fun w3 => by have := H4 w3; rw [hj] at this; exact this : ∀ w3, Calls Try.prog 21 #[.int .i64 at', .int .i64 J] w3 (IsI (j : Int) w3))
  have hkK : k < K := by omega
  have hjJ : j < J := by omega
  have HT1 := HA2.out.take (j := k) (by omega)
  have HT2 := HC2.out.take (j := j) (by omega)
  have HX1 : Hid (rdN ((num N).take k) 0 9007199254740991 = (0, [], 3)) := rdN_cut HNN.out (by rw [← hK]; exact hkK) _
  have HX2 : Hid (rdT ((num (s2.size : Int) ++ txt s2).take j) 0 600 = ([], [], 3)) := rdT_cut (by rw [txt_length]) (isN_size (by have := HSZ.out; have := HM.out; omega)) (by rw [← hJ]; exact hjJ) (by have := HSZ.out; have := HM.out; omega)
  have HY1 : Hid (Bys ((num N).take k)) := (num_bys (isN_yes HNN.out).1).take k
  have HY2 : Hid (Bys ((num (s2.size : Int) ++ txt s2).take j)) := ((num_bys (by omega)).append (txt_bys s2)).take j
  have HZ1 : Hid (((num N).take k).length ≤ 140737488355328) := by unfold Hid; rw [List.length_take]; omega
  have HZ2 : Hid (((num (s2.size : Int) ++ txt s2).take j).length ≤ 140737488355328) := by unfold Hid; rw [List.length_take]; omega
  have HR1 := Lib.hid (read_any HT1 HY1.out HZ1.out)
  have HTT := Lib.hid HT2
  have hk2 : k ≤ cap1 := by omega
  have hj2 : j ≤ cap2 := by omega
  clear hk hj hK hJ HT1 HT2 H4 hbd hbd2 hJb HA2 HC2
  go_wp2_with fail
  refine H3.out.mono ?_
  rintro e w3 ⟨rfl, rfl⟩
  go_wp2_with fail
  refine HR1.out.mono ?_
  rintro e w3 ⟨rb, rfl, hrb, hrd, hb3⟩
  have HRB := Lib.hid (Nat.le_trans HB2.out.size hrb); have HRD := Lib.hid hrd; have HB3 := Lib.hid (chain HB2.out hb3)
  have HR2 := Lib.hid (read_any (HTT.out.below hb3) HY2.out HZ2.out)
  clear hrb hrd hb3 HTT HR1 HB2 H3
  go_wp2_with fail
  refine (H5.out _).mono ?_
  rintro e w4 ⟨rfl, rfl⟩
  go_wp2_with fail
  refine HR2.out.mono ?_
  rintro e w4 ⟨rb2, rfl, hrb, hrd, hb4⟩
  have HRB2 := Lib.hid (Nat.le_trans HB3.out.size hrb); have HRD2 := Lib.hid hrd; have HB4 := Lib.hid (chain HB3.out hb4)
  have HRD1 := Lib.hid (HRD.out.below hb4)
  have hne : Hid (rb ≠ rb2) := by have := HRD.out.lt; unfold Hid; omega
  have HN1 := num_any HRD1.out 9007199254740991
  rw [HX1.out] at HN1
  have HN2 := Lib.hid HN1
  clear hrb hrd hb4 HR2 HB3 HRD HN1 H5
  go_wp2_with fail
  refine HN2.out.mono ?_
  rintro e w5 ⟨rfl, hrd, ho⟩
  have HB5 := Lib.hid (HB4.out.trans (ho.rd HRB.out HB4.out.size))
  have HRD3 := Lib.hid hrd
  have HRD4 := Lib.hid (HRD2.out.only HRD1.out ho hne.out)
  have HE1 := Lib.hid (err_any HRD3.out)
  have HT1 := text_any HRD4.out 600
  rw [HX2.out] at HT1
  have HT2 := Lib.hid HT1
  clear hrd ho HN2 HB4 HRD1 HRD2 HT1
  go_wp2_with fail
  refine HE1.out.mono ?_
  rintro e w6 ⟨rfl, rfl⟩
  go_wp2_with fail
  refine HT2.out.mono ?_
  rintro e w6 ⟨rfl, hrd, ho⟩
  have HB6 := Lib.hid (HB5.out.trans (ho.rd HRB2.out HB5.out.size))
  have HE2 := Lib.hid (err_any hrd)
  have es : strOfNums [] = ⟨#[]⟩ := rfl
  rw [es]
  clear hrd ho HT2 HE1 HB5 HRD3 HRD4 es
  go_wp2_with fail
  refine HE2.out.mono ?_
  rintro e w7 ⟨rfl, rfl⟩
  have HW := Lib.hid (works_any w6)
  go_wp2_with fail
  refine HW.out.mono ?_
  rintro e w8 ⟨rfl, hb8⟩
  go_wp2_with fail
  go_ret
  exact ⟨rfl, chain HB6.out hb8⟩
end Go.Proofs.Ytpdniickflenoaa
