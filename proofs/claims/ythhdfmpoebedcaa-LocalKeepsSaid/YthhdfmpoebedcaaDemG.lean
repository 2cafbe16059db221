/- The program's Use and Hyper. -/
import Derived.Test.YthhdfmpoebedcaaDemF
namespace Go.Proofs.Ythhdfmpoebedcaa
open Go.RowKit Tk De
set_option linter.unusedVariables false

theorem cell_one_i (w : World) (x : Int) : ∀ j u, ([Value.int .i64 x] : List Value)[j]? = some u → (w.alloc (.cells #[.int .i64 x] 3)).cell? ((⟨w.heap.size, 0, none⟩ : Addr).add j) = some u := by
  intro j u hj
  cases j with
  | zero => simp at hj; subst hj; exact cell_of_row _ _ 0 _ _ _ (heap_alloc_new w _)
  | succ j => simp at hj
theorem one_i (x : Int) : ∀ u ∈ ([Value.int .i64 x] : List Value), u.oneCell' = true := by intro u hu; simp at hu; subst hu; rfl
/-- a cell, and all that was there, are kept -/
def S1 (W w : World) (t : Nat) (v : Value) : Prop := w.cell? ⟨t, 0, none⟩ = some v ∧ Below W.heap.size W w
theorem S1.drew {W w : World} {t : Nat} {v : Value} (h : S1 W w t v) : S1 W w.drew t v := ⟨h.1, h.2.drew⟩
theorem S1.below {W w w' : World} {t : Nat} {v : Value} (h : S1 W w t v) (q : Below w.heap.size w w') : S1 W w' t v := ⟨(q.cell (World.block_lt_of_cell? _ _ h.1)).trans h.1, chn h.2 q⟩
theorem within_S {n a b : Int} {r : Bool} (hr : inn a b n = r) {W w : World} {t : Nat} {v : Value} (h : S1 W w t v) :
    Calls Try.prog 27 #[.int .i64 n, .int .i64 a, .int .i64 b] w (fun e w' => e = .returned (.bool r) ∧ S1 W w' t v) := (within_fit hr w).mono fun _ _ ⟨he, hw⟩ => ⟨he, hw ▸ h⟩
theorem periods_S {W w : World} {t : Nat} {y v : Value} {n : Nat} {z : Nat → Nat → Int} (h : S1 W w t y) (ht : TK W v n z) (hg : De.Good n z) :
    Calls Try.prog 29 #[v] w (fun e w' => ∃ r, e = .returned r ∧ IS w' r (fs (per z) n) ∧ S1 W w' t y) :=
  (periods_any (ht.below h.2) hg).mono fun _ _ ⟨r, he, hn, hb⟩ => ⟨r, he, hn.is hg.n4, h.below hb⟩
theorem divide_S {W w : World} {t : Nat} {y v : Value} {n : Nat} {P : Nat → Nat} {N : Nat} {r : Bool} (hr : dvs P N n = r) (h : S1 W w t y) (hi : IS w v (fs P n)) (hn : n ≤ 4) (hP : ∀ i, i < n → 0 < P i) (hN : N ≤ 1048576) :
    Calls Try.prog 31 #[.int .i64 N, v] w (fun e w' => e = .returned (.bool r) ∧ S1 W w' t y) := by
  subst hr
  exact (allDivide_any hi hn hP N hN).mono fun _ _ ⟨he, hw⟩ => ⟨he, hw ▸ h⟩
set_option maxHeartbeats 2000000 in
theorem use_any {w : World} {v u : Value} {n : Nat} {z : Nat → Nat → Int} {xs : List Int} (h : TK w v n z) (hx : IS w u xs) (t : Int) :
    Calls Try.prog 18 #[v, u, .int .i64 t] w (TwoB (useR n z xs t).1 (useR n z xs t).2 w) := by
  have hA := (Below.refl _ w).alloc (Nat.le_refl _) (.cells #[.int .i64 t] 3)
  have HCk := Lib.hid (check_any (h.below hA) (hx.below hA))
  have HT := Lib.hid (h.below hA); have HX := Lib.hid (hx.below hA)
  have HA := Lib.hid hA
  have HBox := Lib.hid (cell_of_row (w.alloc (.cells #[.int .i64 t] 3)) w.heap.size 0 _ _ _ (heap_alloc_new w (.cells #[.int .i64 t] 3)))
  clear h hx hA
  cases hc : chk n z xs with
  | false =>
    have hcE : chkE n z xs = 2 := by unfold chkE; rw [hc]; rfl
    rw [hcE] at HCk
    have HO := Lib.hid (useR_no1 (t := t) hc)
    clear hc hcE
    go_enter Try.func18, Try.ntmps18
    go_wp2_with fail
    refine HCk.out.mono ?_
    rintro e w1 ⟨rfl, hb⟩
    have HB := Lib.hid (HA.out.trans (hb.mono HA.out.size))
    clear hb
    go_wp2_with fail
    go_ret2
    exact ⟨by rw [HO.out]; rfl, HB.out⟩
  | true =>
    have hcE : chkE n z xs = 0 := by unfold chkE; rw [hc]; rfl
    rw [hcE] at HCk
    clear hcE
    cases ht : inn 1 1048576 t with
    | false =>
      have HO := Lib.hid (useR_no2 (n := n) (z := z) (xs := xs) ht)
      have HW := Lib.hid (within_fit ht)
      clear hc ht
      go_enter Try.func18, Try.ntmps18
      go_wp2_with fail
      refine HCk.out.mono ?_
      rintro e w1 ⟨rfl, hb⟩
      have HB := Lib.hid (HA.out.trans (hb.mono HA.out.size))
      have cb := (hb.cell (World.block_lt_of_cell? _ _ HBox.out)).trans HBox.out
      clear hb HCk HA HT HX HBox
      go_wp2_with fail
      go_quiet ((go_at_call 27; exact Calls.quiet_of_same ((HW.out _).mono fun _ _ h => ⟨h.1, h.2.symm⟩)))
      go_wp2_with fail
      go_ret2
      exact ⟨by rw [HO.out]; rfl, below_drewN HB.out _⟩
    | true =>
      obtain ⟨T, rfl⟩ := inn_nat ht (by omega)
      have hT : 1 ≤ T ∧ T ≤ 1048576 := by have := inn_iff.1 ht; omega
      obtain ⟨hT1, hT⟩ := hT
      have HW := Lib.hid (fun (W w : World) (t : Nat) (v : Value) (h : S1 W w t v) => within_S ht h)
      have hgd := goods_of hc
      have HGd := Lib.hid hgd
      obtain ⟨r, hr⟩ : ∃ r, dvs (per z) T n = r := ⟨_, rfl⟩
      have HDv := Lib.hid (fun (W w : World) (t : Nat) (y v : Value) (h : S1 W w t y) (hi : IS w v (fs (per z) n)) => divide_S hr h hi hgd.t.n4 (fun i hi => (hgd.t.at' i hi).2.2.1) hT)
      have HPd := Lib.hid (fun (W w : World) (t : Nat) (y v : Value) (ht : TK W v n z) (h : S1 W w t y) => periods_S h ht hgd.t)
      cases r with
      | false =>
        have HO := Lib.hid (useR_no3 (xs := xs) hr)
        clear hc ht hgd hr
        go_enter Try.func18, Try.ntmps18
        go_wp2_with fail
        refine HCk.out.mono ?_
        rintro e w1 ⟨rfl, hb⟩
        have HB := Lib.hid (HA.out.trans (hb.mono HA.out.size))
        have HS : Hid (S1 w1 w1 w.heap.size (.int .i64 T)) := ⟨(hb.cell (World.block_lt_of_cell? _ _ HBox.out)).trans HBox.out, Below.refl _ _⟩
        have HT1 := Lib.hid (HT.out.below hb)
        clear hb HCk HA HT HX HBox
        go_wp2_with fail
        go_region_held3 (fun w' => w'.cell? ⟨w.heap.size, 0, none⟩ = some (.int .i64 T) ∧ Below w1.heap.size w1 w')
          (first | assumption | exact S1.drew HS.out | exact HS.out | go_keep)
          (first | (go_at_call 27; refine (HW.out _ _ _ _ (by assumption)).mono ?_; rintro e w' ⟨rfl, hq⟩)
                 | (go_at_call 29; refine (HPd.out _ _ _ _ _ HT1.out (by assumption)).mono ?_; rintro e w' ⟨r, rfl, hn, hq⟩)
                 | (go_at_call 31; refine (HDv.out _ _ _ _ _ (by assumption) (by assumption)).mono ?_; rintro e w' ⟨rfl, hq2⟩))
        have HQ := Lib.hid (chn HB.out hq2.2)
        clear hq hq2
        go_wp2_with fail
        go_ret2
        exact ⟨by rw [HO.out]; rfl, HQ.out⟩
      | true =>
        have HO := Lib.hid (useR_ok hc hT1 hT hr)
        clear hc ht hgd hr
        go_enter Try.func18, Try.ntmps18
        go_wp2_with fail
        refine HCk.out.mono ?_
        rintro e w1 ⟨rfl, hb⟩
        have HB := Lib.hid (HA.out.trans (hb.mono HA.out.size))
        have HS : Hid (S1 w1 w1 w.heap.size (.int .i64 T)) := ⟨(hb.cell (World.block_lt_of_cell? _ _ HBox.out)).trans HBox.out, Below.refl _ _⟩
        have HT1 := Lib.hid (HT.out.below hb)
        have HX1 := Lib.hid (HX.out.below hb)
        clear hb HCk HA HT HX HBox
        go_wp2_with fail
        go_region_held3 (fun w' => w'.cell? ⟨w.heap.size, 0, none⟩ = some (.int .i64 T) ∧ Below w1.heap.size w1 w')
          (first | assumption | exact S1.drew HS.out | exact HS.out | go_keep)
          (first | (go_at_call 27; refine (HW.out _ _ _ _ (by assumption)).mono ?_; rintro e w' ⟨rfl, hq⟩)
                 | (go_at_call 29; refine (HPd.out _ _ _ _ _ HT1.out (by assumption)).mono ?_; rintro e w' ⟨r, rfl, hn, hq⟩)
                 | (go_at_call 31; refine (HDv.out _ _ _ _ _ (by assumption) (by assumption)).mono ?_; rintro e w' ⟨rfl, hq2⟩))
        have HQ := Lib.hid (chn HB.out hq2.2)
        have HAs := Lib.hid (askers_any (HT1.out.below hq2.2) (HX1.out.below hq2.2) HGd.out)
        have cb := hq2.1
        rename_i hHeld
        clear hq hn hHeld
        go_wp2_with fail
        refine HAs.out.mono ?_
        rintro e w3 ⟨r3, rfl, hav, hb⟩
        have HB2 := Lib.hid (chn HQ.out hb)
        have cb2 := (hb.cell (World.block_lt_of_cell? _ _ cb)).trans cb
        have HS := Lib.hid (sum_use (tb := w.heap.size) (F := fun i => T / per z i * asks z xs i) hav HGd.out.t.n4 (by
          rw [use_tot]
          have := HGd.out.use_le hT (Nat.le_refl n)
          have := HGd.out.t.n4
          omega) (fun i hi W hW => by
            have h1 := HGd.out.t.at' i hi
            exact ucl_any _ _ T _ h1.2.2.1 h1.2.2.2.1 hT (HGd.out.m i hi).2.2.2 ((hW.cell (World.block_lt_of_cell? _ _ cb2)).trans cb2)))
        rw [use_tot] at HS
        clear hav hb HAs cb
        go_wp2_with fail
        refine HS.out.mono ?_
        rintro e w4 ⟨rfl, hb⟩
        have HB3 := Lib.hid (chn HB2.out hb)
        clear hb
        go_wp2_with fail
        go_ret2
        exact ⟨by rw [HO.out]; rfl, HB3.out⟩
theorem multiple_any {w : World} {a : Option Addr} {cap k : Nat} {zs : List Int} {m e : Int} (hk : k = zs.length) (hl : k ≤ 9223372036854775807) (h : Row w a zs) (hr : lcmR 4096 zs = (m, e)) :
    Calls Try.prog 28 #[.slice a k cap] w (TwoB (if e = 0 then m else 0) (if e = 0 then 0 else 5) w) := by
  have HL := Lib.hid (lcm_any 4096 a cap k zs w hk hl h)
  rw [hr] at HL
  clear hk hl h hr
  cases he : (e == 0) with
  | true =>
    obtain rfl : e = 0 := by simpa using he
    go_enter Try.func28, Try.ntmps28
    go_wp2_with fail
    refine HL.out.mono ?_
    rintro e w1 ⟨rfl, hb⟩
    have HB := Lib.hid hb
    clear hb
    go_wp2_with fail
    go_ret2
    exact ⟨rfl, HB.out⟩
  | false =>
    have hne : e ≠ 0 := by simpa using he
    rw [if_neg hne, if_neg hne]
    clear hne
    go_enter Try.func28, Try.ntmps28
    go_wp2_with fail
    refine HL.out.mono ?_
    rintro e w1 ⟨rfl, hb⟩
    have HB := Lib.hid hb
    clear hb
    go_wp2_with fail
    go_ret2
    exact ⟨rfl, HB.out⟩
theorem fs_per (n : Nat) (z : Nat → Nat → Int) (p : Nat) : fs (per z) n ++ [(p : Int)] = (pers z n ++ [p]).map (fun x : Nat => (x : Int)) := by
  unfold fs pers
  rw [List.map_append, List.map_map]
  rfl
set_option maxHeartbeats 1000000 in
theorem hyper_any {w : World} {v : Value} {n : Nat} {z : Nat → Nat → Int} (h : TK w v n z) (p : Int) :
    Calls Try.prog 16 #[v, .int .i64 p] w (TwoB (hyR n z p).1 (hyR n z p).2 w) := by
  have HCk := Lib.hid (tasksMayBe_any h)
  have HT := Lib.hid h
  obtain ⟨i0, hi, hz0, hz1, hz2⟩ := info_parts infoIn
  have HI := Lib.hid (⟨hi, hz0, hz1, hz2⟩ : _ ∧ _ ∧ _ ∧ _)
  clear h hi hz0 hz1 hz2
  cases hc : tasksOK n z with
  | false =>
    rw [hc] at HCk
    have HO := Lib.hid (hyR_no1 (p := p) hc)
    clear hc
    go_enter Try.func16, Try.ntmps16
    go_wp2_with fail
    refine HCk.out.mono ?_
    rintro e w1 ⟨rfl, hb⟩
    have HB := Lib.hid hb
    clear hb
    go_wp2_with fail
    go_ret2
    exact ⟨by rw [HO.out]; rfl, HB.out⟩
  | true =>
    rw [hc] at HCk
    cases ht : inn 1 64 p with
    | false =>
      have HO := Lib.hid (hyR_no2 (n := n) (z := z) ht)
      have HW := Lib.hid (within_fit ht)
      clear hc ht
      go_enter Try.func16, Try.ntmps16
      go_wp2_with fail
      refine HCk.out.mono ?_
      rintro e w1 ⟨rfl, hb⟩
      have HB := Lib.hid hb
      clear hb
      go_wp2_with fail
      refine (HW.out _).mono ?_
      rintro e w2 ⟨rfl, rfl⟩
      go_wp2_with fail
      go_ret2
      exact ⟨by rw [HO.out]; rfl, HB.out⟩
    | true =>
      obtain ⟨P, rfl⟩ := inn_nat ht (by omega)
      have hP : 0 < P ∧ P ≤ 64 := by have := inn_iff.1 ht; omega
      have HW := Lib.hid (within_fit ht)
      have hgd := good_of hc
      have HGd := Lib.hid hgd
      have hn4 := hgd.n4
      have hL := hgd.lcm_of hP.1 hP.2
      rw [← fs_per] at hL
      obtain ⟨m, e, hme⟩ : ∃ m e : Int, (if hypL n z P ≤ 4096 then (((hypL n z P : Nat) : Int), (0 : Int)) else (0, 10)) = (m, e) := ⟨_, _, rfl⟩
      rw [hme] at hL
      have HO : Hid (hyR n z P = (if e = 0 then m else 0, if e = 0 then 0 else 5)) := by
        rw [Hid, hyR_yes hc ht]
        by_cases hq : hypL n z P ≤ 4096
        · rw [if_pos hq] at hme ⊢
          obtain ⟨rfl, rfl⟩ := Prod.mk.inj hme
          rfl
        · rw [if_neg hq] at hme ⊢
          obtain ⟨rfl, rfl⟩ := Prod.mk.inj hme
          rfl
      obtain ⟨M, hM⟩ : ∃ M : Int, (if e = 0 then m else 0) = M := ⟨_, rfl⟩
      obtain ⟨E, hE⟩ : ∃ E : Int, (if e = 0 then (0 : Int) else 5) = E := ⟨_, rfl⟩
      rw [hM, hE] at HO
      have HM := Lib.hid hM; have HE := Lib.hid hE
      have HL := Lib.hid hL
      clear hc ht hgd hme hL hP hM hE
      go_enter Try.func16, Try.ntmps16
      go_wp2_with fail
      refine HCk.out.mono ?_
      rintro e1 w1 ⟨rfl, hb⟩
      have HB := Lib.hid hb
      have HPd := Lib.hid (periods_any (HT.out.below hb) HGd.out)
      clear hb
      go_wp2_with fail
      refine (HW.out _).mono ?_
      rintro e1 w2 ⟨rfl, rfl⟩
      go_wp2_with fail
      refine HPd.out.mono ?_
      rintro e1 w3 ⟨r, rfl, hnv, hb⟩
      have HB3 := Lib.hid (chn HB.out hb)
      have HOw := Lib.hid (hnv.own hn4)
      obtain ⟨g, rfl, hgb, hgh⟩ := hnv
      have HS3 := Lib.hid (Below.size hb)
      clear hb hgb hgh HPd HCk
      have Hm1 : Hid (n + 1 ≤ maxLen) := by unfold Hid maxLen; omega
      have Hm2 : Hid ((n + 1) * 8 ≤ 140737488355328) := by unfold Hid; omega
      have Hm3 : Hid (w1.heap.size ≤ (w3.alloc (.cells #[.int .i64 P] 3)).heap.size) := by have := HS3.out; unfold Hid; simp; omega
      go_wp2_with (at_builtin; refine wpList_append_own _ rfl _ _ 38 rfl w1.heap.size 3 i0 (.int .i64 0) 1 8 Try.underlying38 HI.out.1 HI.out.2.1 HI.out.2.2.1 HI.out.2.2.2 rfl (by decide) _ n _ rfl (World.ownsRow.alloc HOw.out _) ⟨w3.heap.size, 0, none⟩ 1 1 [.int .i64 P] rfl rfl (cell_one_i _ _) (one_i _) Hm1.out Hm2.out Hm3.out ?_)
      intro v' w4 hown hgrow _
      have hown' : w4.ownsRow w1.heap.size 3 1 v' (n + 1) ((fs (per z) n ++ [(P : Int)]).map (Value.int .i64)) := by rw [List.map_append]; exact hown
      obtain ⟨a4, c4, rfl, hrow, _⟩ := rowed_of (by simp [fs_len]) hown'
      have HB4 : Hid (Below w.heap.size w w4) := HB3.out.trans (Below.grown ((Below.refl w.heap.size w3).alloc HB3.out.size _) hgrow (by have := HB3.out.size; simp; omega) (fun k hk => by
        have := (HOw.out.lt k hk).1
        have := HB.out.size
        omega))
      have HMl := Lib.hid (multiple_any (cap := c4) (k := n + 1) (by simp [fs_len]) (by omega) hrow HL.out)
      rw [HM.out, HE.out] at HMl
      clear HM HE
      clear hown hown' hgrow hrow
      go_wp2_with fail
      refine HMl.out.mono ?_
      rintro e1 w5 ⟨rfl, hb⟩
      have HB5 := Lib.hid (chn HB4.out hb)
      clear hb
      go_wp2_with fail
      go_ret2
      exact ⟨by rw [HO.out]; rfl, HB5.out⟩
end Go.Proofs.Ythhdfmpoebedcaa
