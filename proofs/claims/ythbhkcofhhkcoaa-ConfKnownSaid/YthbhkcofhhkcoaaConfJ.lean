/- Partitions that are read. -/
import Derived.Test.YthbhkcofhhkcoaaConfI
namespace Go.Proofs.Ythbhkcofhhkcoaa
open Go.RowKit Pk Cn
set_option linter.unusedVariables false

theorem infoPt : (Try.prog.info? 28).map (fun i => (i.zero, i.size, i.bytes)) = some (some (.agg #[.int .i64 0, .int .i64 0, .slice none 0 0]), 3, 40) := by kernel_rfl
/-- cells that hold these partitions -/
def FPt (w : World) (B : Nat) (cur : Array Value) (l : List Pt) : Prop := ∀ i, i < l.length → cur[i * 3]? = some (.int .i64 (l.getD i pt0).per) ∧ cur[i * 3 + 1]? = some (.int .i64 (l.getD i pt0).bud) ∧ ∃ tv, cur[i * 3 + 2]? = some tv ∧ TS w B tv (l.getD i pt0).ts
theorem FPt.step {w w' : World} {B : Nat} {cur : Array Value} {l : List Pt} {r : List Int} {tv : Value} {ts : List Tk} (h : FPt w B cur l) (q : Kp B w w') (hr : r.length = 2) (hs : l.length * 3 + 3 ≤ cur.size) (ht : TS w' B tv ts) :
    FPt w' B ((setRow cur (l.length * 3) r).setIfInBounds (l.length * 3 + 2) tv) (l ++ [⟨r.getD 0 0, r.getD 1 0, ts⟩]) := by
  intro i hi
  rw [List.length_append, List.length_cons, List.length_nil] at hi
  by_cases hc : i < l.length
  · obtain ⟨h1, h2, tv', h3, h4⟩ := h i hc
    rw [getD_left hc, Array.getElem?_setIfInBounds_ne (by omega), Array.getElem?_setIfInBounds_ne (by omega), Array.getElem?_setIfInBounds_ne (by omega), setRow_out _ _ _ (by omega), setRow_out _ _ _ (by omega), setRow_out _ _ _ (by omega)]
    exact ⟨h1, h2, tv', h3, h4.keep q⟩
  · obtain rfl : i = l.length := by omega
    rw [getD_last, Array.getElem?_setIfInBounds_ne (by omega), Array.getElem?_setIfInBounds_ne (by omega), Array.getElem?_setIfInBounds_self_of_lt (by rw [setRow_size]; omega)]
    have g0 := setRow_in (j := 0) r cur (l.length * 3) (by omega) (by omega)
    have g1 := setRow_in (j := 1) r cur (l.length * 3) (by omega) (by omega)
    exact ⟨g0, g1, tv, rfl, ht⟩
/-- a row of partitions of the call's own -/
def OwnPt (w : World) (B : Nat) (v : Value) (n : Nat) : Prop := (v = .slice none 0 0 ∧ n = 0) ∨ ∃ g cap cur, v = .slice (some ⟨g, 0, none⟩) n cap ∧ B ≤ g ∧ w.heap[g]? = some (.cells cur 28 (0, 0))
theorem OwnPt.keep {w w' : World} {B n : Nat} {v : Value} (h : OwnPt w B v n) (k : ∀ g, B ≤ g → g < w.heap.size → w'.heap[g]? = w.heap[g]?) : OwnPt w' B v n := by
  rcases h with h | ⟨g, cap, cur, h1, h2, h3⟩
  · exact Or.inl h
  · exact Or.inr ⟨g, cap, cur, h1, h2, (k g h2 (Array.getElem?_eq_some_iff.1 h3).1).trans h3⟩

set_option maxRecDepth 100000 in
set_option maxHeartbeats 4000000 in
theorem partsR_any {w : World} {rb : Nat} {xs : List Int} {er : Int} (h : RD w rb xs er) : Calls Try.prog 48 #[.pointer (some ⟨rb, 0, none⟩)] w
    (fun e w' => ∃ v, e = .returned v ∧ PS w' w.heap.size v (rdPs (xs, er)).1 ∧ OwnPt w' w.heap.size v (rdPs (xs, er)).1.length ∧ RD w' rb (rdPs (xs, er)).2.1 (rdPs (xs, er)).2.2 ∧ Only (fun b => b = rb) w w') := by
  obtain ⟨i0, hi, hz0, hz1, hz2⟩ := info_parts infoPt
  have hN := num_any h 4
  have hbys : Bys xs := by obtain ⟨_, _, _, h3⟩ := h; exact h3
  have hlt := h.lt
  have hrd : rdN xs er 4 = rd 4 (xs, er) := rfl
  rw [hrd] at hN
  have hres : rdPs (xs, er) = many rdPt (rd 4 (xs, er)).1.toNat (rd 4 (xs, er)).2 := rfl
  have h0 := rd_nonneg 4 (xs, er) hbys
  have h4 := rd_most 4 (by decide) (xs, er)
  obtain ⟨r, hr⟩ : ∃ r, r = rd 4 (xs, er) := ⟨_, rfl⟩
  rw [← hr] at hN hres h0 h4
  obtain ⟨N, s⟩ := r
  dsimp only at hN hres h0 h4
  obtain ⟨n, rfl⟩ := Int.eq_ofNat_of_zero_le h0
  rw [Int.toNat_natCast] at hres
  have hn4 : n ≤ 4 := by omega
  rw [hres]
  have HN := Lib.hid hN
  clear hN hrd hr hres h0 h4 h hbys
  go_enter Try.func48, Try.ntmps48
  go_wp2_with fail
  refine HN.out.mono ?_
  rintro e w1 ⟨rfl, hr1, ho1⟩
  have HR1 := Lib.hid hr1; have HO1 := Lib.hid ho1
  have hw1 := ho1.size
  clear hr1 ho1 HN
  go_wp2_with (at_make; refine wpList_make_full _ rfl _ _ 22 rfl w1.heap.size 28 i0 _ 3 Try.underlying22 hi hz0 hz1 .i64 .i64 _ _ n rfl rfl rfl rfl (by rw [hz2]; omega) (by unfold maxLen; omega) (Nat.le_refl _) ?_; intro V hown hgrow)
  obtain ⟨hg0, hsz0⟩ := own_full hown
  obtain ⟨g, hg⟩ : ∃ g, g = w1.heap.size := ⟨_, rfl⟩
  rw [← hg] at hg0 ⊢
  have hgw : w.heap.size ≤ g := by omega
  have hbV := (Below.refl w1.heap.size w1).grown hgrow (Nat.le_refl _) (fun k hk => by cases hk)
  have hgV : g < V.heap.size := (Array.getElem?_eq_some_iff.1 hg0).1
  have hrg : rb ≠ g := by omega
  have HRV : Hid (RD V rb (many rdPt 0 s).2.1 (many rdPt 0 s).2.2) := HR1.out.below hbV
  have HOV : Hid (Only (fun b => b = rb) w V) := HO1.out.trans (Only.of_below hbV)
  have HNB0 := Lib.hid (nb_made (Value.agg #[.int .i64 0, .int .i64 0, .slice none 0 0]).cells (n * 3) (by decide) (by
    intro j hj x
    match j, hj with
    | 0, _ => exact fun h => by cases h
    | 1, _ => exact fun h => by cases h
    | 2, _ => exact fun h => by cases h))
  have HF0 : Hid (FPt V V.heap.size (madeCells (Value.agg #[.int .i64 0, .int .i64 0, .slice none 0 0]).cells (n * 3)) (many rdPt 0 s).1) := fun i hi => by cases hi
  have HG0 := Lib.hid hg0
  clear hown hgrow hbV HR1 HO1 hg hw1 hg0
  generalize madeCells (Value.agg #[.int .i64 0, .int .i64 0, .slice none 0 0]).cells (n * 3) = cur0 at *
  go_wp2_with fail
  go_loopw [10] (fun i wr => ∃ (k : Nat) (cur : Array Value), k ≤ n ∧ i = .int .i64 k ∧ cur.size = n * 3 ∧ Hid (NB cur) ∧ Hid (FPt wr V.heap.size cur (many rdPt k s).1) ∧ Hid (wr.heap[g]? = some (.cells cur 28 (0, 0))) ∧ Hid (RD wr rb (many rdPt k s).2.1 (many rdPt k s).2.2) ∧ Hid (Only (fun b => b = rb ∨ b = g) V wr)) (fun i _ => n - (intOf i).toNat)
  case atStart => exact ⟨0, cur0, by omega, rfl, hsz0, HNB0, HF0, HG0, HRV, Only.refl _ _⟩
  case round =>
    clear HNB0 HF0 HG0 HRV hsz0
    obtain ⟨k, cur, hk, rfl, hcs, HNB, HF, HG, HR, HW⟩ := hrel
    by_cases hkn : k < n
    · have hgl : g < wr.heap.size := (Array.getElem?_eq_some_iff.1 HG.out).1
      have hrl := HR.out.lt
      have hVl := HW.out.size
      have hA := ((Below.refl wr.heap.size wr).drew).alloc (Nat.le_refl _) (.cells #[.pointer (some ⟨g, k * 3, none⟩), .pointer (some ⟨g, k * 3 + 1, none⟩)] 38)
      have HRR := Lib.hid (readRow_any (w := wr.drew.alloc (.cells #[.pointer (some ⟨g, k * 3, none⟩), .pointer (some ⟨g, k * 3 + 1, none⟩)] 38)) (q := wr.heap.size) (o := k * 3) (m := 2) (HR.out.below hA) ((hA.block g hgl).trans HG.out) HNB.out (by
        intro j hj
        refine (cell_of_row _ _ j _ _ _ (heap_alloc_new wr.drew _)).trans ?_
        match j, hj with
        | 0, _ => rfl
        | 1, _ => rfl) (by rw [hcs]; omega) (by decide) (Ne.symm hrg) (by omega) (by omega))
      have HL : Hid ((many rdPt k s).1.length = k) := many_length _ _ _
      have HS : Hid (many rdPt (k + 1) s = ((many rdPt k s).1 ++ [(rdPt (many rdPt k s).2).1], (rdPt (many rdPt k s).2).2)) := many_snoc _ _ _
      have HWA : Hid (Only (fun b => b = rb ∨ b = g) V (wr.drew.alloc (.cells #[.pointer (some ⟨g, k * 3, none⟩), .pointer (some ⟨g, k * 3 + 1, none⟩)] 38))) := HW.out.drew.alloc _
      have HWB : Hid (Only (fun b => b = rb ∨ b = g) wr (wr.drew.alloc (.cells #[.pointer (some ⟨g, k * 3, none⟩), .pointer (some ⟨g, k * 3 + 1, none⟩)] 38))) := (Only.refl _ wr).drew.alloc _
      have hj0 : (0 : Int) ≤ (k : Int) := by omega
      have hj1 : (k : Int) < (n : Int) := by omega
      clear hA HR HG HW
      go_wp2_with fail
      go_region_held3 (fun w' => True) (first | trivial | go_keep)
        (first | (go_at_call 55; refine HRR.out.mono ?_; rintro e w2 ⟨rfl, hr2, hg2, ho2⟩))
      all_goals
        have HW2 : Hid (Only (fun b => b = rb ∨ b = g) V w2) := HWA.out.trans ho2
        have HWR2 : Hid (Only (fun b => b = rb ∨ b = g) wr w2) := HWB.out.trans ho2
        have HRL : Hid ((rowN 2 (many rdPt k s).2).1.length = 2) := rowN_length 2 _
        have HPT : Hid (rdPt (many rdPt k s).2 = (⟨(rowN 2 (many rdPt k s).2).1.getD 0 0, (rowN 2 (many rdPt k s).2).1.getD 1 0, (rdTs (rowN 2 (many rdPt k s).2).2).1⟩, (rdTs (rowN 2 (many rdPt k s).2).2).2)) := rfl
        have hcs2 : (setRow cur (k * 3) (rowN 2 (many rdPt k s).2).1).size = n * 3 := by rw [setRow_size]; exact hcs
        have hVl2 : V.heap.size ≤ w2.heap.size := HW2.out.size
        have HTK := Lib.hid (tasksR_any hr2)
        have HG2 := Lib.hid hg2
        clear hr2 hg2 ho2 HRR HWA HWB
        obtain ⟨rw2, hrw2⟩ : ∃ q, q = rowN 2 (many rdPt k s).2 := ⟨_, rfl⟩
        rw [← hrw2] at HRL HPT hcs2 HTK HG2
        rw [← hrw2] at *
        clear hrw2
        go_wp2_with fail
        refine HTK.out.mono ?_
        rintro e w3 ⟨tv, rfl, hts, hr3, ho3⟩
        have hg3 : w3.heap[g]? = some (.cells (setRow cur (k * 3) rw2.1) 28 (0, 0)) := (ho3.block g (Array.getElem?_eq_some_iff.1 HG2.out).1 (Ne.symm hrg)).trans HG2.out
        have hsz3 : k * 3 + 2 < (setRow cur (k * 3) rw2.1).size := by rw [hcs2]; omega
        have f1 : w3.frozen? ⟨g, k * 3 + 2, none⟩ = false := frozen_of_row w3 g (k * 3 + 2) _ _ hg3
        obtain ⟨z, c1⟩ : ∃ z, w3.cell? ⟨g, k * 3 + 2, none⟩ = some z := ⟨(setRow cur (k * 3) rw2.1)[k * 3 + 2], by rw [cell_of_row w3 g (k * 3 + 2) _ _ _ hg3]; exact Array.getElem?_eq_getElem hsz3⟩
        have htv : ∀ z, tv ≠ .int .u8 z := by obtain ⟨a, cap, rfl, _⟩ := hts.slice; exact fun z h => by cases h
        have hnb3 : NB (setRow cur (k * 3) rw2.1) := HNB.out.row
        have HNB2 : Hid (NB ((setRow cur (k * 3) rw2.1).setIfInBounds (k * 3 + 2) tv)) := hnb3.set _ htv
        have HR2 : Hid (RD (w3.setCell ⟨g, k * 3 + 2, none⟩ tv) rb (many rdPt (k + 1) s).2.1 (many rdPt (k + 1) s).2.2) := by rw [HS.out, HPT.out]; exact hr3.setg hg3 hnb3 hrg _ _
        have HG3 : Hid ((w3.setCell ⟨g, k * 3 + 2, none⟩ tv).heap[g]? = some (.cells ((setRow cur (k * 3) rw2.1).setIfInBounds (k * 3 + 2) tv) 28 (0, 0))) := heap_set_same hg3
        have ho3' : Only (fun b => b = rb ∨ b = g) w2 w3 := ho3.mono fun j _ h => Or.inl h
        have ho4 : Only (fun b => b = rb ∨ b = g) w2 (w3.setCell ⟨g, k * 3 + 2, none⟩ tv) := ho3'.setCell (Or.inl (Or.inr rfl)) _
        have HW3 : Hid (Only (fun b => b = rb ∨ b = g) V (w3.setCell ⟨g, k * 3 + 2, none⟩ tv)) := HW2.out.trans ho4
        have ho5 : Only (fun b => b = g) w3 (w3.setCell ⟨g, k * 3 + 2, none⟩ tv) := Only.setCell (S := fun b => b = g) (a := w3) (b := w3) (Only.refl _ w3) (p := ⟨g, k * 3 + 2, none⟩) (Or.inl rfl) tv
        have hkp : Kp V.heap.size w3 (w3.setCell ⟨g, k * 3 + 2, none⟩ tv) := Kp.only ho5 (fun b hb => by omega)
        have hkp2 : Kp V.heap.size wr (w3.setCell ⟨g, k * 3 + 2, none⟩ tv) := Kp.only (HWR2.out.trans ho4) (fun b hb => by omega)
        have HF2 : Hid (FPt (w3.setCell ⟨g, k * 3 + 2, none⟩ tv) V.heap.size ((setRow cur (k * 3) rw2.1).setIfInBounds (k * 3 + 2) tv) (many rdPt (k + 1) s).1) := by
          rw [HS.out, HPT.out]
          have := HF.out.step (r := rw2.1) hkp2 HRL.out (by rw [HL.out, hcs]; omega) ((SS.mono hts hVl2).keep hkp)
          rw [HL.out] at this
          exact this
        have hcs3 : ((setRow cur (k * 3) rw2.1).setIfInBounds (k * 3 + 2) tv).size = n * 3 := by rw [Array.size_setIfInBounds]; exact hcs2
        obtain ⟨ta, tcap, hta, _⟩ := hts.slice
        generalize (setRow cur (k * 3) rw2.1).setIfInBounds (k * 3 + 2) tv = cur3 at *
        clear hts hr3 ho3 ho3' ho5 hg3 hsz3 htv hnb3 ho4 hkp hkp2 HTK HG2 HF
        subst hta
        go_wp2_with fail
        go_roundw
        case rel => exact ⟨k + 1, cur3, by omega, by go_num, hcs3, HNB2, HF2, HG3, HR2, HW3⟩
        case measure => simp [intOf]; omega
    · have e : k = n := by omega
      subst e
      have HL : Hid ((many rdPt k s).1.length = k) := many_length _ _ _
      have HFIN : Hid (PS wr w.heap.size (.slice (some ⟨g, 0, none⟩) k k) (many rdPt k s).1) := by
        refine ⟨some ⟨g, 0, none⟩, k, by rw [HL.out], by rw [HL.out]; exact Nat.le_refl _, by unfold maxLen; omega, (fun h => by cases h), fun hp => ⟨g, 0, rfl, hgw, fun i hi => ?_⟩⟩
        obtain ⟨h1, h2, tv, h3, h4⟩ := HF.out i hi
        refine ⟨?_, ?_, tv, ?_, h4.mono (by omega)⟩
        · rw [cell_of_row wr g _ _ _ _ HG.out, Nat.zero_add]; exact h1
        · rw [cell_of_row wr g _ _ _ _ HG.out, Nat.zero_add]; exact h2
        · rw [cell_of_row wr g _ _ _ _ HG.out, Nat.zero_add]; exact h3
      have HOP : Hid (OwnPt wr w.heap.size (.slice (some ⟨g, 0, none⟩) k k) (many rdPt k s).1.length) := Or.inr ⟨g, k, cur, by rw [HL.out], hgw, HG.out⟩
      have HOF : Hid (Only (fun b => b = rb) w wr) := HOV.out.trans' HW.out (fun j hj h => by rcases h with h | h <;> omega)
      clear HF HG HW
      go_wp2_with fail
      go_ret
      exact ⟨_, rfl, HFIN.out, HOP.out, HR.out, HOF.out⟩
end Go.Proofs.Ythbhkcofhhkcoaa
