/- The program's Of; the periods in a row of the call's own. -/
import Derived.Test.YthhdfmpoebedcaaDemE
namespace Go.Proofs.Ythhdfmpoebedcaa
open Go.RowKit Tk De
set_option linter.unusedVariables false

theorem of_any {w : World} {v u : Value} {n : Nat} {z : Nat → Nat → Int} {xs : List Int} (h : TK w v n z) (hx : IS w u xs) (t : Int) :
    Calls Try.prog 38 #[v, u, .int .i64 t] w (TwoB (ofR n z xs t).1 (ofR n z xs t).2 w) := by
  have hA := (Below.refl _ w).alloc (Nat.le_refl _) (.cells #[.int .i64 t] 3)
  have HCk := Lib.hid (check_any (h.below hA) (hx.below hA))
  have HT := Lib.hid (h.below hA); have HX := Lib.hid (hx.below hA)
  have HA := Lib.hid hA
  have HBox := Lib.hid (cell_of_row (w.alloc (.cells #[.int .i64 t] 3)) w.heap.size 0 _ _ _ (heap_alloc_new w (.cells #[.int .i64 t] 3)))
  clear h hx hA
  cases hc : chk n z xs with
  | false =>
    have hcE : chkE n z xs = 2 := by unfold chkE; rw [hc]; rfl
    rw [hcE] at HCk
    have HO := Lib.hid (ofR_no1 (t := t) hc)
    clear hc hcE
    go_enter Try.func38, Try.ntmps38
    go_wp2_with fail
    refine HCk.out.mono ?_
    rintro e w1 ⟨rfl, hb⟩
    have HB := Lib.hid (HA.out.trans (hb.mono HA.out.size))
    clear hb
    go_wp2_with fail
    go_ret2
    exact ⟨by rw [HO.out]; rfl, HB.out⟩
  | true =>
    have hcE : chkE n z xs = 0 := by unfold chkE; rw [hc]; rfl
    rw [hcE] at HCk
    clear hcE
    cases ht : inn 0 1048576 t with
    | false =>
      have HO := Lib.hid (ofR_no2 (n := n) (z := z) (xs := xs) ht)
      have HW := Lib.hid (within_fit ht)
      clear hc ht
      go_enter Try.func38, Try.ntmps38
      go_wp2_with fail
      refine HCk.out.mono ?_
      rintro e w1 ⟨rfl, hb⟩
      have HB := Lib.hid (HA.out.trans (hb.mono HA.out.size))
      have cb := (hb.cell (World.block_lt_of_cell? _ _ HBox.out)).trans HBox.out
      clear hb
      go_wp2_with fail
      refine (HW.out _).mono ?_
      rintro e w2 ⟨rfl, rfl⟩
      go_wp2_with fail
      go_ret2
      exact ⟨by rw [HO.out]; rfl, HB.out⟩
    | true =>
      obtain ⟨T, rfl⟩ := inn_nat ht (by omega)
      have hT : T ≤ 1048576 := by have := inn_iff.1 ht; omega
      have HO := Lib.hid (ofR_ok hc hT)
      have HW := Lib.hid (within_fit ht)
      have HGd := Lib.hid (goods_of hc)
      clear hc ht
      go_enter Try.func38, Try.ntmps38
      go_wp2_with fail
      refine HCk.out.mono ?_
      rintro e w1 ⟨rfl, hb⟩
      have HB := Lib.hid (HA.out.trans (hb.mono HA.out.size))
      have cb := (hb.cell (World.block_lt_of_cell? _ _ HBox.out)).trans HBox.out
      have HAs := Lib.hid (askers_any (HT.out.below hb) (HX.out.below hb) HGd.out)
      clear hb HCk HA HT HX HBox
      go_wp2_with fail
      refine (HW.out _).mono ?_
      rintro e w2 ⟨rfl, rfl⟩
      go_wp2_with fail
      refine HAs.out.mono ?_
      rintro e w2 ⟨r, rfl, hav, hb⟩
      have HB2 := Lib.hid (chn HB.out hb)
      have cb2 := (hb.cell (World.block_lt_of_cell? _ _ cb)).trans cb
      have HS := Lib.hid (sum_of (tb := w.heap.size) (F := fun i => jobs (per z i) (dea z i) T * asks z xs i) hav HGd.out.t.n4 (by
        rw [dem_tot]
        have := HGd.out.dem_le hT (Nat.le_refl n)
        have := HGd.out.t.n4
        omega) (fun i hi W hW => by
          have h1 := HGd.out.t.at' i hi
          exact clo_any _ _ T _ h1.2.2.1 h1.2.2.2.1 h1.2.2.2.2.1 (by omega) hT (HGd.out.m i hi).2.2.2 ((hW.cell (World.block_lt_of_cell? _ _ cb2)).trans cb2)))
      rw [dem_tot] at HS
      clear hav hb HAs cb
      go_wp2_with fail
      refine HS.out.mono ?_
      rintro e w3 ⟨rfl, hb⟩
      have HB3 := Lib.hid (chn HB2.out hb)
      clear hb
      go_wp2_with fail
      go_ret2
      exact ⟨by rw [HO.out]; rfl, HB3.out⟩
/-- numbers of the call's own, all of its row -/
def NV (w : World) (B : Nat) (v : Value) (n : Nat) (F : Nat → Nat) : Prop :=
  ∃ g, v = .slice (some ⟨g, 0, none⟩) n n ∧ B ≤ g ∧ w.heap[g]? = some (.cells ((fs F n).map (Value.int .i64)).toArray 3 (0, 0))
theorem NV.below {w w' : World} {B n : Nat} {v : Value} {F : Nat → Nat} (h : NV w B v n F) (q : Below w.heap.size w w') : NV w' B v n F := by
  obtain ⟨g, h1, h2, h3⟩ := h
  exact ⟨g, h1, h2, (q.block g (lt_of_block h3)).trans h3⟩
theorem NV.is {w : World} {B n : Nat} {v : Value} {F : Nat → Nat} (h : NV w B v n F) (hn : n ≤ 4) : IS w v (fs F n) := by
  obtain ⟨g, rfl, h2, h3⟩ := h
  refine ⟨some ⟨g, 0, none⟩, n, by rw [fs_len], by rw [fs_len]; exact Nat.le_refl _, by unfold maxLen; omega, (fun h => by cases h), fun _ => ⟨g, 0, rfl, fun i hi => ?_⟩⟩
  rw [cell_of_row w g (0 + i) _ _ _ h3, List.getElem?_toArray, List.getElem?_map, Nat.zero_add, List.getElem?_eq_getElem hi]
  simp [List.getD, List.getElem?_eq_getElem hi]
theorem NV.own {w : World} {B n : Nat} {v : Value} {F : Nat → Nat} (h : NV w B v n F) (hn : n ≤ 4) : w.ownsRow B 3 1 v n ((fs F n).map (Value.int .i64)) := by
  obtain ⟨g, rfl, h2, h3⟩ := h
  refine ⟨by rw [List.length_map, fs_len, Nat.mul_one], Or.inr ⟨g, n, _, rfl, h2, h3, Nat.le_refl _, by unfold maxLen; omega, by simp [fs_len], ?_⟩⟩
  rw [List.take_of_length_le (by simp [fs_len])]
set_option maxRecDepth 100000 in
set_option maxHeartbeats 2000000 in
theorem periods_any {w : World} {v : Value} {n : Nat} {z : Nat → Nat → Int} (h : TK w v n z) (hgd : De.Good n z) :
    Calls Try.prog 29 #[v] w (fun e w' => ∃ r, e = .returned r ∧ NV w' w.heap.size r n (per z) ∧ Below w.heap.size w w') := by
  obtain ⟨i0, hi, hz0, hz1, hz2⟩ := info_parts infoIn
  obtain ⟨a, cap, rfl, hn1, hn2⟩ := h.slice
  have HP := Lib.hid h
  have HGd := Lib.hid hgd
  have hn4 := hgd.n4
  clear h hgd
  go_enter Try.func29, Try.ntmps29
  go_wp2_with (at_make; refine wpList_make_full _ rfl _ _ 38 rfl w.heap.size 3 i0 _ 1 Try.underlying38 hi hz0 hz1 .i64 .i64 _ _ n rfl rfl rfl rfl (by rw [hz2]; omega) (by unfold maxLen; omega) (Nat.le_refl _) ?_; intro V hown hgrow)
  obtain ⟨hg0, hsz0⟩ := own_full hown
  have HB0 := Lib.hid ((Below.refl w.heap.size w).grown hgrow (Nat.le_refl _) (fun k hk => by cases hk))
  have hF0 : FN (madeCells (Value.int .i64 0).cells (n * 1)) (per z) 0 n := by rw [Nat.mul_one]; exact FN.start (per z) n
  have HG0 := Lib.hid hg0
  have HF0 := Lib.hid hF0
  obtain ⟨g, hgg⟩ : ∃ g, g = w.heap.size := ⟨_, rfl⟩
  rw [← hgg] at HG0 HB0 ⊢
  have HGG := Lib.hid hgg
  clear hown hgrow hg0 hgg hF0 hsz0
  generalize madeCells (Value.int .i64 0).cells (n * 1) = cur0 at *
  go_wp2_with fail
  go_loopw [11] (fun i wr => ∃ (k : Nat) (cur : Array Value), k ≤ n ∧ i = .int .i64 k ∧ Hid (FN cur (per z) k n) ∧ Hid (wr.heap[g]? = some (.cells cur 3 (0, 0))) ∧ Hid (Below g w wr)) (fun i _ => n - (intOf i).toNat)
  case atStart => exact ⟨0, cur0, by omega, rfl, HF0, HG0, HB0⟩
  case round =>
    clear HG0 HB0 HF0
    obtain ⟨k, cur, hk, rfl, HF, HGc, HB⟩ := hrel
    by_cases hlt : k < n
    · have HB' : Hid (Below w.heap.size w wr) := by rw [← HGG.out]; exact HB.out
      obtain ⟨b1, off, rfl, c⟩ := (HP.out.below HB'.out).at hlt
      obtain ⟨c0, c1, c2, c3, c4, c5, c6, c7⟩ := c
      have e0 := (HGd.out.at' k hlt).1
      have HF2 := Lib.hid (HF.out.step hlt)
      have hcs := HF.out.size hk
      generalize per z k = P at *
      generalize z k 0 = z0 at *
      generalize z k 1 = z1 at *
      generalize z k 2 = z2 at *
      generalize z k 3 = z3 at *
      generalize z k 4 = z4 at *
      generalize z k 5 = z5 at *
      generalize z k 6 = z6 at *
      generalize z k 7 = z7 at *
      subst e0
      have HGw := Lib.hid ((((Below.refl _ wr).alloc (Nat.le_refl _) (.cells #[.int .i64 P, .int .i64 z1, .int .i64 z2, .int .i64 z3, .int .i64 z4, .int .i64 z5, .int .i64 z6, .int .i64 z7] 36)).block g (lt_of_block HGc.out)).trans HGc.out)
      have HBw := Lib.hid (HB.out.alloc (by rw [HGG.out]; exact HB'.out.size) (.cells #[.int .i64 P, .int .i64 z1, .int .i64 z2, .int .i64 z3, .int .i64 z4, .int .i64 z5, .int .i64 z6, .int .i64 z7] 36))
      obtain ⟨q0, f0⟩ := cell_at HGw.out (i := k) (by omega)
      have g0 : (wr.alloc (.cells #[.int .i64 P, .int .i64 z1, .int .i64 z2, .int .i64 z3, .int .i64 z4, .int .i64 z5, .int .i64 z6, .int .i64 z7] 36)).frozen? ⟨g, k, none⟩ = false := frozen_of_row _ _ k _ _ HGw.out
      have HG4 := Lib.hid (heap_set_same (i := k) (v := .int .i64 P) HGw.out)
      have HB4 := Lib.hid (HBw.out.setCell (p := ⟨g, k, none⟩) (Nat.le_refl _) (.int .i64 P))
      clear HF HGc HB HB' HGw HBw
      go_wp2_with fail
      go_roundw
      case rel => exact ⟨k + 1, _, by omega, by go_num, HF2, HG4, HB4⟩
      case measure => simp [intOf]; omega
    · obtain rfl : k = n := by omega
      have HB' : Hid (Below w.heap.size w wr) := by rw [← HGG.out]; exact HB.out
      have HN : Hid (NV wr w.heap.size (.slice (some ⟨g, 0, none⟩) k k) k (per z)) := ⟨g, rfl, by rw [HGG.out]; exact Nat.le_refl _, by rw [HGc.out, HF.out.done]⟩
      go_wp2_with fail
      go_ret
      exact ⟨_, rfl, HN.out, HB'.out⟩
theorem dvs_no {P : Nat → Nat} {N n k : Nat} (hk : k < n) (h : ¬ N % P k = 0) : dvs P N n = false := by
  cases e : dvs P N n with
  | false => rfl
  | true => exact absurd (dvs_iff.1 e k hk) h
theorem allDivide_any {w : World} {v : Value} {n : Nat} {P : Nat → Nat} (h : IS w v (fs P n)) (hn : n ≤ 4) (hP : ∀ i, i < n → 0 < P i) (N : Nat) (hN : N ≤ 1048576) :
    Calls Try.prog 31 #[.int .i64 N, v] w (IsB (dvs P N n) w) := by
  obtain ⟨a, cap, rfl, hn1, hn2⟩ := h.slice
  have HP := Lib.hid h
  have HPP := Lib.hid hP
  clear h hP
  rw [fs_len] at hn1 HP ⊢
  obtain ⟨R, hR⟩ : ∃ R, R = dvs P N n := ⟨_, rfl⟩
  have HR := Lib.hid hR
  rw [← hR]
  clear hR
  go_enter Try.func31, Try.ntmps31
  go_wp2_with fail
  go_loop [9] (fun i => ∃ k : Nat, k ≤ n ∧ i = .int .i64 k ∧ Hid (∀ j, j < k → N % P j = 0)) (fun i => n - (intOf i).toNat)
  case atStart => exact ⟨0, by omega, rfl, fun j hj => by omega⟩
  case round =>
    obtain ⟨k, hk, rfl, HA⟩ := hrel
    by_cases hlt : k < n
    · obtain ⟨b, off, rfl, c⟩ := HP.out.at hlt
      have hv : (fs P n).getD k 0 = (P k : Int) := by simp [fs, List.getD, hlt]
      rw [hv] at c
      have hp := HPP.out k hlt
      have HYes : Hid (N % P k = 0 → ∀ j, j < k + 1 → N % P j = 0) := fun h j hj => by
        by_cases e : j = k
        · rw [e]; exact h
        · exact HA.out j (by omega)
      have HNo : Hid (¬ N % P k = 0 → R = false) := fun h => HR.out.trans (dvs_no hlt h)
      clear hv HA
      generalize P k = p at *
      have hp0 : ((p : Int) == 0) = false := by simp; omega
      have hm : (N : Int) % p = ((N % p : Nat) : Int) := rfl
      generalize hq : N % p = q at *
      cases hz : decide (q = 0) with
      | true =>
        have hq0 := of_decide_eq_true hz
        subst hq0
        go_wp2_with fail
        go_round
        case rel => exact ⟨k + 1, by omega, by go_num, HYes.out rfl⟩
        case measure => simp [intOf]; omega
      | false =>
        have HE := Lib.hid (HNo.out (of_decide_eq_false hz))
        have hq0 : ((q : Int) != 0) = true := by have := of_decide_eq_false hz; simp; omega
        go_wp2_with fail
        go_ret
        exact ⟨by rw [HE.out]; rfl, rfl⟩
    · obtain rfl : k = n := by omega
      have HE : Hid (R = true) := HR.out.trans (dvs_iff.2 HA.out)
      go_wp2_with fail
      go_ret
      exact ⟨by rw [HE.out]; rfl, rfl⟩
end Go.Proofs.Ythhdfmpoebedcaa
