/- RankPlays: a rank answers, call by call, as the document's. -/
import Derived.Test.YtoiegoehebkjgaaWalksQ
import Derived.Test.YtoiegoehebkjgaaWalksK
namespace Go.Proofs.Ytoiegoehebkjgaa
open Go.RowKit Rk
set_option linter.unusedVariables false

theorem od_start {w w1 w2 : World} (k1 : RK w1 (w.heap.size + 1) w.heap.size w.heap.size 0 (fun _ => none)) (b1 : Below w.heap.size w w1) (k2 : RD w2 w.heap.size w1.heap.size w1.heap.size 0 (fun _ => none)) (b2 : Below w1.heap.size w1 w2) :
    OD w.heap.size w w2 (w.heap.size + 1) w.heap.size 0 (fun _ => none) w1.heap.size 0 (fun _ => none) (fun _ => False) := by
  have l0 := k1.lt0
  exact ⟨⟨_, _, k1.below b2, k2, ⟨Nat.le_refl _, b1.size⟩, by omega, fun k hk => hk.elim⟩, ⟨by omega, Nat.le_refl _, b1.size⟩, b1.trans (b2.mono b1.size)⟩
section
variable {B : Nat} {W w w' : World} {rb hb n1 : Nat} {m1 : Mp} {mb n2 : Nat} {m2 : Mp} {X : Nat → Prop}
theorem OD.b3 (h : OD B W w rb hb n1 m1 mb n2 m2 X) : B ≤ w.heap.size := h.size
theorem OD.set {k i : Nat} {v : Value} (h : OD B W w rb hb n1 m1 mb n2 m2 X) (hk : X k) (hB : B ≤ k) : OD B W (w.setCell ⟨k, i, none⟩ v) rb hb n1 m1 mb n2 m2 X := by
  obtain ⟨g, mg, k1, k2, x, ap, gd⟩ := h.ex
  have hd := gd k hk
  have hsz : (w.setCell ⟨k, i, none⟩ v).heap.size = w.heap.size := by simp [World.setCell]
  obtain ⟨l, r1, r2⟩ := k2.ex
  exact ⟨⟨g, mg, k1.keep (heap_set_other (by omega)) (heap_set_other (by omega)) (heap_set_other (by omega)), ⟨l, r1.keep (by omega) (heap_set_other (by omega)) (heap_set_other (by omega)), r2⟩, x, ap, fun q hq => by have := gd q hq; omega⟩, h.b, h.bel.setCell (by exact hB) _⟩
theorem od_ids (h : OD B W w rb hb n1 m1 mb n2 m2 X) (hN : n1 ≤ 80000) : Calls Try.prog 11 #[.pointer (some ⟨rb, 0, none⟩)] w (IdsP n1 m1 w) := by
  obtain ⟨g, mg, k1, _⟩ := h.ex
  exact ids_any w rb hb g n1 m1 k1 (by omega)
theorem od_rids (h : OD B W w rb hb n1 m1 mb n2 m2 X) (hN : n2 ≤ 80000) : Calls Try.prog 13 #[.pointer (some ⟨mb, 0, none⟩)] w (RidP n2 m2 w) := by
  obtain ⟨g, mg, k1, k2, _⟩ := h.ex
  exact rids_any w B mb mg n2 m2 k2 (by omega)
end
theorem ownsRow_mono {w : World} {B B' : Nat} {v : Value} {n : Nat} {xs : List Value} (h : w.ownsRow B 3 1 v n xs) (hB : B' ≤ B) : w.ownsRow B' 3 1 v n xs := by
  refine ⟨h.1, ?_⟩
  rcases h.2 with hn | ⟨g, cap, cur, hv, hb, r⟩
  · exact Or.inl hn
  · exact Or.inr ⟨g, cap, cur, hv, by omega, r⟩
theorem ownsRow_below {w w' : World} {B : Nat} {v : Value} {n : Nat} {xs : List Value} (h : w.ownsRow B 3 1 v n xs) (b : Below w.heap.size w w') : w'.ownsRow B 3 1 v n xs := by
  refine ⟨h.1, ?_⟩
  rcases h.2 with hn | ⟨g, cap, cur, hv, hb, hg, r⟩
  · exact Or.inl hn
  · exact Or.inr ⟨g, cap, cur, hv, hb, (b.block g (lt_of_heap hg)).trans hg, r⟩
set_option maxHeartbeats 400000 in
theorem eq_nil (a a' : Option Addr) (c c' : Nat) (w : World) : Calls Try.prog 12 #[.slice a 0 c, .slice a' 0 c'] w (TrueB w) := by
  go_enter Try.func12, Try.ntmps12
  go_wp2
  go_loop [5] (fun i => i = .int .i64 0) (fun _ => 0)
  case atStart => rfl
  case round =>
    subst hrel
    go_wp2
    go_ret
    exact ⟨rfl, Below.refl _ _⟩
theorem eq_rows (ga n : Nat) (P : List En) (v : Value) (w : World) {B : Nat} (hN : n ≤ 100000) (h1 : ∀ i, i < n → w.cell? ⟨ga, i, none⟩ = some (.int .i64 (P.getD i (0, 0)).1)) (h2 : w.ownsRow B 3 1 v n (idv P)) (hl : P.length = n) :
    Calls Try.prog 12 #[.slice (some ⟨ga, 0, none⟩) n n, v] w (TrueB w) := by
  rcases h2.2 with ⟨hv, hn⟩ | ⟨g, cap, cur, hv, _⟩
  · subst hv hn; exact eq_nil _ _ _ _ w
  · subst hv
    refine eq_cells ga g n cap n (fun i => (P.getD i (0, 0)).1) w hN h1 (fun i hi => ?_)
    rw [h2.cellAt i (by omega), idv, List.getElem?_map, List.getD_eq_getElem?_getD, List.getElem?_eq_getElem (by omega)]
    rfl

set_option maxRecDepth 100000 in
set_option maxHeartbeats 16000000 in
theorem plays_law (b off cap n0 : Nat) (zk zi zy : Nat → Int) (w : World) (hl : n0 ≤ 9223372036854775807) (hc : Calls3 w b off n0 zk zi zy) :
    Calls Try.prog 3 #[.slice (some ⟨b, off, none⟩) n0 cap] w (TrueB w) := by
  have HC := Lib.hid hc; clear hc
  go_enter Try.func3, Try.ntmps3
  go_wp2_with fail
  refine (new_any w).mono ?_
  rintro e w1 ⟨rfl, hk1, hb1⟩
  have HK1 := Lib.hid (And.intro hk1 hb1)
  clear hk1 hb1
  go_wp2_with fail
  refine (rnew_any w1 w.heap.size).mono ?_
  rintro e w2 ⟨rfl, hk2, hb2⟩
  have HS : ∃ rb hb mb, rb = w.heap.size + 1 ∧ mb = w1.heap.size ∧ Hid (OD w.heap.size w w2 rb hb 0 (fun _ => none) mb 0 (fun _ => none) (fun _ => False)) := ⟨_, _, _, rfl, rfl, od_start HK1.out.1 HK1.out.2 hk2 hb2⟩
  clear HK1 hk2 hb2
  obtain ⟨rb, hb, mb, hrb, hmb, HS⟩ := HS
  rw [← hrb, ← hmb]
  clear hrb hmb
  go_wp2_with fail
  go_loopw [5] (fun i wr => ∃ i' : Nat, i' ≤ 300 ∧ i = .int .i64 i' ∧ Hid (∃ n m, n ≤ i' ∧ OD w.heap.size w wr rb hb n m mb n m (fun _ => False))) (fun i _ => 300 - (intOf i).toNat)
  case atStart => exact ⟨0, Nat.zero_le _, rfl, _, _, Nat.le_refl _, HS⟩
  case round =>
    clear HS
    obtain ⟨i, hi, rfl, HO⟩ := hrel
    by_cases hg : i < n0 ∧ i < 300
    · obtain ⟨hin, hi3⟩ := hg
      have hd1 : decide ((i : Int) < 300) = true := by simp; omega
      obtain ⟨n, m, hni, hod⟩ := HO.out
      have H := Lib.hid hod
      obtain ⟨i1, i2, i3⟩ := Calls3.below HC.out hod.bel i hin
      clear hod HO
      go_wp2_with fail
      refine (step_any w.heap.size w wr rb hb n m mb (zk i) (zi i) (zy i) H.out (by omega)).mono ?_
      rintro e w3 ⟨rfl, n', m', hod3, hle⟩
      have H3 := Lib.hid hod3
      obtain ⟨j1, j2, j3⟩ := Calls3.below HC.out hod3.bel i hin
      clear hod3 H i1 i2 i3
      go_wp2_with fail
      refine (same_any w.heap.size w w3 rb hb n' m' mb _ (zi i) H3.out (by omega)).mono ?_
      rintro e w4 ⟨rfl, hod4⟩
      have H4 : Hid (∃ n m, n ≤ i + 1 ∧ OD w.heap.size w w4 rb hb n m mb n m (fun _ => False)) := ⟨n', m', by omega, hod4⟩
      clear hod4 H3 j1 j2 j3
      go_wp2_with fail
      go_roundw
      case rel => exact ⟨i + 1, by omega, by go_num, H4⟩
      case measure => simp [intOf]; omega
    · by_cases hin : i < n0
      · have hd1 : decide ((i : Int) < 300) = false := by simp; omega
        obtain ⟨n, m, hni, hod⟩ := HO.out
        have hn : n ≤ 70000 := by omega
        have H := Lib.hid hod
        have hBr := hod.size
        clear hod HO
        go_wp2_with fail
        refine (od_ids H.out (by omega)).mono ?_
        rintro e w3 ⟨ga, P, rfl, hP, hPl, hPo, hb3⟩
        have hga := hPo.lt ga rfl
        have H3 := Lib.hid (H.out.fresh hb3 hga.1 hga.2)
        have HP := Lib.hid hP
        have HPl := Lib.hid hPl
        have HPo := Lib.hid hPo
        clear hP hPl hPo hb3 H
        go_wp2_with fail
        refine (od_rids H3.out (by omega)).mono ?_
        rintro e w4 ⟨v4, P', rfl, hP', hPl', hPo', hb4⟩
        obtain rfl : P = P' := HP.out.unique hP'
        have H4 := Lib.hid (H3.out.below hb4)
        have HV4 := Lib.hid hPo'
        have HC4 : Hid (∀ i, i < n → w4.cell? ⟨ga, i, none⟩ = some (.int .i64 (P.getD i (0, 0)).1)) := fun i hi => (hb4.cell (p := ⟨ga, i, none⟩) hga.2).trans (ids_cell HPo.out HPl.out i hi)
        have HR4 : Hid (∃ xs, w4.ownsRow w.heap.size 3 1 (.slice (some ⟨ga, 0, none⟩) n n) n xs) := ⟨_, ownsRow_mono (ownsRow_below HPo.out hb4) hBr⟩
        clear hP' hPl' hPo' hb4 H3 HPo
        go_wp2_with fail
        refine (eq_rows ga n P v4 w4 (by omega) HC4.out HV4.out HPl.out).mono ?_
        rintro e w5 ⟨rfl, hb5⟩
        have H5 := Lib.hid (H4.out.below hb5)
        have HR5 : Hid (∃ xs, w5.ownsRow w.heap.size 3 1 (.slice (some ⟨ga, 0, none⟩) n n) n xs) := by obtain ⟨xs, hx⟩ := HR4.out; exact ⟨xs, ownsRow_below hx hb5⟩
        clear hb5 H4 HR4 HC4 HV4
        go_wp2_with fail
        go_loopw [7] (fun j wr => ∃ j' : Nat, j' ≤ n ∧ j = .int .i64 j' ∧ Hid (OD w.heap.size w wr rb hb n m mb n m (fun q => q = ga)) ∧ Hid (∃ xs, wr.ownsRow w.heap.size 3 1 (.slice (some ⟨ga, 0, none⟩) n n) n xs)) (fun j _ => n - (intOf j).toNat)
        case atStart => exact ⟨0, Nat.zero_le _, rfl, H5, HR5⟩
        case round =>
          clear H5 HR5
          obtain ⟨j, hj, rfl, H5, HR5⟩ := hrel
          by_cases hjn : j < n
          · obtain ⟨xs, hx⟩ := HR5.out
            have hlen : xs.length = n * 1 := hx.1
            obtain ⟨u, hu⟩ : ∃ u, wr.cell? ⟨ga, j, none⟩ = some u := ⟨_, (hx.cellAt j (by omega)).trans (List.getElem?_eq_getElem (by omega))⟩
            have hfz := hx.frozenAt j
            have H6 := Lib.hid (H5.out.set (i := j) (v := .int .i64 (-1)) rfl (hx.lt ga rfl).1)
            have HR6 : Hid (∃ xs, (wr.setCell ⟨ga, j, none⟩ (.int .i64 (-1))).ownsRow w.heap.size 3 1 (.slice (some ⟨ga, 0, none⟩) n n) n xs) := ⟨_, (hx.stored j _).1⟩
            clear hlen hx H5 HR5
            go_wp2_with fail
            go_roundw
            case rel => exact ⟨j + 1, by omega, by go_num, H6, HR6⟩
            case measure => simp [intOf]; omega
          · obtain rfl : n = j := by omega
            clear HR5
            go_wp2_with fail
            refine (od_ids H5.out (by omega)).mono ?_
            rintro e w6 ⟨gb, Q, rfl, hQ, hQl, hQo, hb6⟩
            have hgb := hQo.lt gb rfl
            have H6 := Lib.hid (H5.out.below hb6)
            have HQ := Lib.hid hQ
            have HQl := Lib.hid hQl
            have HQo := Lib.hid hQo
            clear hQ hQl hQo hb6 H5
            go_wp2_with fail
            refine (od_rids H6.out (by omega)).mono ?_
            rintro e w7 ⟨v7, Q', rfl, hQ', hQl', hQo', hb7⟩
            obtain rfl : Q = Q' := HQ.out.unique hQ'
            have H7 := Lib.hid (H6.out.below hb7)
            have HV7 := Lib.hid hQo'
            have HC7 : Hid (∀ i, i < n → w7.cell? ⟨gb, i, none⟩ = some (.int .i64 (Q.getD i (0, 0)).1)) := fun i hi => (hb7.cell (p := ⟨gb, i, none⟩) hgb.2).trans (ids_cell HQo.out HQl.out i hi)
            clear hQ' hQl' hQo' hb7 H6 HQo
            go_wp2_with fail
            refine (eq_rows gb n Q v7 w7 (by omega) HC7.out HV7.out HQl.out).mono ?_
            rintro e w8 ⟨rfl, hb8⟩
            have H8 := Lib.hid (H7.out.below hb8)
            clear hb8 H7 HC7 HV7
            go_wp2_with fail
            refine (works_any w8).mono ?_
            rintro e w9 ⟨rfl, hb9⟩
            have H9 := Lib.hid (H8.out.below hb9)
            clear hb9 H8
            go_wp2_with fail
            go_ret
            exact ⟨rfl, H9.out.bel⟩
      · have hd0 : decide ((i : Int) < (n0 : Int)) = false := by simp; omega
        obtain ⟨n, m, hni, hod⟩ := HO.out
        have hn : n ≤ 70000 := by omega
        have H := Lib.hid hod
        have hBr := hod.size
        clear hod HO
        go_wp2_with fail
        refine (od_ids H.out (by omega)).mono ?_
        rintro e w3 ⟨ga, P, rfl, hP, hPl, hPo, hb3⟩
        have hga := hPo.lt ga rfl
        have H3 := Lib.hid (H.out.fresh hb3 hga.1 hga.2)
        have HP := Lib.hid hP
        have HPl := Lib.hid hPl
        have HPo := Lib.hid hPo
        clear hP hPl hPo hb3 H
        go_wp2_with fail
        refine (od_rids H3.out (by omega)).mono ?_
        rintro e w4 ⟨v4, P', rfl, hP', hPl', hPo', hb4⟩
        obtain rfl : P = P' := HP.out.unique hP'
        have H4 := Lib.hid (H3.out.below hb4)
        have HV4 := Lib.hid hPo'
        have HC4 : Hid (∀ i, i < n → w4.cell? ⟨ga, i, none⟩ = some (.int .i64 (P.getD i (0, 0)).1)) := fun i hi => (hb4.cell (p := ⟨ga, i, none⟩) hga.2).trans (ids_cell HPo.out HPl.out i hi)
        have HR4 : Hid (∃ xs, w4.ownsRow w.heap.size 3 1 (.slice (some ⟨ga, 0, none⟩) n n) n xs) := ⟨_, ownsRow_mono (ownsRow_below HPo.out hb4) hBr⟩
        clear hP' hPl' hPo' hb4 H3 HPo
        go_wp2_with fail
        refine (eq_rows ga n P v4 w4 (by omega) HC4.out HV4.out HPl.out).mono ?_
        rintro e w5 ⟨rfl, hb5⟩
        have H5 := Lib.hid (H4.out.below hb5)
        have HR5 : Hid (∃ xs, w5.ownsRow w.heap.size 3 1 (.slice (some ⟨ga, 0, none⟩) n n) n xs) := by obtain ⟨xs, hx⟩ := HR4.out; exact ⟨xs, ownsRow_below hx hb5⟩
        clear hb5 H4 HR4 HC4 HV4
        go_wp2_with fail
        go_loopw [7] (fun j wr => ∃ j' : Nat, j' ≤ n ∧ j = .int .i64 j' ∧ Hid (OD w.heap.size w wr rb hb n m mb n m (fun q => q = ga)) ∧ Hid (∃ xs, wr.ownsRow w.heap.size 3 1 (.slice (some ⟨ga, 0, none⟩) n n) n xs)) (fun j _ => n - (intOf j).toNat)
        case atStart => exact ⟨0, Nat.zero_le _, rfl, H5, HR5⟩
        case round =>
          clear H5 HR5
          obtain ⟨j, hj, rfl, H5, HR5⟩ := hrel
          by_cases hjn : j < n
          · obtain ⟨xs, hx⟩ := HR5.out
            have hlen : xs.length = n * 1 := hx.1
            obtain ⟨u, hu⟩ : ∃ u, wr.cell? ⟨ga, j, none⟩ = some u := ⟨_, (hx.cellAt j (by omega)).trans (List.getElem?_eq_getElem (by omega))⟩
            have hfz := hx.frozenAt j
            have H6 := Lib.hid (H5.out.set (i := j) (v := .int .i64 (-1)) rfl (hx.lt ga rfl).1)
            have HR6 : Hid (∃ xs, (wr.setCell ⟨ga, j, none⟩ (.int .i64 (-1))).ownsRow w.heap.size 3 1 (.slice (some ⟨ga, 0, none⟩) n n) n xs) := ⟨_, (hx.stored j _).1⟩
            clear hlen hx H5 HR5
            go_wp2_with fail
            go_roundw
            case rel => exact ⟨j + 1, by omega, by go_num, H6, HR6⟩
            case measure => simp [intOf]; omega
          · obtain rfl : n = j := by omega
            clear HR5
            go_wp2_with fail
            refine (od_ids H5.out (by omega)).mono ?_
            rintro e w6 ⟨gb, Q, rfl, hQ, hQl, hQo, hb6⟩
            have hgb := hQo.lt gb rfl
            have H6 := Lib.hid (H5.out.below hb6)
            have HQ := Lib.hid hQ
            have HQl := Lib.hid hQl
            have HQo := Lib.hid hQo
            clear hQ hQl hQo hb6 H5
            go_wp2_with fail
            refine (od_rids H6.out (by omega)).mono ?_
            rintro e w7 ⟨v7, Q', rfl, hQ', hQl', hQo', hb7⟩
            obtain rfl : Q = Q' := HQ.out.unique hQ'
            have H7 := Lib.hid (H6.out.below hb7)
            have HV7 := Lib.hid hQo'
            have HC7 : Hid (∀ i, i < n → w7.cell? ⟨gb, i, none⟩ = some (.int .i64 (Q.getD i (0, 0)).1)) := fun i hi => (hb7.cell (p := ⟨gb, i, none⟩) hgb.2).trans (ids_cell HQo.out HQl.out i hi)
            clear hQ' hQl' hQo' hb7 H6 HQo
            go_wp2_with fail
            refine (eq_rows gb n Q v7 w7 (by omega) HC7.out HV7.out HQl.out).mono ?_
            rintro e w8 ⟨rfl, hb8⟩
            have H8 := Lib.hid (H7.out.below hb8)
            clear hb8 H7 HC7 HV7
            go_wp2_with fail
            refine (works_any w8).mono ?_
            rintro e w9 ⟨rfl, hb9⟩
            have H9 := Lib.hid (H8.out.below hb9)
            clear hb9 H8
            go_wp2_with fail
            go_ret
            exact ⟨rfl, H9.out.bel⟩

set_option maxRecDepth 100000 in
set_option maxHeartbeats 16000000 in
theorem plays_nil (a : Option Addr) (cap : Nat) (w : World) : Calls Try.prog 3 #[.slice a 0 cap] w (TrueB w) := by
  go_enter Try.func3, Try.ntmps3
  go_wp2_with fail
  refine (new_any w).mono ?_
  rintro e w1 ⟨rfl, hk1, hb1⟩
  have HK1 := Lib.hid (And.intro hk1 hb1)
  clear hk1 hb1
  go_wp2_with fail
  refine (rnew_any w1 w.heap.size).mono ?_
  rintro e w2 ⟨rfl, hk2, hb2⟩
  have HS : ∃ rb hb mb, rb = w.heap.size + 1 ∧ mb = w1.heap.size ∧ Hid (OD w.heap.size w w2 rb hb 0 (fun _ => none) mb 0 (fun _ => none) (fun _ => False)) := ⟨_, _, _, rfl, rfl, od_start HK1.out.1 HK1.out.2 hk2 hb2⟩
  clear HK1 hk2 hb2
  obtain ⟨rb, hb, mb, hrb, hmb, HS⟩ := HS
  rw [← hrb, ← hmb]
  clear hrb hmb
  go_wp2_with fail
  go_loopw [5] (fun i wr => ∃ i' : Nat, i' ≤ 0 ∧ i = .int .i64 i' ∧ Hid (∃ n m, n ≤ i' ∧ OD w.heap.size w wr rb hb n m mb n m (fun _ => False))) (fun i _ => 300 - (intOf i).toNat)
  case atStart => exact ⟨0, Nat.zero_le _, rfl, _, _, Nat.le_refl _, HS⟩
  case round =>
    clear HS
    obtain ⟨i, hi, rfl, HO⟩ := hrel
    have hd0 : decide ((i : Int) < 0) = false := by simp
    obtain ⟨n, m, hni, hod⟩ := HO.out
    have hn : n ≤ 70000 := by omega
    have H := Lib.hid hod
    have hBr := hod.size
    clear hod HO
    go_wp2_with fail
    refine (od_ids H.out (by omega)).mono ?_
    rintro e w3 ⟨ga, P, rfl, hP, hPl, hPo, hb3⟩
    have hga := hPo.lt ga rfl
    have H3 := Lib.hid (H.out.fresh hb3 hga.1 hga.2)
    have HP := Lib.hid hP
    have HPl := Lib.hid hPl
    have HPo := Lib.hid hPo
    clear hP hPl hPo hb3 H
    go_wp2_with fail
    refine (od_rids H3.out (by omega)).mono ?_
    rintro e w4 ⟨v4, P', rfl, hP', hPl', hPo', hb4⟩
    obtain rfl : P = P' := HP.out.unique hP'
    have H4 := Lib.hid (H3.out.below hb4)
    have HV4 := Lib.hid hPo'
    have HC4 : Hid (∀ i, i < n → w4.cell? ⟨ga, i, none⟩ = some (.int .i64 (P.getD i (0, 0)).1)) := fun i hi => (hb4.cell (p := ⟨ga, i, none⟩) hga.2).trans (ids_cell HPo.out HPl.out i hi)
    have HR4 : Hid (∃ xs, w4.ownsRow w.heap.size 3 1 (.slice (some ⟨ga, 0, none⟩) n n) n xs) := ⟨_, ownsRow_mono (ownsRow_below HPo.out hb4) hBr⟩
    clear hP' hPl' hPo' hb4 H3 HPo
    go_wp2_with fail
    refine (eq_rows ga n P v4 w4 (by omega) HC4.out HV4.out HPl.out).mono ?_
    rintro e w5 ⟨rfl, hb5⟩
    have H5 := Lib.hid (H4.out.below hb5)
    have HR5 : Hid (∃ xs, w5.ownsRow w.heap.size 3 1 (.slice (some ⟨ga, 0, none⟩) n n) n xs) := by obtain ⟨xs, hx⟩ := HR4.out; exact ⟨xs, ownsRow_below hx hb5⟩
    clear hb5 H4 HR4 HC4 HV4
    go_wp2_with fail
    go_loopw [7] (fun j wr => ∃ j' : Nat, j' ≤ n ∧ j = .int .i64 j' ∧ Hid (OD w.heap.size w wr rb hb n m mb n m (fun q => q = ga)) ∧ Hid (∃ xs, wr.ownsRow w.heap.size 3 1 (.slice (some ⟨ga, 0, none⟩) n n) n xs)) (fun j _ => n - (intOf j).toNat)
    case atStart => exact ⟨0, Nat.zero_le _, rfl, H5, HR5⟩
    case round =>
      clear H5 HR5
      obtain ⟨j, hj, rfl, H5, HR5⟩ := hrel
      by_cases hjn : j < n
      · exact absurd hjn (by omega)
      · obtain rfl : n = j := by omega
        clear HR5
        go_wp2_with fail
        refine (od_ids H5.out (by omega)).mono ?_
        rintro e w6 ⟨gb, Q, rfl, hQ, hQl, hQo, hb6⟩
        have hgb := hQo.lt gb rfl
        have H6 := Lib.hid (H5.out.below hb6)
        have HQ := Lib.hid hQ
        have HQl := Lib.hid hQl
        have HQo := Lib.hid hQo
        clear hQ hQl hQo hb6 H5
        go_wp2_with fail
        refine (od_rids H6.out (by omega)).mono ?_
        rintro e w7 ⟨v7, Q', rfl, hQ', hQl', hQo', hb7⟩
        obtain rfl : Q = Q' := HQ.out.unique hQ'
        have H7 := Lib.hid (H6.out.below hb7)
        have HV7 := Lib.hid hQo'
        have HC7 : Hid (∀ i, i < n → w7.cell? ⟨gb, i, none⟩ = some (.int .i64 (Q.getD i (0, 0)).1)) := fun i hi => (hb7.cell (p := ⟨gb, i, none⟩) hgb.2).trans (ids_cell HQo.out HQl.out i hi)
        clear hQ' hQl' hQo' hb7 H6 HQo
        go_wp2_with fail
        refine (eq_rows gb n Q v7 w7 (by omega) HC7.out HV7.out HQl.out).mono ?_
        rintro e w8 ⟨rfl, hb8⟩
        have H8 := Lib.hid (H7.out.below hb8)
        clear hb8 H7 HC7 HV7
        go_wp2_with fail
        refine (works_any w8).mono ?_
        rintro e w9 ⟨rfl, hb9⟩
        have H9 := Lib.hid (H8.out.below hb9)
        clear hb9 H8
        go_wp2_with fail
        go_ret
        exact ⟨rfl, H9.out.bel⟩

/-- the law of any calls that came in -/
theorem plays_any (a : Option Addr) (cap n : Nat) (w : World) (hc : (a = none ∧ n = 0 ∧ cap = 0) ∨ ∃ (x : Addr) (z : Nat → Nat → Int), a = some x ∧ n ≤ cap ∧ cap ≤ maxLen ∧ (0 < n → ∃ b off, x = ⟨b, off, none⟩ ∧ ∀ i j, i < n → j < 3 → w.cell? ⟨b, off + i * 3 + j, none⟩ = some (.int .i64 (z i j)))) :
    Calls Try.prog 3 #[.slice a n cap] w (TrueB w) := by
  rcases hc with ⟨rfl, rfl, rfl⟩ | ⟨x, z, rfl, hl, hm, hx⟩
  · exact plays_nil none 0 w
  · by_cases h0 : n = 0
    · subst h0; exact plays_nil _ cap w
    · obtain ⟨b, off, rfl, h⟩ := hx (by omega)
      unfold maxLen at hm
      exact plays_law b off cap n (fun i => z i 0) (fun i => z i 1) (fun i => z i 2) w (by omega) (fun i hi => ⟨h i 0 hi (by omega), h i 1 hi (by omega), h i 2 hi (by omega)⟩)

end Go.Proofs.Ytoiegoehebkjgaa
