/- StackPlays, where there are too many tasks. -/
import Derived.Test.YtmheggedlepdlaaStaY
namespace Go.Proofs.Ytmheggedlepdlaa
open Go.RowKit Lv Sk Go.Sort
set_option linter.unusedVariables false

set_option maxRecDepth 100000 in
set_option maxHeartbeats 8000000 in
theorem plays_big {w : World} {v u : Value} {nt n : Nat} {z d : Nat → Nat → Int} (ht : TK w v nt z) (hd : DS w u n d) (h4 : 4 < nt) : Calls Try.prog 3 #[v, u] w (TrueB w) := by
  obtain ⟨a, cap, rfl, hn1, hn2⟩ := hd.slice
  obtain ⟨va, vcap, rfl, hv1, hv2⟩ := ht.slice
  have hmx : n ≤ 9223372036854775807 := by unfold maxLen at hn2; omega
  obtain ⟨m, hm⟩ : ∃ m : Nat, m = min nt 6 := ⟨_, rfl⟩
  have hmin : (if (6 : Int) < (nt : Int) then 6 else (nt : Int)) = (m : Int) := by split <;> omega
  have hmn : m ≤ nt := by omega
  have hmc : m ≤ vcap := by omega
  have hm0 : (0 : Int) ≤ m := by omega
  have hmcI : (m : Int) ≤ (vcap : Int) := by omega
  have hm6 : m ≤ 6 := by omega
  have h5 : ¬ m ≤ 4 := by omega
  have HTt := Lib.hid (ht.take hmn)
  obtain ⟨v1, w1, hrun, hnt, hb1⟩ := app_tnil HTt.out (by omega) 22
  obtain ⟨ia, ic, rfl⟩ := own_slice hnt
  have HRUN := Lib.hid hrun
  have HNT := Lib.hid hnt
  have HB1 := Lib.hid hb1
  clear hm ht hd hrun hnt hb1 h4
  go_enter Try.func3, Try.ntmps3
  go_upto_region 3 with (fail)
  clear hmin
  go_wp2_with (at_builtin; refine wpList_append_eq rfl _ _ 22 22 rfl _ _ _ _ rfl rfl HRUN.out ?_)
  refine (new_any HNT.out.tk).mono ?_
  intro e w2 hp
  unfold NewP at hp
  rw [if_neg h5] at hp
  obtain ⟨rfl, hb2⟩ := hp
  have HB2 := Lib.hid hb2
  clear hb2
  go_wp2_with fail
  refine (rnew_any (HTt.out.below (HB1.out.trans (HB2.out.mono HB1.out.size)))).mono ?_
  intro e w3 hp
  unfold RewP at hp
  rw [if_neg h5] at hp
  obtain ⟨rfl, hb3⟩ := hp
  have HIV := Lib.hid ((HNT.out.iv.below HB2.out).below (hb3.mono HB2.out.size))
  have HB3 := Lib.hid (HB1.out.trans ((chn HB2.out hb3).mono HB1.out.size))
  obtain ⟨G, hG⟩ : ∃ G, w1.heap.size = G := ⟨_, rfl⟩
  rw [hG] at HIV
  clear hb3 hG HB2 HNT HRUN HB1
  go_wp2_with fail
  go_loopw [10] (fun i wr => ∃ j : Nat, j ≤ m ∧ i = .int .i64 j ∧ Hid (IV wr w.heap.size G ia m z j) ∧ Hid (Below w.heap.size w wr)) (fun i _ => m - (intOf i).toNat)
  case atStart => exact ⟨0, Nat.zero_le _, rfl, HIV.out, HB3.out⟩
  case round =>
    clear HIV HB3
    obtain ⟨j, hj, rfl, HIV, HBr⟩ := hrel
    by_cases hjm : j < m
    · obtain ⟨g, rfl, hg1, hg2, hir⟩ := HIV.out (by omega)
      obtain ⟨b, off, rfl, tc⟩ := (HTt.out.below HBr.out).at hjm
      obtain ⟨c0, c1, c2, c3, c4, c5, c6, c7⟩ := tc
      have y0 := (hir.at hjm (x := 0) (by decide)).1
      have y1 := (hir.at hjm (x := 1) (by decide)).1
      have y2 := (hir.at hjm (x := 2) (by decide)).1
      have y3 := (hir.at hjm (x := 3) (by decide)).1
      have y4 := (hir.at hjm (x := 4) (by decide)).1
      have y5 := (hir.at hjm (x := 5) (by decide)).1
      have y6 := (hir.at hjm (x := 6) (by decide)).1
      have y7 := (hir.at hjm (x := 7) (by decide)).1
      have z0 := (hir.at hjm (x := 0) (by decide)).2
      have z1 := (hir.at hjm (x := 1) (by decide)).2
      have z2 := (hir.at hjm (x := 2) (by decide)).2
      have z3 := (hir.at hjm (x := 3) (by decide)).2
      have z4 := (hir.at hjm (x := 4) (by decide)).2
      have z5 := (hir.at hjm (x := 5) (by decide)).2
      have z6 := (hir.at hjm (x := 6) (by decide)).2
      have z7 := (hir.at hjm (x := 7) (by decide)).2
      rw [Nat.add_zero] at y0 z0
      have HN : Hid (∀ W, W.heap = wr.heap → W.os = wr.os → W.tape = wr.tape → W.output = wr.output → IV (w8 W g (j * 8) 0 0 0 0 0 0 0 0) w.heap.size G (some ⟨g, 0, none⟩) m z (j + 1) ∧ Below w.heap.size w (w8 W g (j * 8) 0 0 0 0 0 0 0 0)) := fun W q1 q2 q3 q4 => by
        have hbl : Below w.heap.size w W := HBr.out.trans ⟨q2, q3, q4, by rw [q1]; exact Nat.le_refl _, fun k _ => by rw [q1]⟩
        exact ⟨fun _ => ⟨g, rfl, hg1, hg2, (hir.keep (by rw [q1])).set8 _ _ _ _ _ _ _ _⟩, below_w8 hbl hg1 _ _ _ _ _ _ _ _ _⟩
      have hj0 : (0 : Int) ≤ j := by omega
      have hjI : (j : Int) < (m : Int) := by omega
      clear hir HIV HBr
      generalize z j 0 = x0 at *
      generalize z j 1 = x1 at *
      generalize z j 2 = x2 at *
      generalize z j 3 = x3 at *
      generalize z j 4 = x4 at *
      generalize z j 5 = x5 at *
      generalize z j 6 = x6 at *
      generalize z j 7 = x7 at *
      go_wp2_with fail
      go_quiet (fail)
      rename_i nq _
      have HN2 := Lib.hid (HN.out (wr.drewN nq) rfl rfl rfl rfl)
      have y0 : (wr.drewN nq).cell? ⟨g, j * 8, none⟩ = some (.int .i64 x0) := y0
      have y1 : (wr.drewN nq).cell? ⟨g, j * 8 + 1, none⟩ = some (.int .i64 x1) := y1
      have y2 : (wr.drewN nq).cell? ⟨g, j * 8 + 2, none⟩ = some (.int .i64 x2) := y2
      have y3 : (wr.drewN nq).cell? ⟨g, j * 8 + 3, none⟩ = some (.int .i64 x3) := y3
      have y4 : (wr.drewN nq).cell? ⟨g, j * 8 + 4, none⟩ = some (.int .i64 x4) := y4
      have y5 : (wr.drewN nq).cell? ⟨g, j * 8 + 5, none⟩ = some (.int .i64 x5) := y5
      have y6 : (wr.drewN nq).cell? ⟨g, j * 8 + 6, none⟩ = some (.int .i64 x6) := y6
      have y7 : (wr.drewN nq).cell? ⟨g, j * 8 + 7, none⟩ = some (.int .i64 x7) := y7
      have z0 : (wr.drewN nq).frozen? ⟨g, j * 8, none⟩ = false := z0
      have z1 : (wr.drewN nq).frozen? ⟨g, j * 8 + 1, none⟩ = false := z1
      have z2 : (wr.drewN nq).frozen? ⟨g, j * 8 + 2, none⟩ = false := z2
      have z3 : (wr.drewN nq).frozen? ⟨g, j * 8 + 3, none⟩ = false := z3
      have z4 : (wr.drewN nq).frozen? ⟨g, j * 8 + 4, none⟩ = false := z4
      have z5 : (wr.drewN nq).frozen? ⟨g, j * 8 + 5, none⟩ = false := z5
      have z6 : (wr.drewN nq).frozen? ⟨g, j * 8 + 6, none⟩ = false := z6
      have z7 : (wr.drewN nq).frozen? ⟨g, j * 8 + 7, none⟩ = false := z7
      clear HN c0 c1 c2 c3 c4 c5 c6 c7
      generalize wr.drewN nq = wy at *
      go_wp2_with fail
      go_roundw
      case rel => exact ⟨j + 1, by omega, by go_num, HN2.out.1, HN2.out.2⟩
      case measure => simp [intOf]; omega
    · obtain rfl : j = m := by omega
      clear HIV
      go_wp2_with fail
      go_loopw [11] (fun i wi => i = .int .i64 (0 : Nat) ∧ Hid (Below w.heap.size w wi)) (fun i _ => 0)
      case atStart => exact ⟨rfl, HBr.out⟩
      case round =>
        clear HBr
        obtain ⟨rfl, HBr⟩ := hrel
        by_cases hn0 : 0 < n
        · have hnI : (0 : Int) < (n : Int) := by omega
          go_wp2_with fail
          refine (works_any _).mono ?_
          rintro e w5 ⟨rfl, hb5⟩
          have HB5 := Lib.hid (chn HBr.out hb5)
          clear hb5
          go_wp2_with fail
          go_ret
          exact ⟨rfl, HB5.out⟩
        · obtain rfl : n = 0 := by omega
          go_wp2_with fail
          refine (works_any _).mono ?_
          rintro e w5 ⟨rfl, hb5⟩
          have HB5 := Lib.hid (chn HBr.out hb5)
          clear hb5
          go_wp2_with fail
          go_ret
          exact ⟨rfl, HB5.out⟩
theorem plays_any {w : World} {v u : Value} {nt n : Nat} {z d : Nat → Nat → Int} (ht : TK w v nt z) (hd : DS w u n d) : Calls Try.prog 3 #[v, u] w (TrueB w) := by
  by_cases h : nt ≤ 4
  · exact plays_small ht hd h
  · exact plays_big ht hd (by omega)
end Go.Proofs.Ytmheggedlepdlaa
