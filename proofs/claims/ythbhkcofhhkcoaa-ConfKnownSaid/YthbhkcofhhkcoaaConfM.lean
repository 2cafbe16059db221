/- Two configurations that are the same: the document's. -/
import Derived.Test.YthbhkcofhhkcoaaConfL
namespace Go.Proofs.Ythbhkcofhhkcoaa
open Go.RowKit Pk Cn
set_option linter.unusedVariables false

set_option maxHeartbeats 4000000 in
theorem rsame_any {w : World} {B C : Nat} {u v : Value} {c : Cf} (hu : CF w B u c) (hv : CF w C v c) : Calls Try.prog 20 #[u, v] w (YB true w) := by
  obtain ⟨pu, ou, rfl, hpu, hou⟩ := hu
  obtain ⟨pv, ov, rfl, hpv, hov⟩ := hv
  obtain ⟨ps, os⟩ := c
  dsimp only at hpu hou hpv hov
  obtain ⟨au, cu, rfl, nu1, nu2⟩ := hpu.slice
  obtain ⟨av, cv, rfl, nv1, nv2⟩ := hpv.slice
  obtain ⟨ao, co, rfl, mu1, mu2⟩ := hou.slice
  obtain ⟨aq, cq, rfl, mv1, mv2⟩ := hov.slice
  obtain ⟨n, hn⟩ : ∃ n, n = ps.length := ⟨_, rfl⟩
  obtain ⟨m, hm⟩ : ∃ m, m = os.length := ⟨_, rfl⟩
  rw [← hn] at hpu hpv nu1 nv1 ⊢
  rw [← hm] at hou hov mu1 mv1 ⊢
  have hmx : n ≤ 9223372036854775807 ∧ m ≤ 9223372036854775807 := by unfold maxLen at nu2 mu2; omega
  obtain ⟨W, hW⟩ : ∃ W, W = (w.alloc (.cells #[.slice au n cu, .slice ao m co] 25)).alloc (.cells #[.slice av n cv, .slice aq m cq] 25) := ⟨_, rfl⟩
  have hWB : Below w.heap.size w W := by rw [hW]; exact ((Below.refl _ w).alloc (Nat.le_refl _) _).alloc (by simp) _
  have hX1 : W.heap[w.heap.size]? = some (.cells #[.slice au n cu, .slice ao m co] 25 (0, 0)) := by rw [hW, Below.heap_alloc _ _ _ (by simp)]; exact heap_alloc_new w _
  have hX2 : W.heap[w.heap.size + 1]? = some (.cells #[.slice av n cv, .slice aq m cq] 25 (0, 0)) := by
    rw [hW]
    have := heap_alloc_new (w.alloc (.cells #[.slice au n cu, .slice ao m co] 25)) (.cells #[.slice av n cv, .slice aq m cq] 25)
    simpa using this
  have HPU := Lib.hid (hpu.below hWB); have HPV := Lib.hid (hpv.below hWB); have HOU := Lib.hid (hou.below hWB); have HOV := Lib.hid (hov.below hWB)
  have HX := Lib.hid (fun w' (b : Below W.heap.size W w') => And.intro (pz2 ((b.block _ (Array.getElem?_eq_some_iff.1 hX1).1).trans hX1)) (pz2 ((b.block _ (Array.getElem?_eq_some_iff.1 hX2).1).trans hX2)))
  have HWB := Lib.hid hWB; have HN := Lib.hid hn; have HM := Lib.hid hm
  clear hpu hpv hou hov hn hm hWB hX1 hX2 nu1 nv1 mu1 mv1
  go_enter Try.func20, Try.ntmps20
  go_wp2_with fail
  rw [← hW]
  clear hW
  go_loopw [5] (fun i wr => ∃ k : Nat, k ≤ n ∧ i = .int .i64 k ∧ Hid (Below W.heap.size W wr)) (fun i _ => n - (intOf i).toNat)
  case atStart => exact ⟨0, by omega, rfl, Below.refl _ _⟩
  case round =>
    obtain ⟨k, hk, rfl, HB⟩ := hrel
    obtain ⟨⟨x0, x1⟩, y0, y1⟩ := HX.out _ HB.out
    by_cases hlt : k < n
    · obtain ⟨b, off, tv, rfl, _, c1, c2, c3, hts⟩ := (HPU.out.below HB.out).at hlt
      obtain ⟨b', off', tv', rfl, _, d1, d2, d3, hts'⟩ := (HPV.out.below HB.out).at hlt
      generalize ps.getD k pt0 = p at *
      obtain ⟨per, bud, ts⟩ := p
      dsimp only at *
      obtain ⟨ta, tc, rfl, t1, t2⟩ := hts.slice
      obtain ⟨ta', tc', rfl, t1', t2'⟩ := hts'.slice
      obtain ⟨l, hl⟩ : ∃ l, l = ts.length := ⟨_, rfl⟩
      rw [← hl] at hts hts' c3 d3 t1
      have HLN := Lib.hid hl
      have HTU := Lib.hid hts; have HTV := Lib.hid hts'
      clear hl hts hts'
      have hlx : l ≤ 9223372036854775807 := by unfold maxLen at t2; omega
      have hgi : k < n := hlt
      go_wp2_with fail
      go_region_held3 (fun w' => w'.cell? ⟨w.heap.size, 0, none⟩ = some (.slice (some ⟨b, off, none⟩) n cu) ∧ w'.cell? ⟨w.heap.size + 1, 0, none⟩ = some (.slice (some ⟨b', off', none⟩) n cv) ∧ w'.cell? ⟨b, off + k * 3, none⟩ = some (.int .i64 per) ∧ w'.cell? ⟨b, off + k * 3 + 1, none⟩ = some (.int .i64 bud) ∧ w'.cell? ⟨b, off + k * 3 + 2, none⟩ = some (.slice ta l tc) ∧ w'.cell? ⟨b', off' + k * 3, none⟩ = some (.int .i64 per) ∧ w'.cell? ⟨b', off' + k * 3 + 1, none⟩ = some (.int .i64 bud) ∧ w'.cell? ⟨b', off' + k * 3 + 2, none⟩ = some (.slice ta' l tc')) (first | assumption | go_keep) (fail)
      · have hw1 : Below wr.heap.size wr (((wr.alloc (.cells #[.int .i64 per, .int .i64 bud, .slice ta l tc] 28)).alloc (.cells #[.int .i64 per, .int .i64 bud, .slice ta' l tc'] 28)).drew) := (((Below.refl _ wr).alloc (Nat.le_refl _) _).alloc (by simp) _).drew
        have hn1 : (((wr.alloc (.cells #[.int .i64 per, .int .i64 bud, .slice ta l tc] 28)).alloc (.cells #[.int .i64 per, .int .i64 bud, .slice ta' l tc'] 28)).drew).heap[wr.heap.size]? = some (.cells #[.int .i64 per, .int .i64 bud, .slice ta l tc] 28 (0, 0)) := (Below.heap_alloc _ _ _ (by simp)).trans (heap_alloc_new wr _)
        have hn2 : (((wr.alloc (.cells #[.int .i64 per, .int .i64 bud, .slice ta l tc] 28)).alloc (.cells #[.int .i64 per, .int .i64 bud, .slice ta' l tc'] 28)).drew).heap[wr.heap.size + 1]? = some (.cells #[.int .i64 per, .int .i64 bud, .slice ta' l tc'] 28 (0, 0)) := by
          have := heap_alloc_new (wr.alloc (.cells #[.int .i64 per, .int .i64 bud, .slice ta l tc] 28)) (.cells #[.int .i64 per, .int .i64 bud, .slice ta' l tc'] 28)
          rw [heap_size_alloc'] at this
          exact this
        generalize ((wr.alloc (.cells #[.int .i64 per, .int .i64 bud, .slice ta l tc] 28)).alloc (.cells #[.int .i64 per, .int .i64 bud, .slice ta' l tc'] 28)).drew = w2 at hw1 hn1 hn2 ⊢
        have hw2 : Below W.heap.size W w2 := HB.out.trans (hw1.mono HB.out.size)
        have hwr2 := hw1
        have hbx := And.intro hn1 hn2
        clear hw1 hn1 hn2
        have HBX := Lib.hid hbx; have HW2 := Lib.hid hw2
        have HTU2 := Lib.hid (TS.below HTU.out hwr2); have HTV2 := Lib.hid (TS.below HTV.out hwr2)
        obtain ⟨u0, u1, u2⟩ := pz_of hbx.1
        obtain ⟨v0, v1, v2⟩ := pz_of hbx.2
        clear hbx hw2 hwr2 HTU HTV
        go_wp2_with fail
        clear u0 u1 u2 v0 v1 v2
        go_loopw [8] (fun i wq => ∃ j : Nat, j ≤ l ∧ i = .int .i64 j ∧ Hid (Below w2.heap.size w2 wq)) (fun i _ => l - (intOf i).toNat)
        case atStart => exact ⟨0, by omega, rfl, Below.refl _ _⟩
        case round =>
          obtain ⟨j, hj, rfl, HQ⟩ := hrel
          obtain ⟨u0, u1, u2⟩ := pz_of ((HQ.out.block _ (Array.getElem?_eq_some_iff.1 HBX.out.1).1).trans HBX.out.1)
          obtain ⟨v0, v1, v2⟩ := pz_of ((HQ.out.block _ (Array.getElem?_eq_some_iff.1 HBX.out.2).1).trans HBX.out.2)
          by_cases hjl : j < l
          · obtain ⟨tb, toff, rfl, _, e0, e1, e2, e3, e4, e5, e6, e7⟩ := (HTU2.out.below HQ.out).at hjl
            obtain ⟨tb', toff', rfl, _, g0, g1, g2, g3, g4, g5, g6, g7⟩ := (HTV2.out.below HQ.out).at hjl
            generalize ts.getD j tk0 = tt at e0 e1 e2 e3 e4 e5 e6 e7 g0 g1 g2 g3 g4 g5 g6 g7
            obtain ⟨a0, a1, a2, a3, a4, a5, a6, a7⟩ := tt
            dsimp only at e0 e1 e2 e3 e4 e5 e6 e7 g0 g1 g2 g3 g4 g5 g6 g7
            have s1 := Try.eqGuardType30
            have s2 := Try.stoodInHeld30
            go_wp2_with fail
            go_quiet (fail)
            go_wp2_with fail
            go_roundw
            case rel => exact ⟨j + 1, by omega, by go_num, below_drewN HQ.out _⟩
            case measure => simp [intOf]; omega
          · have HF : Hid (Below W.heap.size W wr) := HW2.out.trans (HQ.out.mono HW2.out.size)
            clear HQ
            go_wp2_with fail
            go_roundw
            case rel => exact ⟨k + 1, by omega, by go_num, HF⟩
            case measure => simp [intOf]; omega
      · have hw1 : Below wr.heap.size wr (((wr.alloc (.cells #[.int .i64 per, .int .i64 bud, .slice ta' l tc'] 28)).alloc (.cells #[.int .i64 per, .int .i64 bud, .slice ta l tc] 28)).drew) := (((Below.refl _ wr).alloc (Nat.le_refl _) _).alloc (by simp) _).drew
        have hn1 : (((wr.alloc (.cells #[.int .i64 per, .int .i64 bud, .slice ta' l tc'] 28)).alloc (.cells #[.int .i64 per, .int .i64 bud, .slice ta l tc] 28)).drew).heap[wr.heap.size]? = some (.cells #[.int .i64 per, .int .i64 bud, .slice ta' l tc'] 28 (0, 0)) := (Below.heap_alloc _ _ _ (by simp)).trans (heap_alloc_new wr _)
        have hn2 : (((wr.alloc (.cells #[.int .i64 per, .int .i64 bud, .slice ta' l tc'] 28)).alloc (.cells #[.int .i64 per, .int .i64 bud, .slice ta l tc] 28)).drew).heap[wr.heap.size + 1]? = some (.cells #[.int .i64 per, .int .i64 bud, .slice ta l tc] 28 (0, 0)) := by
          have := heap_alloc_new (wr.alloc (.cells #[.int .i64 per, .int .i64 bud, .slice ta' l tc'] 28)) (.cells #[.int .i64 per, .int .i64 bud, .slice ta l tc] 28)
          rw [heap_size_alloc'] at this
          exact this
        generalize ((wr.alloc (.cells #[.int .i64 per, .int .i64 bud, .slice ta' l tc'] 28)).alloc (.cells #[.int .i64 per, .int .i64 bud, .slice ta l tc] 28)).drew = w2 at hw1 hn1 hn2 ⊢
        have hw2 : Below W.heap.size W w2 := HB.out.trans (hw1.mono HB.out.size)
        have hwr2 := hw1
        have hbx := And.intro hn2 hn1
        clear hw1 hn1 hn2
        have HBX := Lib.hid hbx; have HW2 := Lib.hid hw2
        have HTU2 := Lib.hid (TS.below HTU.out hwr2); have HTV2 := Lib.hid (TS.below HTV.out hwr2)
        obtain ⟨u0, u1, u2⟩ := pz_of hbx.1
        obtain ⟨v0, v1, v2⟩ := pz_of hbx.2
        clear hbx hw2 hwr2 HTU HTV
        go_wp2_with fail
        clear u0 u1 u2 v0 v1 v2
        go_loopw [8] (fun i wq => ∃ j : Nat, j ≤ l ∧ i = .int .i64 j ∧ Hid (Below w2.heap.size w2 wq)) (fun i _ => l - (intOf i).toNat)
        case atStart => exact ⟨0, by omega, rfl, Below.refl _ _⟩
        case round =>
          obtain ⟨j, hj, rfl, HQ⟩ := hrel
          obtain ⟨u0, u1, u2⟩ := pz_of ((HQ.out.block _ (Array.getElem?_eq_some_iff.1 HBX.out.1).1).trans HBX.out.1)
          obtain ⟨v0, v1, v2⟩ := pz_of ((HQ.out.block _ (Array.getElem?_eq_some_iff.1 HBX.out.2).1).trans HBX.out.2)
          by_cases hjl : j < l
          · obtain ⟨tb, toff, rfl, _, e0, e1, e2, e3, e4, e5, e6, e7⟩ := (HTU2.out.below HQ.out).at hjl
            obtain ⟨tb', toff', rfl, _, g0, g1, g2, g3, g4, g5, g6, g7⟩ := (HTV2.out.below HQ.out).at hjl
            generalize ts.getD j tk0 = tt at e0 e1 e2 e3 e4 e5 e6 e7 g0 g1 g2 g3 g4 g5 g6 g7
            obtain ⟨a0, a1, a2, a3, a4, a5, a6, a7⟩ := tt
            dsimp only at e0 e1 e2 e3 e4 e5 e6 e7 g0 g1 g2 g3 g4 g5 g6 g7
            have s1 := Try.eqGuardType30
            have s2 := Try.stoodInHeld30
            go_wp2_with fail
            go_quiet (fail)
            go_wp2_with fail
            go_roundw
            case rel => exact ⟨j + 1, by omega, by go_num, below_drewN HQ.out _⟩
            case measure => simp [intOf]; omega
          · have HF : Hid (Below W.heap.size W wr) := HW2.out.trans (HQ.out.mono HW2.out.size)
            clear HQ
            go_wp2_with fail
            go_roundw
            case rel => exact ⟨k + 1, by omega, by go_num, HF⟩
            case measure => simp [intOf]; omega
    · have e : k = n := by omega
      subst e
      go_wp2_with fail
      have HBk := HB
      clear x0 x1 y0 y1
      go_loopw [9] (fun i wq => ∃ j : Nat, j ≤ m ∧ i = .int .i64 j ∧ Hid (Below W.heap.size W wq)) (fun i _ => m - (intOf i).toNat)
      case atStart => exact ⟨0, by omega, rfl, HBk⟩
      case round =>
        clear HB HBk
        obtain ⟨j, hj, rfl, HB⟩ := hrel
        obtain ⟨⟨x0, x1⟩, y0, y1⟩ := HX.out _ HB.out
        by_cases hjm : j < m
        · obtain ⟨tb, toff, rfl, _, e0, e1, e2, e3, e4, e5⟩ := (HOU.out.below HB.out).at hjm
          obtain ⟨tb', toff', rfl, _, g0, g1, g2, g3, g4, g5⟩ := (HOV.out.below HB.out).at hjm
          generalize os.getD j po0 = tt at e0 e1 e2 e3 e4 e5 g0 g1 g2 g3 g4 g5
          obtain ⟨a0, a1, a2, a3, a4, a5⟩ := tt
          dsimp only at e0 e1 e2 e3 e4 e5 g0 g1 g2 g3 g4 g5
          have s1 := Try.eqGuardType32
          have s2 := Try.stoodInHeld32
          go_wp2_with fail
          go_quiet (fail)
          go_wp2_with fail
          go_roundw
          case rel => exact ⟨j + 1, by omega, by go_num, below_drewN HB.out _⟩
          case measure => simp [intOf]; omega
        · have HF : Hid (Below w.heap.size w wr) := HWB.out.trans (HB.out.mono HWB.out.size)
          go_wp2_with fail
          go_ret
          exact ⟨rfl, HF.out⟩
end Go.Proofs.Ythbhkcofhhkcoaa
