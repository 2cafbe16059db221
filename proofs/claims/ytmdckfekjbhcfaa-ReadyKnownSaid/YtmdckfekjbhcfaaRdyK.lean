/- Queues that are none; calls that are made; ReadyKnown. -/
import Derived.Test.YtmdckfekjbhcfaaRdyH
namespace Go.Proofs.Ytmdckfekjbhcfaa
open Go.RowKit Rk Rd Go.Sort
set_option linter.unusedVariables false

/-! a rank that is nil -/
theorem zr_none (w : World) : Calls Try.prog 33 #[.pointer none] w (IsB true w) := by
  go_enter Try.func33, Try.ntmps33
  go_wp2_with fail
  go_ret
  exact ⟨rfl, rfl⟩
theorem zr_len (w : World) : Calls Try.prog 38 #[.pointer none] w (IsN 0 w) := by
  go_enter Try.func38, Try.ntmps38
  go_wp2_with fail
  refine (zr_none w).mono ?_
  rintro e w1 ⟨rfl, rfl⟩
  go_wp2_with fail
  go_ret
  exact ⟨rfl, rfl⟩
theorem zr_first (w : World) : Calls Try.prog 30 #[.pointer none] w (IsV (.tuple #[.int .i64 0, .int .i64 0, .bool false]) w) := by
  go_enter Try.func30, Try.ntmps30
  go_wp2_with fail
  refine (zr_len w).mono ?_
  rintro e w1 ⟨rfl, rfl⟩
  go_wp2_with fail
  go_ret3
  exact ⟨rfl, rfl⟩
theorem zr_key (w : World) (k : Int) : Calls Try.prog 32 #[.pointer none, .int .i64 k] w (IsV (.tuple #[.int .i64 0, .bool false]) w) := by
  go_enter Try.func32, Try.ntmps32
  go_wp2_with fail
  refine (zr_none w).mono ?_
  rintro e w1 ⟨rfl, rfl⟩
  go_wp2_with fail
  go_ret2
  exact ⟨rfl, rfl⟩
theorem zr_rem (w : World) (k : Int) : Calls Try.prog 26 #[.pointer none, .int .i64 k] w (IsB false w) := by
  go_enter Try.func26, Try.ntmps26
  go_wp2_with fail
  refine (zr_none w).mono ?_
  rintro e w1 ⟨rfl, rfl⟩
  go_wp2_with fail
  go_ret
  exact ⟨rfl, rfl⟩
theorem zr_ids (w : World) : Calls Try.prog 31 #[.pointer none] w (IsV (.slice none 0 0) w) := by
  go_enter Try.func31, Try.ntmps31
  go_wp2_with fail
  refine (zr_none w).mono ?_
  rintro e w1 ⟨rfl, rfl⟩
  go_wp2_with fail
  go_ret
  exact ⟨rfl, rfl⟩
/-- a queue that is none: nil, or a zero one -/
def NoneAt (w : World) (v : Value) : Prop := v = .pointer none ∨ ∃ b, v = .pointer (some ⟨b, 0, none⟩) ∧ w.heap[b]? = some (.cells #[.pointer none, .int .i64 0] 52 (0, 0))
theorem NoneAt.kept {w : World} {v : Value} (h : NoneAt w v) : Calls Try.prog 23 #[v] w (IsV (.pointer none) w) := by
  rcases h with rfl | ⟨b, rfl, h⟩
  · exact kept_nil w
  · exact kept_cell (cell_of_row _ _ 0 _ _ _ h)
section
variable {w : World} {v : Value}
theorem nn_first (h : NoneAt w v) : Calls Try.prog 19 #[v] w (IsV (.tuple #[.int .i64 0, .int .i64 0, .bool false]) w) := by
  have HK := Lib.hid h.kept
  clear h
  go_enter Try.func19, Try.ntmps19
  go_wp2_with fail
  refine HK.out.mono ?_
  rintro e w1 ⟨rfl, rfl⟩
  go_wp2_with fail
  refine (zr_first w).mono ?_
  rintro e w1 ⟨rfl, rfl⟩
  go_wp2_with fail
  go_ret3
  exact ⟨rfl, rfl⟩
theorem nn_dl (h : NoneAt w v) (t : Int) : Calls Try.prog 21 #[v, .int .i64 t] w (IsV (.tuple #[.int .i64 0, .bool false]) w) := by
  have HK := Lib.hid h.kept
  clear h
  go_enter Try.func21, Try.ntmps21
  go_wp2_with fail
  refine HK.out.mono ?_
  rintro e w1 ⟨rfl, rfl⟩
  go_wp2_with fail
  refine (zr_key w t).mono ?_
  rintro e w1 ⟨rfl, rfl⟩
  go_wp2_with fail
  go_ret2
  exact ⟨rfl, rfl⟩
theorem nn_put (h : NoneAt w v) (t d : Int) : Calls Try.prog 10 #[v, .int .i64 t, .int .i64 d] w (IsV (.int .i64 1) w) := by
  have HK := Lib.hid h.kept
  clear h
  go_enter Try.func10, Try.ntmps10
  go_wp2_with fail
  refine HK.out.mono ?_
  rintro e w1 ⟨rfl, rfl⟩
  go_wp2_with fail
  go_ret
  exact ⟨rfl, rfl⟩
theorem nn_rem (h : NoneAt w v) (t : Int) : Calls Try.prog 12 #[v, .int .i64 t] w (IsB false w) := by
  have HK := Lib.hid h.kept
  clear h
  go_enter Try.func12, Try.ntmps12
  go_wp2_with fail
  refine HK.out.mono ?_
  rintro e w1 ⟨rfl, rfl⟩
  go_wp2_with fail
  refine (zr_rem w t).mono ?_
  rintro e w1 ⟨rfl, rfl⟩
  go_wp2_with fail
  go_ret
  exact ⟨rfl, rfl⟩
theorem nn_jobs (h : NoneAt w v) : Calls Try.prog 20 #[v] w (IsV (.slice none 0 0) w) := by
  have HK := Lib.hid h.kept
  clear h
  go_enter Try.func20, Try.ntmps20
  go_wp2_with fail
  refine HK.out.mono ?_
  rintro e w1 ⟨rfl, rfl⟩
  go_wp2_with fail
  refine (zr_ids w).mono ?_
  rintro e w1 ⟨rfl, rfl⟩
  go_wp2_with fail
  go_ret
  exact ⟨rfl, rfl⟩
theorem nn_late (h : NoneAt w v) (t : Int) : Calls Try.prog 15 #[v, .int .i64 t] w (IsV (.slice none 0 0) w) := by
  have HJ := Lib.hid (nn_jobs h)
  clear h
  go_enter Try.func15, Try.ntmps15
  go_wp2_with fail
  refine HJ.out.mono ?_
  rintro e w1 ⟨rfl, rfl⟩
  go_wp2_with fail
  go_loopw [14] (fun i wr => i = .int .i64 0 ∧ wr = w) (fun _ _ => 0)
  case atStart => exact ⟨rfl, rfl⟩
  case round =>
    obtain ⟨rfl, rfl⟩ := hrel
    go_wp2_with fail
    go_ret
    exact ⟨rfl, rfl⟩
end
theorem below_drew {B : Nat} {a b : World} (h : Below B a b) : Below B a b.drew := ⟨h.os, h.tape, h.output, h.size, h.block⟩
theorem infoDo : (Try.prog.info? 31).map (fun i => (i.zero, i.size, i.bytes)) = some (some (.agg #[.int .i64 0, .int .i64 0, .int .i64 0]), 3, 24) := by kernel_rfl
/-- calls in a row of the call's own -/
def ND (w : World) (B : Nat) (v : Value) (n : Nat) : Prop := ∃ xs : List Int, xs.length = n * 3 ∧ w.ownsRow B 31 3 v n (nums xs)
theorem ND.nil (w : World) (B : Nat) : ND w B (.slice none 0 0) 0 := ⟨[], rfl, World.ownsRow_nil w B _ _⟩
theorem ND.ds {w : World} {B : Nat} {v : Value} {n : Nat} (h : ND w B v n) : ∃ d, DS w v n d := by
  obtain ⟨xs, hl, h⟩ := h
  have hc := fun g => World.ownsRow.cells h (g := g)
  rcases h.2 with ⟨rfl, rfl⟩ | ⟨g, cap, cur, rfl, hb, hh, hnc, hcm, _⟩
  · exact ⟨fun _ _ => 0, DS.nil w _⟩
  · refine ⟨fun i j => xs.getD (i * 3 + j) 0, _, cap, rfl, hnc, hcm, fun _ => ⟨g, 0, rfl, fun i hi j hj => ?_⟩⟩
    have q := hc g rfl _ _ (nums_at xs (i * 3 + j) (by omega))
    rw [Addr.add_lit] at q
    rw [Nat.add_assoc]
    exact q
theorem own_form {w : World} {B : Nat} {e : TypeId} {k n : Nat} {v : Value} {xs : List Value} (h : w.ownsRow B e k v n xs) : ∃ a c, v = .slice a n c := by
  rcases h.2 with ⟨rfl, rfl⟩ | ⟨g, cap, cur, rfl, _⟩
  · exact ⟨_, _, rfl⟩
  · exact ⟨_, _, rfl⟩
/-- calls behind calls -/
theorem app_dos {w : World} {B : Nat} {v : Value} {n k : Nat} (h : ND w B v n) (ys : List Int) (hy : ys.length = k * 3) {g : Nat} (hg : w.heap[g]? = some (.cells (nums ys).toArray 31 (0, 0))) (hB : B ≤ w.heap.size) (hn : n + k ≤ 1000) (ty : TypeId) :
    ∃ a c w', (Builtin.append_ #[22, 22] ty #[v, .slice (some ⟨g, 0, none⟩) k k]).run Try.prog w = .ok (.slice a (n + k) c) w' ∧ ND w' B (.slice a (n + k) c) (n + k) ∧ Below B w w' := by
  obtain ⟨xs, hl, hown⟩ := h
  obtain ⟨i0, hi, hz0, hz1, hz2⟩ := info_parts infoDo
  obtain ⟨v', w', hrun, hown', hgr, _⟩ := run_append_own (P := Try.prog) w B 22 ty 31 i0 _ 3 24 Try.underlying22 hi hz0 hz1 hz2 rfl (by decide) v n _ hown ⟨g, 0, none⟩ k k (nums ys) (by unfold nums; simp [hy])
    (fun j u hj => by rw [Addr.add_lit, Nat.zero_add, cell_of_row _ _ j _ _ _ hg, List.getElem?_toArray]; exact hj) (fun u hu => by obtain ⟨x, _, rfl⟩ := List.mem_map.mp hu; rfl) (by unfold maxLen; omega) (by omega) hB
  obtain ⟨a, c, rfl⟩ := own_form hown'
  refine ⟨a, c, w', hrun, ⟨xs ++ ys, by rw [List.length_append]; omega, ?_⟩, (Below.refl B w).grown hgr hB (fun j e => (World.ownsRow.lt hown j e).1)⟩
  rw [show nums (xs ++ ys) = nums xs ++ nums ys from List.map_append]
  exact hown'
theorem ND.alloc {w : World} {B : Nat} {v : Value} {n : Nat} (h : ND w B v n) (o : Obj) : ND (w.alloc o) B v n := by obtain ⟨xs, h1, h2⟩ := h; exact ⟨xs, h1, World.ownsRow.alloc h2 _⟩
theorem ND.drew {w : World} {B : Nat} {v : Value} {n : Nat} (h : ND w B v n) : ND w.drew B v n := h
theorem ND.form {w : World} {B : Nat} {v : Value} {n : Nat} (h : ND w B v n) : ∃ a c, v = .slice a n c := by obtain ⟨xs, _, h⟩ := h; exact own_form h
def ends : List Int := [-9223372036854775808, -1, 0, 1, 2, 3, 4, 5, 1099511627776, 1099511627840, 1099511627841, 9223372036854775807]
set_option maxRecDepth 100000 in
set_option maxHeartbeats 16000000 in
theorem known_law (w : World) : Calls Try.prog 6 #[] w (TrueB w) := by
  go_enter Try.func6, Try.ntmps6
  go_wp2_with fail
  go_loopw [1, 2] (fun v i wr => ∃ k : Nat, k ≤ 2 ∧ i = .int .i64 k ∧ Hid (NoneAt wr v) ∧ Hid (Below w.heap.size w wr)) (fun _ i _ => 2 - (intOf i).toNat)
  case atStart => exact ⟨0, by omega, rfl, Or.inl rfl, Below.refl _ _⟩
  case round =>
    rename_i v _
    obtain ⟨k, hk, rfl, HN, HB⟩ := hrel
    by_cases hk2 : k < 2
    · have HA : Hid (NoneAt (wr.alloc (.cells #[.pointer none, .int .i64 0] 52)) (.pointer (some ⟨wr.heap.size, 0, none⟩))) := Or.inr ⟨_, rfl, heap_alloc_new wr _⟩
      have HBA : Hid (Below w.heap.size w (wr.alloc (.cells #[.pointer none, .int .i64 0] 52))) := HB.out.alloc HB.out.size _
      go_wp2_with fail
      refine (nn_first HN.out).mono ?_
      rintro e w1 ⟨rfl, rfl⟩
      go_wp2_with fail
      refine (nn_dl HN.out 0).mono ?_
      rintro e w1 ⟨rfl, rfl⟩
      go_wp2_with fail
      refine (nn_put HN.out (-1) 0).mono ?_
      rintro e w1 ⟨rfl, rfl⟩
      go_wp2_with fail
      refine (nn_rem HN.out 0).mono ?_
      rintro e w1 ⟨rfl, rfl⟩
      go_wp2_with fail
      refine (nn_late HN.out 5).mono ?_
      rintro e w1 ⟨rfl, rfl⟩
      go_wp2_with fail
      refine (nn_jobs HN.out).mono ?_
      rintro e w1 ⟨rfl, rfl⟩
      go_wp2_with fail
      go_roundw
      case rel => exact ⟨k + 1, by omega, by go_num, HA.out, HBA.out⟩
      case measure => simp [intOf]; omega
    · have hk3 : decide ((k : Int) < 2) = false := by simp; omega
      have HE : Hid (IS (wr.alloc (.cells (ends.map (Value.int .i64)).toArray 3)) (.slice (some ⟨wr.heap.size, 0, none⟩) 12 12) ends) := lit_is wr ends (by decide)
      have HBE : Hid (Below w.heap.size w (wr.alloc (.cells (ends.map (Value.int .i64)).toArray 3))) := HB.out.alloc HB.out.size _
      have hob : (wr.alloc (.cells (ends.map (Value.int .i64)).toArray 3)) = (wr.alloc (.cells #[.int .i64 (-9223372036854775808), .int .i64 (-1), .int .i64 0, .int .i64 1, .int .i64 2, .int .i64 3, .int .i64 4, .int .i64 5, .int .i64 1099511627776, .int .i64 1099511627840, .int .i64 1099511627841, .int .i64 9223372036854775807] 3)) := rfl
      rw [hob] at HE HBE
      clear HN HB hob
      go_wp2_with fail
      generalize wr.alloc (.cells #[.int .i64 (-9223372036854775808), .int .i64 (-1), .int .i64 0, .int .i64 1, .int .i64 2, .int .i64 3, .int .i64 4, .int .i64 5, .int .i64 1099511627776, .int .i64 1099511627840, .int .i64 1099511627841, .int .i64 9223372036854775807] 3) = w1 at *
      generalize wr.heap.size = eb at *
      have HM : Hid (∃ es : List Int, es = ends) := ⟨_, rfl⟩
      generalize ends = es at *
      clear HM
      go_loopw [9] (fun i wi => ∃ k : Nat, k ≤ 12 ∧ i = .int .i64 k ∧ Hid (IS wi (.slice (some ⟨eb, 0, none⟩) 12 12) es) ∧ Hid (Below w.heap.size w wi)) (fun i _ => 12 - (intOf i).toNat)
      case atStart => exact ⟨0, by omega, rfl, HE.out, HBE.out⟩
      case round =>
        clear HE HBE
        obtain ⟨k, hk, rfl, HE, HB⟩ := hrel
        generalize wr = wk at *
        by_cases hk12 : k < 12
        · have hkI : (k : Int) < 12 := by omega
          go_wp2_with fail
          go_loopw [10, 11] (fun o j wi => ∃ n : Nat, n ≤ 12 ∧ j = .int .i64 n ∧ Hid (ND wi wk.heap.size o (4 * n)) ∧ Hid (Below wk.heap.size wk wi)) (fun _ j _ => 12 - (intOf j).toNat)
          case atStart => exact ⟨0, by omega, rfl, ND.nil _ _, Below.refl _ _⟩
          case round =>
            obtain ⟨n, hn, rfl, HO, HBn⟩ := hrel
            obtain ⟨oa, oc, rfl⟩ := HO.out.form
            by_cases hn12 : n < 12
            · obtain ⟨b1, off, e1, c0⟩ := (HE.out.below HBn.out).at hn12
              injection e1 with e1
              injection e1 with e1 e2 _
              subst e1; subst e2
              rw [Nat.zero_add] at c0
              have hnI : (n : Int) < 12 := by omega
              have hn0 : (0 : Int) ≤ n := by omega
              generalize es.getD n 0 = y at *
              obtain ⟨r, hr, hr2⟩ : ∃ r : Int, (n : Int) % 4 = r ∧ (n : Int).tmod 4 = r := ⟨_, rfl, Int.tmod_eq_emod_of_nonneg (by omega)⟩
              obtain ⟨va, vc, w5, hrun, hnd, hb5⟩ := app_dos (w := (wr.alloc (.cells #[.int .i64 0, .int .i64 y, .int .i64 5, .int .i64 0, .int .i64 r, .int .i64 y, .int .i64 2, .int .i64 0, .int .i64 y, .int .i64 1, .int .i64 y, .int .i64 0] 31)).drew) (k := 4) (HO.out.alloc _).drew [0, y, 5, 0, r, y, 2, 0, y, 1, y, 0] rfl (g := wr.heap.size) (heap_alloc_new wr _) (Nat.le_trans HBn.out.size (by simp [World.drew])) (by omega) 22
              rw [show 4 * n + 4 = 4 * (n + 1) by omega] at hrun hnd
              have HRUN := Lib.hid hrun
              have HND := Lib.hid hnd
              have HB5 : Hid (Below wk.heap.size wk w5) := (below_drew (HBn.out.alloc HBn.out.size _)).trans hb5
              clear hrun hnd hb5 HO
              go_wp2_with fail
              go_region_law (refine step_append_eq rfl (.tmp 69) (.tmp 92) 22 rfl _ _ _ (by simp [Act.eval]) (by simp [Act.eval]) HRUN.out ?_)
              all_goals
                go_wp2_with fail
                go_roundw
                case rel => exact ⟨n + 1, by omega, by go_num, HND.out, HB5.out⟩
                case measure => simp [intOf]; omega
            · have hn3 : decide ((n : Int) < 12) = false := by simp; omega
              obtain ⟨dd, hdd⟩ := HO.out.ds
              have HDS := Lib.hid hdd
              have HE2 := Lib.hid (HE.out.below HBn.out)
              have HB2 := Lib.hid (HB.out.trans (HBn.out.mono HB.out.size))
              obtain ⟨b1, off, e1, c0⟩ := HE2.out.at hk12
              injection e1 with e1
              injection e1 with e1 e2 _
              subst e1; subst e2
              rw [Nat.zero_add] at c0
              have hk0 : (0 : Int) ≤ k := by omega
              generalize es.getD k 0 = y at *
              clear hdd HO HE HB HBn
              go_wp2_with fail
              refine (plays_any HDS.out y).mono ?_
              rintro e w6 ⟨rfl, hb6⟩
              have HB6 := Lib.hid hb6
              clear hb6 c0
              have HE7 := Lib.hid (HE2.out.below HB6.out)
              have HBW := Lib.hid (HB2.out.trans (HB6.out.mono HB2.out.size))
              clear HE2 HB2 HB6
              go_wp2_with fail
              go_roundw
              case rel => exact ⟨k + 1, by omega, by go_num, HE7.out, HBW.out⟩
              case measure => simp [intOf]; omega
        · have hk3 : decide ((k : Int) < 12) = false := by simp; omega
          go_wp2_with fail
          refine (oq_new _ (n := 0) (by decide)).mono ?_
          rintro e w5 ⟨qb, rfl, hq⟩
          have HQ := Lib.hid hq
          have HBQ := Lib.hid (HB.out.trans (hq.bel.mono HB.out.size))
          clear hq
          go_wp2_with fail
          refine (works_any _).mono ?_
          rintro e w6 ⟨rfl, hb6⟩
          have HQ6 := Lib.hid (HQ.out.below hb6)
          have HB6 := Lib.hid (HBQ.out.trans (hb6.mono HBQ.out.size))
          clear hb6 HQ
          go_wp2_with fail
          refine (oq_put HQ6.out 0 0 (x := 9) (L' := noL 0) (by decide) (by decide)).mono ?_
          rintro e w7 ⟨rfl, hq⟩
          have HQ7 := Lib.hid (HB.out.trans (hq.bel.mono HB.out.size))
          clear hq
          go_wp2_with fail
          go_ret
          exact ⟨rfl, HQ7.out⟩
end Go.Proofs.Ytmdckfekjbhcfaa
