/- Guards that are none; calls that are made; SporeKnown. -/
import Derived.Test.YtafnpccpibekoaaSpoF
import Derived.OwnWalk
import Derived.ArgAppend
import Derived.Laws.OwnMore
import Derived.Deep.RegionLawGrows
namespace Go.Proofs.Ytafnpccpibekoaa
open Go.RowKit Sp
set_option linter.unusedVariables false

/-- a guard that is none: nil, or a zero one -/
def NoneAt (w : World) (v : Value) : Prop := v = .pointer none ∨ ∃ b, v = .pointer (some ⟨b, 0, none⟩) ∧ PG w b 0 0
theorem NoneAt.is {w : World} {v : Value} (h : NoneAt w v) : Calls Try.prog 26 #[v] w (IsB true w) := by
  rcases h with rfl | ⟨b, rfl, h⟩
  · exact none_nil w
  · exact none_zero h
section
variable {w : World} {v : Value}
theorem nn_tick (h : NoneAt w v) (n : Int) : Calls Try.prog 21 #[v, .int .i64 n] w (IsI 1 w) := by
  have HN := Lib.hid h.is
  clear h
  go_enter Try.func21, Try.ntmps21
  go_wp2_with fail
  refine HN.out.mono ?_
  rintro e w1 ⟨rfl, rfl⟩
  go_wp2_with fail
  go_ret
  exact ⟨rfl, rfl⟩
theorem nn_per (h : NoneAt w v) (n : Int) : Calls Try.prog 24 #[v, .int .i64 n] w (IsI 1 w) := by
  have HN := Lib.hid h.is
  clear h
  go_enter Try.func24, Try.ntmps24
  go_wp2_with fail
  refine HN.out.mono ?_
  rintro e w1 ⟨rfl, rfl⟩
  go_wp2_with fail
  go_ret
  exact ⟨rfl, rfl⟩
theorem nn_utick (h : NoneAt w v) (n : Int) : Calls Try.prog 20 #[.func (.func 21) #[v] #[], .func (.func 22) #[v] #[], .int .i64 n] w (IsI 1 w) := by
  have HN := Lib.hid (nn_tick h n)
  clear h
  go_enter Try.func20, Try.ntmps20
  go_wp2_with fail
  refine HN.out.mono ?_
  rintro e w1 ⟨rfl, rfl⟩
  go_wp2_with fail
  go_ret
  exact ⟨rfl, rfl⟩
theorem nn_uper (h : NoneAt w v) (n : Int) : Calls Try.prog 20 #[.func (.func 24) #[v] #[], .func (.func 25) #[v] #[], .int .i64 n] w (IsI 1 w) := by
  have HN := Lib.hid (nn_per h n)
  clear h
  go_enter Try.func20, Try.ntmps20
  go_wp2_with fail
  refine HN.out.mono ?_
  rintro e w1 ⟨rfl, rfl⟩
  go_wp2_with fail
  go_ret
  exact ⟨rfl, rfl⟩
theorem nn_release (h : NoneAt w v) (n : Int) : Calls Try.prog 10 #[v, .int .i64 n] w (IsI 1 w) := by
  have HN := Lib.hid (nn_utick h n)
  clear h
  go_enter Try.func10, Try.ntmps10
  go_wp2_with fail
  refine HN.out.mono ?_
  rintro e w1 ⟨rfl, rfl⟩
  go_wp2_with fail
  go_ret
  exact ⟨rfl, rfl⟩
theorem nn_change (h : NoneAt w v) (n : Int) : Calls Try.prog 14 #[v, .int .i64 n] w (IsI 1 w) := by
  have HN := Lib.hid (nn_uper h n)
  clear h
  go_enter Try.func14, Try.ntmps14
  go_wp2_with fail
  refine HN.out.mono ?_
  rintro e w1 ⟨rfl, rfl⟩
  go_wp2_with fail
  go_ret
  exact ⟨rfl, rfl⟩
theorem nn_may (h : NoneAt w v) (n : Int) : Calls Try.prog 12 #[v, .int .i64 n] w (IsB false w) := by
  have HN := Lib.hid (nn_tick h n)
  clear h
  go_enter Try.func12, Try.ntmps12
  go_wp2_with fail
  refine HN.out.mono ?_
  rintro e w1 ⟨rfl, rfl⟩
  go_wp2_with fail
  go_ret
  exact ⟨rfl, rfl⟩
theorem nn_next (h : NoneAt w v) : Calls Try.prog 16 #[v] w (IsI 0 w) := by
  have HN := Lib.hid h.is
  clear h
  go_enter Try.func16, Try.ntmps16
  go_wp2_with fail
  refine HN.out.mono ?_
  rintro e w1 ⟨rfl, rfl⟩
  go_wp2_with fail
  go_ret
  exact ⟨rfl, rfl⟩
end
theorem step_append_eq {P : Program} {ops : Array Oper} {o : Oper} {a : Act} {w w' : World} {K : Act → World → Prop} {Q : Exit → Act → World → Prop} {E : Prop}
    (hg : o.guard = none) (s x : Operand) (t : TypeId) (hop : o.op = Op.call { callee := Callee.builtin Builtin.append, args := #[s, x], argTypes := #[t, t] })
    (sv xv v' : Value) (hs : a.eval s = sv) (hx : a.eval x = xv) (hrun : (Builtin.append_ #[t, t] o.type #[sv, xv]).run P w = .ok v' w') (hK : K (a.put o.dst v') w') :
    if Region.wanted o (yielded ops a.tmps) = true then Oper.wp P o a w K Q else E := by
  have hw : Region.wanted o (yielded ops a.tmps) = true := by simp [Region.wanted, hg]
  rw [if_pos hw]
  unfold Oper.wp
  simp [execOp, hop, resolve, invoke, builtin, hs, hx, hrun, Result.andThen]
  exact hK
theorem infoDo : (Try.prog.info? 31).map (fun i => (i.zero, i.size, i.bytes)) = some (some (.agg #[.int .i64 0, .int .i64 0]), 2, 16) := by kernel_rfl
def nums (xs : List Int) : List Value := xs.map (Value.int .i64)
theorem nums_at (xs : List Int) (i : Nat) (h : i < xs.length) : (nums xs)[i]? = some (.int .i64 (xs.getD i 0)) := by
  unfold nums
  rw [List.getElem?_map, List.getElem?_eq_getElem h, List.getD_eq_getElem?_getD, List.getElem?_eq_getElem h]
  rfl
/-- calls in a row of the call's own -/
def ND (w : World) (B : Nat) (v : Value) (n : Nat) : Prop := ∃ xs : List Int, xs.length = n * 2 ∧ w.ownsRow B 31 2 v n (nums xs)
theorem ND.nil (w : World) (B : Nat) : ND w B (.slice none 0 0) 0 := ⟨[], rfl, World.ownsRow_nil w B _ _⟩
theorem ND.ds {w : World} {B : Nat} {v : Value} {n : Nat} (h : ND w B v n) : ∃ d, DS w v n d := by
  obtain ⟨xs, hl, h⟩ := h
  have hc := fun g => World.ownsRow.cells h (g := g)
  rcases h.2 with ⟨rfl, rfl⟩ | ⟨g, cap, cur, rfl, hb, hh, hnc, hcm, _⟩
  · exact ⟨fun _ _ => 0, DS.nil w _⟩
  · refine ⟨fun i j => xs.getD (i * 2 + j) 0, _, cap, rfl, hnc, hcm, fun _ => ⟨g, 0, rfl, fun i hi j hj => ?_⟩⟩
    have q := hc g rfl _ _ (nums_at xs (i * 2 + j) (by omega))
    rw [Addr.add_lit] at q
    rw [Nat.add_assoc]
    exact q
theorem own_form {w : World} {B : Nat} {e : TypeId} {k n : Nat} {v : Value} {xs : List Value} (h : w.ownsRow B e k v n xs) : ∃ a c, v = .slice a n c := by
  rcases h.2 with ⟨rfl, rfl⟩ | ⟨g, cap, cur, rfl, _⟩
  · exact ⟨_, _, rfl⟩
  · exact ⟨_, _, rfl⟩
/-- calls behind calls -/
theorem app_dos {w : World} {B : Nat} {v : Value} {n k : Nat} (h : ND w B v n) (ys : List Int) (hy : ys.length = k * 2) {g : Nat} (hg : w.heap[g]? = some (.cells (nums ys).toArray 31 (0, 0))) (hB : B ≤ w.heap.size) (hn : n + k ≤ 1000) (ty : TypeId) :
    ∃ a c w', (Builtin.append_ #[22, 22] ty #[v, .slice (some ⟨g, 0, none⟩) k k]).run Try.prog w = .ok (.slice a (n + k) c) w' ∧ ND w' B (.slice a (n + k) c) (n + k) ∧ Below B w w' := by
  obtain ⟨xs, hl, hown⟩ := h
  obtain ⟨i0, hi, hz0, hz1, hz2⟩ := info_parts infoDo
  obtain ⟨v', w', hrun, hown', hgr, _⟩ := run_append_own (P := Try.prog) w B 22 ty 31 i0 _ 2 16 Try.underlying22 hi hz0 hz1 hz2 rfl (by decide) v n _ hown ⟨g, 0, none⟩ k k (nums ys) (by unfold nums; simp [hy])
    (fun j u hj => by rw [Addr.add_lit, Nat.zero_add, cell_of_row _ _ j _ _ _ hg, List.getElem?_toArray]; exact hj) (fun u hu => by obtain ⟨x, _, rfl⟩ := List.mem_map.mp hu; rfl) (by unfold maxLen; omega) (by omega) hB
  obtain ⟨a, c, rfl⟩ := own_form hown'
  refine ⟨a, c, w', hrun, ⟨xs ++ ys, by rw [List.length_append]; omega, ?_⟩, (Below.refl B w).grown hgr hB (fun j e => (World.ownsRow.lt hown j e).1)⟩
  rw [show nums (xs ++ ys) = nums xs ++ nums ys from List.map_append]
  exact hown'
theorem ND.alloc {w : World} {B : Nat} {v : Value} {n : Nat} (h : ND w B v n) (o : Obj) : ND (w.alloc o) B v n := by obtain ⟨xs, h1, h2⟩ := h; exact ⟨xs, h1, World.ownsRow.alloc h2 _⟩
theorem ND.drew {w : World} {B : Nat} {v : Value} {n : Nat} (h : ND w B v n) : ND w.drew B v n := h
theorem ND.form {w : World} {B : Nat} {v : Value} {n : Nat} (h : ND w B v n) : ∃ a c, v = .slice a n c := by obtain ⟨xs, _, h⟩ := h; exact own_form h
def ends : List Int := [-9223372036854775808, -1, 0, 1, 63, 64, 65, 1099511627712, 1099511627775, 1099511627776, 1099511627777, 9223372036854775807]
theorem lit_is (w : World) (l : List Int) (hl : l.length ≤ maxLen) : IS (w.alloc (.cells (l.map (Value.int .i64)).toArray 3)) (.slice (some ⟨w.heap.size, 0, none⟩) l.length l.length) l :=
  ⟨_, _, rfl, Nat.le_refl _, hl, (fun h => by cases h), fun _ => ⟨_, 0, rfl, fun i hi => (cell_of_row _ _ (0 + i) _ _ _ (heap_alloc_new w _)).trans (by simp [List.getElem?_eq_getElem hi, List.getD])⟩⟩
set_option maxRecDepth 100000 in
set_option maxHeartbeats 16000000 in
theorem known_law (w : World) : Calls Try.prog 6 #[] w (TrueB w) := by
  go_enter Try.func6, Try.ntmps6
  go_wp2_with fail
  go_loopw [1, 2] (fun v i wr => ∃ k : Nat, k ≤ 2 ∧ i = .int .i64 k ∧ Hid (NoneAt wr v) ∧ Hid (Below w.heap.size w wr)) (fun _ i _ => 2 - (intOf i).toNat)
  case atStart => exact ⟨0, by omega, rfl, Or.inl rfl, Below.refl _ _⟩
  case round =>
    rename_i v _
    obtain ⟨k, hk, rfl, HN, HB⟩ := hrel
    by_cases hk2 : k < 2
    · have HA : Hid (NoneAt (wr.alloc (.cells #[.int .i64 0, .int .i64 0] 42)) (.pointer (some ⟨wr.heap.size, 0, none⟩))) := Or.inr ⟨_, rfl, heap_alloc_new wr _⟩
      have HBA : Hid (Below w.heap.size w (wr.alloc (.cells #[.int .i64 0, .int .i64 0] 42))) := HB.out.alloc HB.out.size _
      go_wp2_with fail
      refine (nn_release HN.out (-1)).mono ?_
      rintro e w1 ⟨rfl, rfl⟩
      go_wp2_with fail
      refine (nn_change HN.out 0).mono ?_
      rintro e w1 ⟨rfl, rfl⟩
      go_wp2_with fail
      refine (nn_may HN.out 0).mono ?_
      rintro e w1 ⟨rfl, rfl⟩
      go_wp2_with fail
      refine (nn_next HN.out).mono ?_
      rintro e w1 ⟨rfl, rfl⟩
      go_wp2_with fail
      go_roundw
      case rel => exact ⟨k + 1, by omega, by go_num, HA.out, HBA.out⟩
      case measure => simp [intOf]; omega
    · have hk3 : decide ((k : Int) < 2) = false := by simp; omega
      have HE : Hid (IS (wr.alloc (.cells (ends.map (Value.int .i64)).toArray 3)) (.slice (some ⟨wr.heap.size, 0, none⟩) 12 12) ends) := lit_is wr ends (by decide)
      have HBE : Hid (Below w.heap.size w (wr.alloc (.cells (ends.map (Value.int .i64)).toArray 3))) := HB.out.alloc HB.out.size _
      have hob : (wr.alloc (.cells (ends.map (Value.int .i64)).toArray 3)) = (wr.alloc (.cells #[.int .i64 (-9223372036854775808), .int .i64 (-1), .int .i64 0, .int .i64 1, .int .i64 63, .int .i64 64, .int .i64 65, .int .i64 1099511627712, .int .i64 1099511627775, .int .i64 1099511627776, .int .i64 1099511627777, .int .i64 9223372036854775807] 3)) := rfl
      rw [hob] at HE HBE
      clear HN HB hob
      go_wp2_with fail
      generalize wr.alloc (.cells #[.int .i64 (-9223372036854775808), .int .i64 (-1), .int .i64 0, .int .i64 1, .int .i64 63, .int .i64 64, .int .i64 65, .int .i64 1099511627712, .int .i64 1099511627775, .int .i64 1099511627776, .int .i64 1099511627777, .int .i64 9223372036854775807] 3) = w1 at *
      generalize wr.heap.size = eb at *
      have HM : Hid (∃ es : List Int, es = ends) := ⟨_, rfl⟩
      generalize ends = es at *
      clear HM
      go_loopw [4] (fun i wi => ∃ k : Nat, k ≤ 12 ∧ i = .int .i64 k ∧ Hid (IS wi (.slice (some ⟨eb, 0, none⟩) 12 12) es) ∧ Hid (Below w.heap.size w wi)) (fun i _ => 12 - (intOf i).toNat)
      case atStart => exact ⟨0, by omega, rfl, HE.out, HBE.out⟩
      case round =>
        clear HE HBE
        obtain ⟨k, hk, rfl, HE, HB⟩ := hrel
        generalize wr = wk at *
        by_cases hk12 : k < 12
        · have hkI : (k : Int) < 12 := by omega
          go_wp2_with fail
          go_loopw [5, 6] (fun o j wi => ∃ n : Nat, n ≤ 12 ∧ j = .int .i64 n ∧ Hid (ND wi wk.heap.size o (3 * n)) ∧ Hid (Below wk.heap.size wk wi)) (fun _ j _ => 12 - (intOf j).toNat)
          case atStart => exact ⟨0, by omega, rfl, ND.nil _ _, Below.refl _ _⟩
          case round =>
            obtain ⟨n, hn, rfl, HO, HBn⟩ := hrel
            obtain ⟨oa, oc, rfl⟩ := HO.out.form
            by_cases hn12 : n < 12
            · obtain ⟨b1, off, e1, c0⟩ := (HE.out.below HBn.out).at hn12
              injection e1 with e1
              injection e1 with e1 e2 _
              subst e1; subst e2
              rw [Nat.zero_add] at c0
              have hnI : (n : Int) < 12 := by omega
              have hn0 : (0 : Int) ≤ n := by omega
              generalize es.getD n 0 = y at *
              obtain ⟨va, vc, w5, hrun, hnd, hb5⟩ := app_dos (w := (wr.alloc (.cells #[.int .i64 0, .int .i64 y, .int .i64 1, .int .i64 y, .int .i64 2, .int .i64 y] 31)).drew) (k := 3) (HO.out.alloc _).drew [0, y, 1, y, 2, y] rfl (g := wr.heap.size) (heap_alloc_new wr _) (Nat.le_trans HBn.out.size (by simp [World.drew])) (by omega) 22
              rw [show 3 * n + 3 = 3 * (n + 1) by omega] at hrun hnd
              have HRUN := Lib.hid hrun
              have HND := Lib.hid hnd
              have HB5 : Hid (Below wk.heap.size wk w5) := (below_drew (HBn.out.alloc HBn.out.size _)).trans hb5
              clear hrun hnd hb5 HO
              go_wp2_with fail
              go_region_law (refine step_append_eq rfl (.tmp 43) (.tmp 59) 22 rfl _ _ _ (by simp [Act.eval]) (by simp [Act.eval]) HRUN.out ?_)
              all_goals
                go_wp2_with fail
                go_roundw
                case rel => exact ⟨n + 1, by omega, by go_num, HND.out, HB5.out⟩
                case measure => simp [intOf]; omega
            · have hn3 : decide ((n : Int) < 12) = false := by simp; omega
              obtain ⟨dd, hdd⟩ := HO.out.ds
              have HDS := Lib.hid hdd
              have HE2 := Lib.hid (HE.out.below HBn.out)
              have HB2 := Lib.hid (HB.out.trans (HBn.out.mono HB.out.size))
              obtain ⟨b1, off, e1, c0⟩ := HE2.out.at hk12
              injection e1 with e1
              injection e1 with e1 e2 _
              subst e1; subst e2
              rw [Nat.zero_add] at c0
              have hk0 : (0 : Int) ≤ k := by omega
              generalize es.getD k 0 = y at *
              clear hdd HO HE HB HBn
              go_wp2_with fail
              refine (plays_any HDS.out y).mono ?_
              rintro e w6 ⟨rfl, hb6⟩
              have HB6 := Lib.hid hb6
              clear hb6 c0
              go_wp2_with fail
              refine (plays_any (HDS.out.below HB6.out) (1 + k)).mono ?_
              rintro e w7 ⟨rfl, hb7⟩
              have HB7 := Lib.hid (chn HB6.out hb7)
              have HE7 := Lib.hid (HE2.out.below HB7.out)
              have HBW := Lib.hid (HB2.out.trans (HB7.out.mono HB2.out.size))
              clear hb7 HE2 HB2 HB6 HB7
              go_wp2_with fail
              go_roundw
              case rel => exact ⟨k + 1, by omega, by go_num, HE7.out, HBW.out⟩
              case measure => simp [intOf]; omega
        · have hk3 : decide ((k : Int) < 12) = false := by simp; omega
          go_wp2_with fail
          refine (works_any _).mono ?_
          rintro e w6 ⟨rfl, hb6⟩
          have HB6 := Lib.hid (HB.out.trans (hb6.mono HB.out.size))
          clear hb6
          go_wp2_with fail
          go_ret
          exact ⟨rfl, HB6.out⟩
end Go.Proofs.Ytafnpccpibekoaa
