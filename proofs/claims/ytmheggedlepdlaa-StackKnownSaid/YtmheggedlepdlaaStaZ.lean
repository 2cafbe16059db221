/- StackKnown: stacks that are none; calls that are made. -/
import Derived.Test.YtmheggedlepdlaaStaYb
import Derived.Test.YtmheggedlepdlaaStaV
namespace Go.Proofs.Ytmheggedlepdlaa
open Go.RowKit Lv Sk Go.Sort
set_option linter.unusedVariables false

/-- a stack that is none: nil, or a zero one -/
def NoneAt (w : World) (v : Value) : Prop := v = .pointer none ∨ ∃ b, v = .pointer (some ⟨b, 0, none⟩) ∧ w.heap[b]? = some (.cells #[.slice none 0 0, .slice none 0 0] 57 (0, 0))
theorem NoneAt.is {w : World} {v : Value} (h : NoneAt w v) : Calls Try.prog 34 #[v] w (IsB true w) := by
  rcases h with rfl | ⟨b, rfl, h⟩
  · exact none_nil w
  · exact none_zero (cell_of_row _ _ 0 _ _ _ h)
def SameV (r : Value) (w : World) (e : Ending) (w' : World) : Prop := e = .returned r ∧ w = w'
section
variable {w : World} {v : Value}
theorem nn_unl (h : NoneAt w v) (t : Int) : Calls Try.prog 16 #[v, .int .i64 t] w (SameV (.tuple #[.int .i64 0, .int .i64 1]) w) := by
  have HN := Lib.hid h.is
  clear h
  go_enter Try.func16, Try.ntmps16
  go_wp2_with fail
  refine HN.out.mono ?_
  rintro e w1 ⟨rfl, rfl⟩
  go_wp2_with fail
  go_ret2
  exact ⟨rfl, rfl⟩
theorem nn_top (h : NoneAt w v) : Calls Try.prog 23 #[v] w (SameV (.tuple #[.int .i64 0, .bool false]) w) := by
  have HN := Lib.hid h.is
  clear h
  go_enter Try.func23, Try.ntmps23
  go_wp2_with fail
  refine HN.out.mono ?_
  rintro e w1 ⟨rfl, rfl⟩
  go_wp2_with fail
  go_ret2
  exact ⟨rfl, rfl⟩
theorem nn_lock (h : NoneAt w v) (t r : Int) : Calls Try.prog 15 #[v, .int .i64 t, .int .i64 r] w (SameV (.int .i64 1) w) := by
  have HN := Lib.hid h.is
  clear h
  go_enter Try.func15, Try.ntmps15
  go_wp2_with fail
  refine HN.out.mono ?_
  rintro e w1 ⟨rfl, rfl⟩
  go_wp2_with fail
  go_ret
  exact ⟨rfl, rfl⟩
theorem nn_held (h : NoneAt w v) (t : Int) : Calls Try.prog 19 #[v, .int .i64 t] w (SameV (.slice none 0 0) w) := by
  have HN := Lib.hid h.is
  clear h
  go_enter Try.func19, Try.ntmps19
  go_wp2_with fail
  refine HN.out.mono ?_
  rintro e w1 ⟨rfl, rfl⟩
  go_wp2_with fail
  go_ret
  exact ⟨rfl, rfl⟩
theorem nn_cls (h : NoneAt w v) : Calls Try.prog 22 #[v] w (SameV (.int .i64 0) w) := by
  have HN := Lib.hid h.is
  clear h
  go_enter Try.func22, Try.ntmps22
  go_wp2_with fail
  refine HN.out.mono ?_
  rintro e w1 ⟨rfl, rfl⟩
  go_wp2_with fail
  go_ret
  exact ⟨rfl, rfl⟩
theorem nn_len (h : NoneAt w v) : Calls Try.prog 20 #[v] w (SameV (.int .i64 0) w) := by
  have HN := Lib.hid h.is
  clear h
  go_enter Try.func20, Try.ntmps20
  go_wp2_with fail
  refine HN.out.mono ?_
  rintro e w1 ⟨rfl, rfl⟩
  go_wp2_with fail
  go_ret
  exact ⟨rfl, rfl⟩
theorem nn_drop (h : NoneAt w v) (t : Int) : Calls Try.prog 17 #[v, .int .i64 t] w (SameV (.slice none 0 0) w) := by
  have HN := Lib.hid (nn_unl h t)
  clear h
  go_enter Try.func17, Try.ntmps17
  go_wp2_with fail
  go_loopw [5] (fun o wr => o = .slice none 0 0 ∧ wr = w) (fun _ _ => 0)
  case atStart => exact ⟨rfl, rfl⟩
  case round =>
    obtain ⟨rfl, rfl⟩ := hrel
    go_wp2_with fail
    refine HN.out.mono ?_
    rintro e w1 ⟨rfl, rfl⟩
    go_wp2_with fail
    go_ret
    exact ⟨rfl, rfl⟩
end
theorem infoDo : (Try.prog.info? 35).map (fun i => (i.zero, i.size, i.bytes)) = some (some (.agg #[.int .i64 0, .int .i64 0, .int .i64 0]), 3, 24) := by kernel_rfl
/-- calls in a row of the call's own -/
def ND (w : World) (B : Nat) (v : Value) (n : Nat) : Prop := ∃ xs : List Int, xs.length = n * 3 ∧ w.ownsRow B 35 3 v n (nums xs)
theorem ND.nil (w : World) (B : Nat) : ND w B (.slice none 0 0) 0 := ⟨[], rfl, World.ownsRow_nil w B _ _⟩
theorem ND.ds {w : World} {B : Nat} {v : Value} {n : Nat} (h : ND w B v n) : ∃ d, DS w v n d := by
  obtain ⟨xs, hl, h⟩ := h
  have hc := fun g => World.ownsRow.cells h (g := g)
  rcases h.2 with ⟨rfl, rfl⟩ | ⟨g, cap, cur, rfl, hb, hh, hnc, hcm, _⟩
  · exact ⟨fun _ _ => 0, DS.nil w _⟩
  · refine ⟨fun i j => xs.getD (i * 3 + j) 0, _, cap, rfl, hnc, hcm, fun _ => ⟨g, 0, rfl, fun i hi j hj => ?_⟩⟩
    have q := hc g rfl _ _ (nums_at xs (i * 3 + j) (by omega))
    rw [Addr.add_lit] at q
    rw [Nat.add_assoc]
    exact q
theorem ND.form {w : World} {B : Nat} {v : Value} {n : Nat} (h : ND w B v n) : ∃ a c, v = .slice a n c := by obtain ⟨xs, _, h⟩ := h; exact own_slice h
/-- calls behind calls -/
theorem app_dos {w : World} {B : Nat} {v : Value} {n k : Nat} (h : ND w B v n) (ys : List Int) (hy : ys.length = k * 3) {g : Nat} (hg : w.heap[g]? = some (.cells (nums ys).toArray 35 (0, 0))) (hB : B ≤ w.heap.size) (hn : n + k ≤ 1000) (ty : TypeId) :
    ∃ a c w', (Builtin.append_ #[23, 23] ty #[v, .slice (some ⟨g, 0, none⟩) k k]).run Try.prog w = .ok (.slice a (n + k) c) w' ∧ ND w' B (.slice a (n + k) c) (n + k) ∧ Below B w w' := by
  obtain ⟨xs, hl, hown⟩ := h
  obtain ⟨i0, hi, hz0, hz1, hz2⟩ := info_parts infoDo
  obtain ⟨v', w', hrun, hown', hgr, _⟩ := run_append_own (P := Try.prog) w B 23 ty 35 i0 _ 3 24 Try.underlying23 hi hz0 hz1 hz2 rfl (by decide) v n _ hown ⟨g, 0, none⟩ k k (nums ys) (by unfold nums; simp [hy])
    (fun j u hj => by rw [Addr.add_lit, Nat.zero_add, cell_of_row _ _ j _ _ _ hg, List.getElem?_toArray]; exact hj) (fun u hu => by obtain ⟨x, _, rfl⟩ := List.mem_map.mp hu; rfl) (by unfold maxLen; omega) (by omega) hB
  obtain ⟨a, c, rfl⟩ := own_slice hown'
  refine ⟨a, c, w', hrun, ⟨xs ++ ys, by rw [List.length_append]; omega, ?_⟩, (Below.refl B w).grown hgr hB (fun j e => (World.ownsRow.lt hown j e).1)⟩
  rw [show nums (xs ++ ys) = nums xs ++ nums ys from List.map_append]
  exact hown'
theorem make5 (w : World) : (Instr.makeSlice 22 (.int .i64 5) (.int .i64 5)).run Try.prog w = .ok (.slice (some ⟨w.heap.size, 0, none⟩) 5 5) (w.alloc (.cells (Array.replicate 40 (.int .i64 0)) 32)) := by kernel_rfl
theorem made5 (w : World) : TK (w.alloc (.cells (Array.replicate 40 (.int .i64 0)) 32)) (.slice (some ⟨w.heap.size, 0, none⟩) 5 5) 5 (fun _ _ => 0) :=
  ⟨_, 5, rfl, Nat.le_refl _, by decide, (fun e => by cases e), fun _ => ⟨_, 0, rfl, fun i hi j hj => by
    rw [Nat.zero_add, cell_of_row _ _ _ _ _ _ (heap_alloc_new w _), Array.getElem?_replicate, if_pos (by omega)]⟩⟩
set_option maxRecDepth 100000 in
set_option maxHeartbeats 16000000 in
theorem known_law (w : World) : Calls Try.prog 6 #[] w (TrueB w) := by
  go_enter Try.func6, Try.ntmps6
  go_wp2_with fail
  go_loopw [1, 2] (fun v i wr => ∃ k : Nat, k ≤ 2 ∧ i = .int .i64 k ∧ Hid (NoneAt wr v) ∧ Hid (Below w.heap.size w wr)) (fun _ i _ => 2 - (intOf i).toNat)
  case atStart => exact ⟨0, by omega, rfl, Or.inl rfl, Below.refl _ _⟩
  case round =>
    rename_i v _
    obtain ⟨k, hk, rfl, HN, HB⟩ := hrel
    by_cases hk2 : k < 2
    · have HA : Hid (NoneAt (wr.alloc (.cells #[.slice none 0 0, .slice none 0 0] 57)) (.pointer (some ⟨wr.heap.size, 0, none⟩))) := Or.inr ⟨_, rfl, heap_alloc_new wr _⟩
      have HBA : Hid (Below w.heap.size w (wr.alloc (.cells #[.slice none 0 0, .slice none 0 0] 57))) := HB.out.alloc HB.out.size _
      go_wp2_with fail
      refine (nn_unl HN.out (-1)).mono ?_
      rintro e w1 ⟨rfl, rfl⟩
      go_wp2_with fail
      refine (nn_top HN.out).mono ?_
      rintro e w1 ⟨rfl, rfl⟩
      go_wp2_with fail
      refine (nn_lock HN.out (-1) 0).mono ?_
      rintro e w1 ⟨rfl, rfl⟩
      go_wp2_with fail
      refine (nn_drop HN.out 0).mono ?_
      rintro e w1 ⟨rfl, rfl⟩
      go_wp2_with fail
      refine (nn_cls HN.out).mono ?_
      rintro e w1 ⟨rfl, rfl⟩
      go_wp2_with fail
      refine (nn_held HN.out 0).mono ?_
      rintro e w1 ⟨rfl, rfl⟩
      go_wp2_with fail
      refine (nn_len HN.out).mono ?_
      rintro e w1 ⟨rfl, rfl⟩
      go_wp2_with fail
      go_roundw
      case rel => exact ⟨k + 1, by omega, by go_num, HA.out, HBA.out⟩
      case measure => simp [intOf]; omega
    · obtain rfl : k = 2 := by omega
      have HN0 := Lib.hid (new_any (TK.nil wr (fun _ _ => 0)))
      have HW0 : Hid (w.heap.size ≤ wr.heap.size) := HB.out.size
      have HB0 := HB
      clear HN
      go_wp2_with fail
      refine HN0.out.mono ?_
      intro e w1 hp
      unfold NewP at hp
      rw [if_pos (by decide)] at hp
      obtain ⟨sb, tv, rfl, so, hb1, hsb, htv⟩ := hp
      have HS : Hid (SS wr.heap.size wr w1 sb 0 (fun _ _ => 0) []) := ⟨tv, _, so, hsb, htv, hb1, Ok.nil 0, H4.nil, by decide⟩
      have HB1 := Lib.hid (chn HB.out hb1)
      have hmk := make5
      have H5 := Lib.hid (new_any (made5 w1))
      have HM1 : Hid (Below w1.heap.size w1 (w1.alloc (.cells (Array.replicate 40 (.int .i64 0)) 32))) := (Below.refl _ _).alloc (Nat.le_refl _) _
      clear so hb1 hsb htv HN0 HB
      go_wp2_with fail
      clear hmk
      refine H5.out.mono ?_
      intro e w2 hp
      unfold NewP at hp
      rw [if_neg (by decide)] at hp
      obtain ⟨rfl, hb2⟩ := hp
      have HS2 := Lib.hid ((HS.out.below HM1.out).below hb2)
      have HB2 := Lib.hid (HB1.out.trans ((chn HM1.out hb2).mono HB1.out.size))
      have HZ : Hid (w.heap.size ≤ wr.heap.size) := by
        have h1 := HB1.out.size
        unfold Hid
        exact HW0.out
      clear hb2 H5 HM1 HS HB1
      go_wp2_with fail
      refine (ss_lock HS2.out 0 0 (x := 9) (l' := []) (by decide +kernel) (by decide +kernel)).mono ?_
      rintro e w3 ⟨rfl, hs⟩
      have HB3 := Lib.hid (HB0.out.trans (hs.bel.mono HZ.out))
      clear hs HS2 HB2
      have HL := Lib.hid (lit_tk w3 [[0, 4, 0, 255, 0, 0, 0, 0], [0, 2, 0, 255, 0, 0, 0, 0], [0, 2, 0, 0, 0, 0, 0, 0], [0, 1, 0, 256, 0, 0, 0, 0]] (by decide) (by decide) (by decide))
      have HBL : Hid (Below w.heap.size w (w3.alloc (.cells #[.int .i64 0, .int .i64 4, .int .i64 0, .int .i64 255, .int .i64 0, .int .i64 0, .int .i64 0, .int .i64 0, .int .i64 0, .int .i64 2, .int .i64 0, .int .i64 255, .int .i64 0, .int .i64 0, .int .i64 0, .int .i64 0, .int .i64 0, .int .i64 2, .int .i64 0, .int .i64 0, .int .i64 0, .int .i64 0, .int .i64 0, .int .i64 0, .int .i64 0, .int .i64 1, .int .i64 0, .int .i64 256, .int .i64 0, .int .i64 0, .int .i64 0, .int .i64 0] 32))) := HB3.out.alloc HB3.out.size _
      have HT4 : Hid (TK (w3.alloc (.cells #[.int .i64 0, .int .i64 4, .int .i64 0, .int .i64 255, .int .i64 0, .int .i64 0, .int .i64 0, .int .i64 0, .int .i64 0, .int .i64 2, .int .i64 0, .int .i64 255, .int .i64 0, .int .i64 0, .int .i64 0, .int .i64 0, .int .i64 0, .int .i64 2, .int .i64 0, .int .i64 0, .int .i64 0, .int .i64 0, .int .i64 0, .int .i64 0, .int .i64 0, .int .i64 1, .int .i64 0, .int .i64 256, .int .i64 0, .int .i64 0, .int .i64 0, .int .i64 0] 32)) (.slice (some ⟨w3.heap.size, 0, none⟩) 4 4) 4 (lz [[0, 4, 0, 255, 0, 0, 0, 0], [0, 2, 0, 255, 0, 0, 0, 0], [0, 2, 0, 0, 0, 0, 0, 0], [0, 1, 0, 256, 0, 0, 0, 0]])) := HL.out
      clear HL HB3
      go_wp2_with fail
      generalize w3.alloc (.cells #[.int .i64 0, .int .i64 4, .int .i64 0, .int .i64 255, .int .i64 0, .int .i64 0, .int .i64 0, .int .i64 0, .int .i64 0, .int .i64 2, .int .i64 0, .int .i64 255, .int .i64 0, .int .i64 0, .int .i64 0, .int .i64 0, .int .i64 0, .int .i64 2, .int .i64 0, .int .i64 0, .int .i64 0, .int .i64 0, .int .i64 0, .int .i64 0, .int .i64 0, .int .i64 1, .int .i64 0, .int .i64 256, .int .i64 0, .int .i64 0, .int .i64 0, .int .i64 0] 32) = w4 at *
      generalize w3.heap.size = tb at *
      generalize lz [[0, 4, 0, 255, 0, 0, 0, 0], [0, 2, 0, 255, 0, 0, 0, 0], [0, 2, 0, 0, 0, 0, 0, 0], [0, 1, 0, 256, 0, 0, 0, 0]] = zt at *
      go_loopw [12, 13] (fun o i wi => ∃ j : Nat, j ≤ 10 ∧ i = .int .i64 j ∧ Hid (ND wi w4.heap.size o (2 * j)) ∧ Hid (Below w4.heap.size w4 wi)) (fun _ i _ => 10 - (intOf i).toNat)
      case atStart => exact ⟨0, by omega, rfl, ND.nil _ _, Below.refl _ _⟩
      case round =>
        rename_i o _
        obtain ⟨j, hj, rfl, HO, HBj⟩ := hrel
        obtain ⟨oa, oc, rfl⟩ := HO.out.form
        by_cases hj10 : j < 10
        · obtain ⟨q, hq1, hq2, hq0⟩ : ∃ q : Int, (j : Int).tmod 2 = q ∧ (j : Int) % 2 = q ∧ 0 ≤ q ∧ q < 2 := by
            have h1 : (j : Int).tmod 2 = (j : Int) % 2 := Int.tmod_eq_emod_of_nonneg (by omega)
            exact ⟨(j : Int) % 2, h1, rfl, by omega, by omega⟩
          obtain ⟨q0, q2⟩ := hq0
          obtain ⟨v', c', w5, hrun, hnd, hb5⟩ := app_dos (w := wr.alloc (.cells #[.int .i64 0, .int .i64 q, .int .i64 j, .int .i64 0, .int .i64 3, .int .i64 8] 35)) (k := 2) (by obtain ⟨xs, h1, h2⟩ := HO.out; exact ⟨xs, h1, World.ownsRow.alloc h2 _⟩) [0, q, (j : Int), 0, 3, 8] rfl (g := wr.heap.size) (heap_alloc_new wr _) (Nat.le_trans HBj.out.size (by simp)) (by omega) 23
          have HRUN := Lib.hid hrun
          have HND := Lib.hid hnd
          have HB5 : Hid (Below w4.heap.size w4 w5) := (HBj.out.alloc HBj.out.size _).trans hb5
          have HQ0 : Hid (0 ≤ q ∧ q < 2) := ⟨q0, q2⟩
          clear hrun hnd hb5 HO
          go_wp2_with (at_builtin; refine wpList_append_eq rfl _ _ 23 23 rfl _ _ _ _ rfl rfl HRUN.out ?_)
          go_roundw
          case rel => exact ⟨j + 1, by omega, by go_num, HND.out, HB5.out⟩
          case measure => simp [intOf]; omega
        · obtain rfl : j = 10 := by omega
          obtain ⟨v', c', w5, hrun, hnd, hb5⟩ := app_dos (w := wr.alloc (.cells #[.int .i64 0, .int .i64 0, .int .i64 (-1), .int .i64 0, .int .i64 (-1), .int .i64 0, .int .i64 0, .int .i64 4, .int .i64 0, .int .i64 1, .int .i64 4, .int .i64 0, .int .i64 1, .int .i64 0, .int .i64 0, .int .i64 1, .int .i64 1, .int .i64 0, .int .i64 2, .int .i64 9, .int .i64 0, .int .i64 2, .int .i64 0, .int .i64 0, .int .i64 2, .int .i64 0, .int .i64 0, .int .i64 0, .int .i64 1, .int .i64 0, .int .i64 1, .int .i64 2, .int .i64 0] 35)) (k := 11) (by obtain ⟨xs, h1, h2⟩ := HO.out; exact ⟨xs, h1, World.ownsRow.alloc h2 _⟩) [0, 0, -1, 0, -1, 0, 0, 4, 0, 1, 4, 0, 1, 0, 0, 1, 1, 0, 2, 9, 0, 2, 0, 0, 2, 0, 0, 0, 1, 0, 1, 2, 0] rfl (g := wr.heap.size) (heap_alloc_new wr _) (Nat.le_trans HBj.out.size (by simp)) (by decide) 23
          obtain ⟨dd, hdd⟩ := hnd.ds
          have HRUN := Lib.hid hrun
          have HDS := Lib.hid hdd
          have hB5 : Below w4.heap.size w4 w5 := (HBj.out.alloc HBj.out.size _).trans hb5
          have HT5 := Lib.hid (HT4.out.below hB5)
          have HT2 := Lib.hid (HT5.out.take (j := 2) (by decide))
          have HB5 := Lib.hid (HBL.out.trans (hB5.mono HBL.out.size))
          clear hrun hnd hb5 HO hB5 hdd HBj HT4 HBL
          go_wp2_with (at_builtin; refine wpList_append_eq rfl _ _ 23 23 rfl _ _ _ _ rfl rfl HRUN.out ?_)
          refine (works_any w5).mono ?_
          rintro e w6 ⟨rfl, hb6⟩
          have HB6 := Lib.hid hb6
          clear hb6
          go_wp2_with fail
          refine (plays_any (HT5.out.below HB6.out) (HDS.out.below HB6.out)).mono ?_
          rintro e w7 ⟨rfl, hb7⟩
          have HB7 := Lib.hid (chn HB6.out hb7)
          clear hb7
          go_wp2_with fail
          refine (plays_any (TK.nil w7 (fun _ _ => 0)) (HDS.out.below HB7.out)).mono ?_
          rintro e w8 ⟨rfl, hb8⟩
          have HB8 := Lib.hid (chn HB7.out hb8)
          clear hb8
          go_wp2_with fail
          refine (plays_any (HT2.out.below HB8.out) (HDS.out.below HB8.out)).mono ?_
          rintro e w9 ⟨rfl, hb9⟩
          have HB9 := Lib.hid (chn HB8.out hb9)
          clear hb9
          go_wp2_with fail
          refine (once_any (HT5.out.below HB9.out) (HDS.out.below HB9.out)).mono ?_
          rintro e w10 ⟨rfl, hb10⟩
          have HB10 := Lib.hid (chn HB9.out hb10)
          clear hb10
          go_wp2_with fail
          go_ret
          exact ⟨rfl, HB5.out.trans (HB10.out.mono HB5.out.size)⟩
end Go.Proofs.Ytmheggedlepdlaa
