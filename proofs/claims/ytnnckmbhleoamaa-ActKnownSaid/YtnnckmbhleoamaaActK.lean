/- ActKnown. -/
import Derived.Test.YtnnckmbhleoamaaActN
import Derived.Test.YtnnckmbhleoamaaActH
import Derived.Test.YtnnckmbhleoamaaActQ
import Derived.Test.YtnnckmbhleoamaaActT
namespace Go.Proofs.Ytnnckmbhleoamaa
open Go.RowKit Ac
set_option linter.unusedVariables false

def ends : List Int := [-9223372036854775808, -1, 0, 1, 7, 8, 63, 64, 65, 9223372036854775807]
def texts : List ByteArray := [⟨#[]⟩, ⟨#[97]⟩, ⟨#[48, 49, 50, 51, 52, 53, 54, 55, 56, 57, 97, 98, 99, 100, 101, 102]⟩, ⟨#[48, 49, 50, 51, 52, 53, 54, 55, 56, 57, 97, 98, 99, 100, 101, 102, 48]⟩]
/-- numbers, and texts, that can be read -/
def EI (w : World) (g : Nat) (es : Nat → Int) : Prop := ∀ i, i < 10 → w.cell? ⟨g, i, none⟩ = some (.int .i64 (es i))
def ET (w : World) (g : Nat) (ts : Nat → ByteArray) : Prop := ∀ i, i < 4 → w.cell? ⟨g, i, none⟩ = some (.string (ts i))
theorem EI.below {w w' : World} {g : Nat} {es : Nat → Int} (h : EI w g es) (q : Below w.heap.size w w') : EI w' g es := fun i hi => (q.cell (lt_of_cell (h i hi))).trans (h i hi)
theorem ET.below {w w' : World} {g : Nat} {ts : Nat → ByteArray} (h : ET w g ts) (q : Below w.heap.size w w') : ET w' g ts := fun i hi => (q.cell (lt_of_cell (h i hi))).trans (h i hi)
theorem map_at {α : Type} (f : α → Value) (d : α) (l : List α) (i : Nat) (h : i < l.length) : ((l.map f).toArray)[i]? = some (f (l.getD i d)) := by
  rw [List.getElem?_toArray, List.getElem?_map, List.getElem?_eq_getElem h, List.getD_eq_getElem?_getD, List.getElem?_eq_getElem h]
  rfl
theorem ei_new (w : World) : EI (w.alloc (.cells (ends.map (Value.int .i64)).toArray 3)) w.heap.size (fun i => ends.getD i 0) := fun i hi => (cell_of_row _ _ i _ _ _ (heap_alloc_new w _)).trans (map_at _ _ ends i hi)
theorem et_new (w : World) : ET (w.alloc (.cells (texts.map Value.string).toArray 9)) w.heap.size (fun i => texts.getD i e0) := fun i hi => (cell_of_row _ _ i _ _ _ (heap_alloc_new w _)).trans (map_at _ _ texts i hi)
def zl : List Ak := List.replicate 32 o0
def fb : List Bool := List.replicate 40 false
theorem zl_len : zl.length = 32 := rfl
theorem zl_not : ¬ ∀ x ∈ zl, may x := fun h => absurd (h o0 (by unfold zl; simp)) (not_may_none rfl)
theorem make_32 (w : World) : (Instr.makeSlice 22 (.int .i64 32) (.int .i64 32)).run Try.prog w = .ok (.slice (some ⟨w.heap.size, 0, none⟩) 32 32) (w.alloc (.cells (acells zl).toArray 33)) := by kernel_rfl
theorem make_40 (w : World) : (Instr.makeSlice 23 (.int .i64 40) (.int .i64 40)).run Try.prog w = .ok (.slice (some ⟨w.heap.size, 0, none⟩) 40 40) (w.alloc (.cells (fb.map Value.bool).toArray 4)) := by kernel_rfl
theorem bl_lit {w : World} {g : Nat} {bs : List Bool} (h : w.heap[g]? = some (.cells (bs.map Value.bool).toArray 4 (0, 0))) (hl : bs.length ≤ maxLen) : BL w (.slice (some ⟨g, 0, none⟩) bs.length bs.length) bs :=
  ⟨_, _, rfl, Nat.le_refl _, hl, fun _ => ⟨g, 0, rfl, fun i hi => by rw [Nat.zero_add]; exact (cell_of_row _ _ i _ _ _ h).trans (map_at _ false bs i hi)⟩⟩
/-- thirty-two acts in a block -/
def MB (w : World) (g : Nat) (l : List Ak) : Prop := w.heap[g]? = some (.cells (acells l).toArray 33 (0, 0)) ∧ l.length = 32
theorem MB.at {w : World} {g k : Nat} {l : List Ak} (h : MB w g l) (hk : k < 32) : (∃ u, w.cell? ⟨g, k * 3, none⟩ = some u) ∧ (∃ u, w.cell? ⟨g, k * 3 + 1, none⟩ = some u) ∧ (∃ u, w.cell? ⟨g, k * 3 + 2, none⟩ = some u) ∧ w.frozen? ⟨g, k * 3, none⟩ = false ∧ w.frozen? ⟨g, k * 3 + 1, none⟩ = false ∧ w.frozen? ⟨g, k * 3 + 2, none⟩ = false := by
  obtain ⟨h1, h2⟩ := h
  obtain ⟨q1, q2, q3⟩ := acells_at l k (by omega)
  exact ⟨⟨_, (cell_of_row _ _ _ _ _ _ h1).trans (by rw [List.getElem?_toArray]; exact q1)⟩, ⟨_, (cell_of_row _ _ _ _ _ _ h1).trans (by rw [List.getElem?_toArray]; exact q2)⟩, ⟨_, (cell_of_row _ _ _ _ _ _ h1).trans (by rw [List.getElem?_toArray]; exact q3)⟩, frozen_of_row _ _ _ _ _ h1, frozen_of_row _ _ _ _ _ h1, frozen_of_row _ _ _ _ _ h1⟩
theorem MB.set {w : World} {g : Nat} {l : List Ak} (h : MB w g l) (k : Nat) (x : Ak) : MB (((w.setCell ⟨g, k * 3, none⟩ (.int .i64 x.k)).setCell ⟨g, k * 3 + 1, none⟩ (.int .i64 x.n)).setCell ⟨g, k * 3 + 2, none⟩ (.string x.s)) g (l.set k x) := by
  obtain ⟨h1, h2⟩ := h
  have q := heap_setCell_same _ _ (k * 3 + 2) _ _ (.string x.s) (heap_setCell_same _ _ (k * 3 + 1) _ _ (.int .i64 x.n) (heap_setCell_same _ _ (k * 3) _ _ (.int .i64 x.k) h1))
  refine ⟨?_, by rw [List.length_set]; exact h2⟩
  rw [acells_set]
  simpa using q
theorem MB.as {w : World} {g : Nat} {l : List Ak} (h : MB w g l) : AS w (.slice (some ⟨g, 0, none⟩) 32 32) l := by
  have := as_lit h.1 (by rw [h.2]; decide)
  rw [h.2] at this
  exact this
set_option maxRecDepth 100000 in
set_option maxHeartbeats 16000000 in
theorem known_law (w : World) : Calls Try.prog 7 #[] w (TrueB w) := by
  go_enter Try.func7, Try.ntmps7
  go_wp2_with fail
  go_loopw [1, 2] (fun v i wr => ∃ k : Nat, k ≤ 2 ∧ i = .int .i64 k ∧ Hid (NoneAt wr v) ∧ Hid (Below w.heap.size w wr)) (fun _ i _ => 2 - (intOf i).toNat)
  case atStart => exact ⟨0, by omega, rfl, Or.inl rfl, Below.refl _ _⟩
  case round =>
    rename_i v _
    obtain ⟨k, hk, rfl, HN, HB⟩ := hrel
    by_cases hk2 : k < 2
    · go_wp2_with fail
      refine (nn_next HN.out).mono ?_
      rintro e w1 ⟨rfl, hb⟩
      have hb1 := hb.alloc hb.size (.cells #[.int .i64 0, .int .i64 0, .string ⟨#[]⟩] 33)
      have HN1 := Lib.hid (HN.out.below hb1)
      have HB1 := Lib.hid (HB.out.trans (hb1.mono HB.out.size))
      clear hb hb1 HN HB
      go_wp2_with fail
      generalize w1.alloc (.cells #[.int .i64 0, .int .i64 0, .string ⟨#[]⟩] 33) = w2 at *
      generalize w1.heap.size = vb at *
      refine (nn_did HN1.out).mono ?_
      rintro e w3 ⟨rfl, hb⟩
      have HN2 := Lib.hid (HN1.out.below hb)
      have HB2 := Lib.hid (HB1.out.trans (hb.mono HB1.out.size))
      clear hb HN1 HB1
      go_wp2_with fail
      refine (nn_ran HN2.out).mono ?_
      rintro e w4 ⟨rfl, hb⟩
      have HN3 := Lib.hid (HN2.out.below hb)
      have HB3 := Lib.hid (HB2.out.trans (hb.mono HB2.out.size))
      clear hb HN2 HB2
      go_wp2_with fail
      refine (nn_done HN3.out).mono ?_
      rintro e w5 ⟨rfl, rfl⟩
      go_wp2_with fail
      refine (nn_left HN3.out).mono ?_
      rintro e w5 ⟨rfl, rfl⟩
      go_wp2_with fail
      refine (nn_rest HN3.out).mono ?_
      rintro e w5 ⟨rfl, rfl⟩
      have HA : Hid (NoneAt (w4.alloc (.cells #[.slice none 0 0] 48)) (.pointer (some ⟨w4.heap.size, 0, none⟩))) := Or.inr ⟨_, rfl, heap_alloc_new w4 _⟩
      have HBA : Hid (Below w.heap.size w (w4.alloc (.cells #[.slice none 0 0] 48))) := HB3.out.alloc HB3.out.size _
      clear HN3 HB3
      go_wp2_with fail
      go_roundw
      case rel => exact ⟨k + 1, by omega, by go_num, HA.out, HBA.out⟩
      case measure => simp [intOf]; omega
    · have hk3 : decide ((k : Int) < 2) = false := by simp; omega
      have HE : Hid (EI (wr.alloc (.cells #[.int .i64 (-9223372036854775808), .int .i64 (-1), .int .i64 0, .int .i64 1, .int .i64 7, .int .i64 8, .int .i64 63, .int .i64 64, .int .i64 65, .int .i64 9223372036854775807] 3)) wr.heap.size (fun i => ends.getD i 0)) := ei_new wr
      obtain ⟨wa, hwa⟩ : ∃ wa, wa = wr.alloc (.cells #[.int .i64 (-9223372036854775808), .int .i64 (-1), .int .i64 0, .int .i64 1, .int .i64 7, .int .i64 8, .int .i64 63, .int .i64 64, .int .i64 65, .int .i64 9223372036854775807] 3) := ⟨_, rfl⟩
      have HT : Hid (ET (wa.alloc (.cells #[.string ⟨#[]⟩, .string ⟨#[97]⟩, .string ⟨#[48, 49, 50, 51, 52, 53, 54, 55, 56, 57, 97, 98, 99, 100, 101, 102]⟩, .string ⟨#[48, 49, 50, 51, 52, 53, 54, 55, 56, 57, 97, 98, 99, 100, 101, 102, 48]⟩] 9)) wa.heap.size (fun i => texts.getD i e0)) := et_new wa
      rw [← hwa] at HE
      have HE2 := Lib.hid (HE.out.below (below_al wa (.cells #[.string ⟨#[]⟩, .string ⟨#[97]⟩, .string ⟨#[48, 49, 50, 51, 52, 53, 54, 55, 56, 57, 97, 98, 99, 100, 101, 102]⟩, .string ⟨#[48, 49, 50, 51, 52, 53, 54, 55, 56, 57, 97, 98, 99, 100, 101, 102, 48]⟩] 9)))
      have HBA : Hid (Below w.heap.size w wa) := by rw [hwa]; exact HB.out.alloc HB.out.size _
      have HB2 := Lib.hid (HBA.out.alloc HBA.out.size (.cells #[.string ⟨#[]⟩, .string ⟨#[97]⟩, .string ⟨#[48, 49, 50, 51, 52, 53, 54, 55, 56, 57, 97, 98, 99, 100, 101, 102]⟩, .string ⟨#[48, 49, 50, 51, 52, 53, 54, 55, 56, 57, 97, 98, 99, 100, 101, 102, 48]⟩] 9))
      have hsz : wa.heap.size = wr.heap.size + 1 := by rw [hwa]; simp
      rw [hsz] at HT
      rw [hwa] at HT HE2 HB2
      clear HN HB HE HBA hwa hsz
      go_wp2_with fail
      generalize (wr.alloc (.cells #[.int .i64 (-9223372036854775808), .int .i64 (-1), .int .i64 0, .int .i64 1, .int .i64 7, .int .i64 8, .int .i64 63, .int .i64 64, .int .i64 65, .int .i64 9223372036854775807] 3)).alloc (.cells #[.string ⟨#[]⟩, .string ⟨#[97]⟩, .string ⟨#[48, 49, 50, 51, 52, 53, 54, 55, 56, 57, 97, 98, 99, 100, 101, 102]⟩, .string ⟨#[48, 49, 50, 51, 52, 53, 54, 55, 56, 57, 97, 98, 99, 100, 101, 102, 48]⟩] 9) = w1 at *
      generalize wr.heap.size = eb at *
      generalize (fun i => ends.getD i 0) = es at *
      generalize (fun i => texts.getD i e0) = ts at *
      go_loopw [7] (fun d wi => ∃ kd : Int, -1 ≤ kd ∧ kd ≤ 11 ∧ d = .int .i64 kd ∧ Hid (EI wi eb es) ∧ Hid (ET wi (eb + 1) ts) ∧ Hid (Below w.heap.size w wi)) (fun d _ => (11 - intOf d).toNat)
      case atStart => exact ⟨-1, by omega, by omega, rfl, HE2.out, HT.out, HB2.out⟩
      case round =>
        clear HE2 HT HB2
        obtain ⟨kd, hd1, hd2, rfl, HE, HT, HB⟩ := hrel
        by_cases hd : kd < 11
        · have hdd : decide (kd < 11) = true := by simpa using hd
          go_wp2_with fail
          go_loopw [8] (fun i wi => ∃ i0 : Nat, i0 ≤ 10 ∧ i = .int .i64 i0 ∧ Hid (EI wi eb es) ∧ Hid (ET wi (eb + 1) ts) ∧ Hid (Below w.heap.size w wi)) (fun i _ => 10 - (intOf i).toNat)
          case atStart => exact ⟨0, by omega, rfl, HE.out, HT.out, HB.out⟩
          case round =>
            clear HE HT HB
            obtain ⟨i0, hi, rfl, HE, HT, HB⟩ := hrel
            by_cases hi10 : i0 < 10
            · have hid1 : decide ((i0 : Int) < 10) = true := by simp; omega
              have hiI : (i0 : Int) < 10 := by omega
              go_wp2_with fail
              go_loopw [9] (fun i wi => ∃ j : Nat, j ≤ 4 ∧ i = .int .i64 j ∧ Hid (EI wi eb es) ∧ Hid (ET wi (eb + 1) ts) ∧ Hid (Below w.heap.size w wi)) (fun i _ => 4 - (intOf i).toNat)
              case atStart => exact ⟨0, by omega, rfl, HE.out, HT.out, HB.out⟩
              case round =>
                clear HE HT HB
                obtain ⟨j, hj, rfl, HE, HT, HB⟩ := hrel
                by_cases hj4 : j < 4
                · have hjd : decide ((j : Int) < 4) = true := by simp; omega
                  have hjI : (j : Int) < 4 := by omega
                  have hj0 : (0 : Int) ≤ j := by omega
                  have hi0 : (0 : Int) ≤ i0 := by omega
                  have c0 := HE.out i0 hi10
                  have c1 := HT.out j hj4
                  have c0a : ∀ o, (wr.alloc o).cell? ⟨eb, i0, none⟩ = some (.int .i64 (es i0)) := fun o => (World.cell?_alloc_lt wr o _ (lt_of_cell c0)).trans c0
                  have c1a : ∀ o, (wr.alloc o).cell? ⟨eb + 1, j, none⟩ = some (.string (ts j)) := fun o => (World.cell?_alloc_lt wr o _ (lt_of_cell c1)).trans c1
                  generalize es i0 = y at *
                  generalize ts j = s at *
                  have HAB : Hid (AB (wr.alloc (.cells #[.int .i64 kd, .int .i64 y, .string s] 33)).drew wr.heap.size kd y s) := AB.new wr kd y s
                  have hbw := below_drew (below_al wr (.cells #[.int .i64 kd, .int .i64 y, .string s] 33))
                  have HE1 := Lib.hid (HE.out.below hbw)
                  have HT1 := Lib.hid (HT.out.below hbw)
                  have HB1 := Lib.hid (HB.out.trans (hbw.mono HB.out.size))
                  clear hbw HE HT HB
                  go_wp2_with fail
                  go_region
                  all_goals
                    clear c0 c1 c0a c1a
                    obtain ⟨v0, v1, v2⟩ := HAB.out.cells
                    generalize (wr.alloc (.cells #[.int .i64 kd, .int .i64 y, .string s] 33)).drew = x1 at *
                    generalize wr.heap.size = vb at *
                    go_wp2_with fail
                    refine (checks_law _ kd y s).mono ?_
                    rintro e x2 ⟨rfl, hb⟩
                    have hb2 := (hb.alloc hb.size (.cells #[.int .i64 kd, .int .i64 y, .string s] 33)).alloc (by have := hb.size; simp; omega) (.cells #[.bool false, .bool true] 4)
                    have HE2 := Lib.hid (HE1.out.below hb2)
                    have HT2 := Lib.hid (HT1.out.below hb2)
                    have HB2 := Lib.hid (HB1.out.trans (hb2.mono HB1.out.size))
                    have HAS : Hid (AS ((x2.alloc (.cells #[.int .i64 kd, .int .i64 y, .string s] 33)).alloc (.cells #[.bool false, .bool true] 4)) (.slice (some ⟨x2.heap.size, 0, none⟩) 1 1) [⟨kd, y, s⟩]) := (as_lit (l := [⟨kd, y, s⟩]) (heap_alloc_new x2 _) (show 1 ≤ maxLen by decide)).below (below_al _ _)
                    have hbl := bl_lit (w := (x2.alloc (.cells #[.int .i64 kd, .int .i64 y, .string s] 33)).alloc (.cells #[.bool false, .bool true] 4)) (bs := [false, true]) (heap_alloc_new (x2.alloc (.cells #[.int .i64 kd, .int .i64 y, .string s] 33)) _) (show 2 ≤ maxLen by decide)
                    rw [World.size_alloc] at hbl
                    have HBL := Lib.hid hbl
                    obtain ⟨z0, z1, z2⟩ := (HAB.out.below hb).cells
                    clear hb hb2 hbl HE1 HT1 HB1 HAB v0 v1 v2
                    go_wp2_with fail
                    refine (plays_any HAS.out HBL.out).mono ?_
                    rintro e x3 ⟨rfl, hb⟩
                    have HE3 := Lib.hid (HE2.out.below hb)
                    have HT3 := Lib.hid (HT2.out.below hb)
                    have HB3 := Lib.hid (HB2.out.trans (hb.mono HB2.out.size))
                    clear hb HE2 HT2 HB2 HAS HBL z0 z1 z2
                    go_wp2_with fail
                    go_roundw
                    case rel => exact ⟨j + 1, by omega, by go_num, HE3.out, HT3.out, HB3.out⟩
                    case measure => simp [intOf]; omega
                · have hjd : decide ((j : Int) < 4) = false := by simp; omega
                  go_wp2_with fail
                  go_roundw
                  case rel => exact ⟨i0 + 1, by omega, by go_num, HE.out, HT.out, HB.out⟩
                  case measure => simp [intOf]; omega
            · have hid1 : decide ((i0 : Int) < 10) = false := by simp; omega
              go_wp2_with fail
              go_roundw
              case rel => exact ⟨kd + 1, by omega, by omega, rfl, HE.out, HT.out, HB.out⟩
              case measure => simp [intOf]; omega
        · have hdd : decide (kd < 11) = false := by simpa using hd
          have hmk := make_32
          have hmk2 := make_40
          have HM0 := Lib.hid (show MB (wr.alloc (.cells (acells zl).toArray 33)) wr.heap.size zl from ⟨heap_alloc_new wr _, zl_len⟩)
          have HB0 := Lib.hid (HB.out.alloc HB.out.size (.cells (acells zl).toArray 33))
          clear HE HT HB
          go_wp2_with fail
          refine (new_no HM0.out.as (by rw [zl_len]; exact Nat.le_refl _) zl_not).mono ?_
          rintro e x1 ⟨rfl, hb⟩
          have HB1 := Lib.hid (HB0.out.trans (hb.mono HB0.out.size))
          have HB2 := Lib.hid (HB1.out.alloc HB1.out.size (.cells (acells zl).toArray 33))
          have HM1 := Lib.hid (show MB (x1.alloc (.cells (acells zl).toArray 33)) x1.heap.size zl from ⟨heap_alloc_new x1 _, zl_len⟩)
          have HG := Lib.hid HB1.out.size
          clear hb HB0 HM0 HB1
          go_wp2_with fail
          generalize x1.alloc (.cells (acells zl).toArray 33) = x2 at *
          generalize x1.heap.size = mg at *
          generalize zl = l0 at HM1
          clear hmk
          go_loopw [14] (fun i wi => ∃ j : Nat, j ≤ 32 ∧ i = .int .i64 j ∧ ∃ l : List Ak, Hid (MB wi mg l) ∧ Hid (Below w.heap.size w wi)) (fun i _ => 32 - (intOf i).toNat)
          case atStart => exact ⟨0, by omega, rfl, l0, HM1.out, HB2.out⟩
          case round =>
            clear HM1 HB2
            obtain ⟨j, hj, rfl, l, HM, HB⟩ := hrel
            by_cases hj32 : j < 32
            · have hjd : decide ((j : Int) < 32) = true := by simp; omega
              have hjI : (j : Int) < 32 := by omega
              have hj0 : (0 : Int) ≤ j := by omega
              obtain ⟨⟨u0, q0⟩, ⟨u1, q1⟩, ⟨u2, q2⟩, f0, f1, f2⟩ := HM.out.at hj32
              have HM2 := Lib.hid (HM.out.set j ⟨3, 0, e0⟩)
              have HB2 := Lib.hid (iw_below HB.out HG.out j (.int .i64 3) (.int .i64 0) (.string ⟨#[]⟩))
              clear HM HB
              go_wp2_with fail
              go_roundw
              case rel => exact ⟨j + 1, by omega, by go_num, _, HM2.out, HB2.out⟩
              case measure => simp [intOf]; omega
            · have hjd : decide ((j : Int) < 32) = false := by simp; omega
              go_wp2_with fail
              refine (works_any _).mono ?_
              rintro e x3 ⟨rfl, hb⟩
              have hb2 := hb.alloc hb.size (.cells (fb.map Value.bool).toArray 4)
              have HA3 := Lib.hid (HM.out.as.below hb2)
              have HBL := Lib.hid (bl_lit (bs := fb) (heap_alloc_new x3 _) (show 40 ≤ maxLen by decide))
              have HB3 := Lib.hid (HB.out.trans (hb2.mono HB.out.size))
              clear hb hb2 HM HB
              go_wp2_with fail
              refine (plays_any HA3.out HBL.out).mono ?_
              rintro e x4 ⟨rfl, hb⟩
              have HA4 := Lib.hid (HA3.out.below hb)
              have HB4 := Lib.hid (HB3.out.trans (hb.mono HB3.out.size))
              clear hb HA3 HB3 HBL
              go_wp2_with fail
              refine (through_law HA4.out).mono ?_
              rintro e x5 ⟨rfl, hb⟩
              have HB5 := Lib.hid (HB4.out.trans (hb.mono HB4.out.size))
              clear hb
              go_wp2_with fail
              go_ret
              exact ⟨rfl, HB5.out⟩
end Go.Proofs.Ytnnckmbhleoamaa
