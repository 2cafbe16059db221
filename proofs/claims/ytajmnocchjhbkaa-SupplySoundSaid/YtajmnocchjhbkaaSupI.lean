/- SupplySound. -/
import Derived.Test.YtajmnocchjhbkaaSupG
import Derived.Lib.SmallJoins
namespace Go.Proofs.Ytajmnocchjhbkaa
open Go.RowKit Tk Su
set_option linter.unusedVariables false

/-- bools that can be read -/
def LB (W : World) (u : Value) (bs : List Bool) : Prop := ∃ g cap, u = .slice (some ⟨g, 0, none⟩) bs.length cap ∧ ∀ i, i < bs.length → W.cell? ⟨g, i, none⟩ = some (.bool (bt bs i))
theorem OB.read {W : World} {B : Nat} {u : Value} {bs : List Bool} (h : OB W B u bs) (h0 : 0 < bs.length) : LB W u bs := by
  obtain ⟨g, cap, rfl⟩ := Joins.ownsRow_form h h0
  refine ⟨g, cap, rfl, fun i hi => ?_⟩
  rw [World.ownsRow.cellAt h i (by omega)]
  simp [List.getElem?_eq_getElem hi, bt, List.getD]
theorem LB.below {W W' : World} {u : Value} {bs : List Bool} (h : LB W u bs) (q : Below W.heap.size W W') : LB W' u bs := by
  obtain ⟨g, cap, e, hc⟩ := h
  exact ⟨g, cap, e, fun i hi => (q.cell (World.block_lt_of_cell? W _ (hc i hi))).trans (hc i hi)⟩
set_option maxRecDepth 100000 in
set_option maxHeartbeats 2000000 in
theorem sound_law {w : World} {v : Value} {xs : List Int} (x y f : Int) (hx : -9223372036854775808 ≤ x) (hy : -9223372036854775808 ≤ y) (hf : -9223372036854775808 ≤ f) (hv : IS w v xs) (hr : ∀ x ∈ xs, (Lit.int .i64 x).wf = true) :
    Calls Try.prog 5 #[sv x y, v, .int .i64 f] w (TrueB w) := by
  obtain ⟨P, B, hB, hBP, hP, hM⟩ := made_any x y hx hy
  obtain ⟨a, cap, rfl, hcap, hmx⟩ := hv.slice
  have HM := Lib.hid hM
  have HV := Lib.hid hv
  have HR := Lib.hid hr
  clear hM hv hr
  obtain ⟨len, hlen⟩ : ∃ len, len = xs.length := ⟨_, rfl⟩
  rw [← hlen] at hcap HV ⊢
  unfold maxLen at hmx
  clear hlen
  go_enter Try.func5, Try.ntmps5
  go_wp2_with fail
  refine (works_any _).mono ?_
  rintro e w0 ⟨rfl, hb0⟩
  have HB0 := Lib.hid (bel_of_alloc hb0)
  have c0 := cell_of_row _ _ 0 _ _ _ ((hb0.block w.heap.size (by simp)).trans (heap_alloc_new w _))
  have c1 := cell_of_row _ _ 1 _ _ _ ((hb0.block w.heap.size (by simp)).trans (heap_alloc_new w _))
  have HC0 := Lib.hid hb0
  clear hb0
  go_wp2_with fail
  refine (HM.out _).mono ?_
  rintro e w1 ⟨rfl, hb⟩
  obtain ⟨f0, f1, c0', c1', hs⟩ := SB.made P B (chn HC0.out hb)
  have HS := Lib.hid hs
  have HV1 := Lib.hid (HV.out.below HS.out.2)
  clear hb HM hs c0 c1 HC0 HB0 HV
  go_wp2_with fail
  clear f0 f1 c0' c1'
  generalize (w1.setCell ⟨w.heap.size, 0, none⟩ (.int .i64 P)).setCell ⟨w.heap.size, 1, none⟩ (.int .i64 B) = W at *
  have c0 := HS.out.c0
  have c1 := HS.out.c1
  refine (runs_any hB hBP hP HV1.out HR.out).mono ?_
  rintro e w2 ⟨u, bs, rfl, hO, hl, hRn, hb2⟩
  have hPB : 0 < 40 * P := by omega
  have HL := Lib.hid (OB.read hO (by omega))
  have HS2 := Lib.hid (HS.out.below hb2)
  have HRn := Lib.hid hRn
  clear hO hb2 HS HV1 HR hRn c0 c1
  obtain ⟨g, cap2, rfl, hcells⟩ := HL.out
  clear hcells
  obtain ⟨A, hA, hA2⟩ := bring_nat f (m := 40 * P) hPB
  have HA := Lib.hid (fun w => bring_any f ((40 * P : Nat) : Int) w hf (by omega) (by omega))
  rw [hA] at HA
  rw [hl] at HL ⊢
  clear hA
  obtain ⟨M, hM⟩ : ∃ M, M = 40 * P := ⟨_, rfl⟩
  have HMM := Lib.hid hM
  rw [← hM] at HA hA2 hl hPB HL ⊢
  have hM64 : M ≤ 2560 := by omega
  clear hM
  go_wp2_with fail
  refine (HA.out _).mono ?_
  rintro e w3 ⟨rfl, rfl⟩
  go_wp2_with fail
  go_loopw [8, 10, 11, 12] (fun n t _ _ W' => ∃ k : Nat, k ≤ 150 ∧ A + k ≤ M ∧ t = .int .i64 k ∧ n = .int .i64 (cnt (bt bs) A k : Nat) ∧ Hid (SB w W' P B) ∧ Hid (LB W' (.slice (some ⟨g, 0, none⟩) M cap2) bs)) (fun _ t _ _ _ => 150 - (intOf t).toNat)
  case atStart => exact ⟨0, by omega, by omega, rfl, rfl, HS2.out, HL.out⟩
  case round =>
    clear HS2 HL
    obtain ⟨k, hk, hkM, rfl, rfl, HS, HL⟩ := hrel
    have c0 := HS.out.c0
    have c1 := HS.out.c1
    by_cases hlt : k < 150 ∧ A + k < M
    · obtain ⟨h1, h2⟩ := hlt
      have hn := cnt_succ (bt bs) A k
      have hle := cnt_le (bt bs) A k
      have hsnd := sound hB hBP HRn.out (a := A) (t := k) (by have := HMM.out; omega)
      have HO := Lib.hid (of_fit (ofN_ok hB hBP hP (show k ≤ 1048576 by omega)) (ofE_ok hB hBP hP (show k ≤ 1048576 by omega)))
      generalize sp P (P - B) k = S at *
      generalize cnt (bt bs) A k = n at *
      have HN := Lib.hid hn
      clear hn
      obtain ⟨g', cap', e, hcells⟩ := HL.out
      obtain ⟨rfl, rfl⟩ : g = g' ∧ cap2 = cap' := by simp at e; exact ⟨e.1, e.2.2⟩
      have cl := hcells (A + k) (by omega)
      have hi0 : (0 : Int) ≤ (A : Int) + k := by omega
      have hi1 : (A : Int) + k < M := by omega
      have hd : decide ((A : Int) + k < M) = true := by simp; omega
      have HCL := Lib.hid cl
      clear hcells e cl
      go_wp2_with fail
      refine (HO.out _).mono ?_
      rintro e w4 ⟨rfl, hb⟩
      have HS2 := Lib.hid (HS.out.below hb)
      have HL2 := Lib.hid (HL.out.below hb)
      have cl := (hb.cell (World.block_lt_of_cell? wr _ HCL.out)).trans HCL.out
      clear hb HS HL HCL c0 c1
      cases hbit : bt bs (A + k) with
      | true =>
        rw [hbit] at cl
        have HN2 := Lib.hid (HN.out.trans (by rw [hbit]; rfl : _ = n + 1))
        clear HN hbit
        go_wp2_with fail
        go_roundw
        case rel => exact ⟨k + 1, by omega, by omega, by go_num, by rw [HN2.out]; rfl, HS2.out, HL2.out⟩
        case measure => simp [intOf]; omega
      | false =>
        rw [hbit] at cl
        have HN2 := Lib.hid (HN.out.trans (by rw [hbit]; rfl : _ = n))
        clear HN hbit
        go_wp2_with fail
        go_roundw
        case rel => exact ⟨k + 1, by omega, by omega, by go_num, by rw [HN2.out], HS2.out, HL2.out⟩
        case measure => simp [intOf]; omega
    · by_cases h1 : k < 150
      · have hd : decide ((A : Int) + k < M) = false := by simp; omega
        go_wp2_with fail
        go_ret
        exact ⟨rfl, HS.out.2⟩
      · obtain rfl : k = 150 := by omega
        go_wp2_with fail
        go_ret
        exact ⟨rfl, HS.out.2⟩
end Go.Proofs.Ytajmnocchjhbkaa
