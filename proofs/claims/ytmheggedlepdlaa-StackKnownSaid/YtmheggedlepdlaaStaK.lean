/- The program's stack: Unlock. -/
import Derived.Test.YtmheggedlepdlaaStaJ
namespace Go.Proofs.Ytmheggedlepdlaa
open Go.RowKit Lv Sk Go.Sort
set_option linter.unusedVariables false

set_option maxHeartbeats 4000000 in
theorem unl_any {w : World} {sb n : Nat} {z : Nat → Nat → Int} {l : List En} {tv lv : Value} (h : SO w sb n z l tv lv) (hl : l.length ≤ 900) (t : Int) :
    Calls Try.prog 16 #[.pointer (some ⟨sb, 0, none⟩), .int .i64 t] w (StQ w sb n z tv lv (unlV n l t) (unlN n l t)) := by
  obtain ⟨a, cap, rfl, hn1, hn2⟩ := h.pe.es.slice
  obtain ⟨c0, c1⟩ := h.cells
  have HP := Lib.hid h
  have HN := Lib.hid (none_any h)
  have HT := Lib.hid (task_any h t)
  obtain ⟨m, hm⟩ : ∃ m, m = l.length := ⟨_, rfl⟩
  have HM := Lib.hid hm
  rw [← hm] at hl hn1 HP c1 ⊢
  clear h hm
  have mixed : Try.prog.follows .mixedOrders = true := by kernel_rfl
  cases h0 : (decide (0 ≤ t) && decide (t < (n : Int))) with
  | false =>
    rw [h0] at HT
    have HE : Hid (unlV n l t = .tuple #[.int .i64 0, .int .i64 9] ∧ unlN n l t = l) := by
      have hh : ¬ (0 ≤ t ∧ t < (n : Int)) := by simpa using h0
      exact ⟨by unfold unlV unlE; rw [if_neg hh, if_neg hh], if_neg hh⟩
    clear h0
    go_enter Try.func16, Try.ntmps16
    go_wp2_with fail
    refine HN.out.mono ?_
    rintro e w1 ⟨rfl, rfl⟩
    go_wp2_with fail
    refine HT.out.mono ?_
    rintro e w1 ⟨rfl, rfl⟩
    go_wp2_with fail
    go_ret2
    rw [HE.out.1, HE.out.2]
    exact StQ.same HP.out (Below.refl _ _)
  | true =>
  rw [h0] at HT
  have hh : 0 ≤ t ∧ t < (n : Int) := by simpa using h0
  have HV : Hid (unlV n l t = .tuple #[.int .i64 (unlR l t), .int .i64 (unlE n l t)] ∧ unlN n l t = unlL l t) := ⟨by unfold unlV; rw [if_pos hh], if_pos hh⟩
  have HU : Hid (unlE n l t = match unl l t l.length with | some _ => 0 | none => 132) := if_pos hh
  have HS0 := Lib.hid (And.intro c1 (Below.refl w.heap.size w))
  clear h0 hh
  obtain ⟨o, ho⟩ : ∃ o, unl l t l.length = o := ⟨_, rfl⟩
  have HO := Lib.hid ho
  rcases o with _ | k
  · have HE : Hid (unlV n l t = .tuple #[.int .i64 0, .int .i64 132] ∧ unlN n l t = l) := by
      have h1 := HU.out
      rw [ho] at h1
      refine ⟨?_, ?_⟩
      · rw [HV.out.1, h1]; unfold unlR; rw [ho]
      · rw [HV.out.2]; unfold unlL; rw [ho]
    clear ho HV HU
    go_enter Try.func16, Try.ntmps16
    go_wp2_with fail
    refine HN.out.mono ?_
    rintro e w1 ⟨rfl, rfl⟩
    go_wp2_with fail
    refine HT.out.mono ?_
    rintro e w1 ⟨rfl, rfl⟩
    go_wp2_with fail
    clear HT HN
    go_region_held3 (fun w' => w'.cell? ⟨sb, 0 + 1, none⟩ = some (.slice a m cap) ∧ Below w.heap.size w w')
      (first | assumption | exact HS0.out | exact ⟨HS0.out.1, HS0.out.2.drew⟩ | go_keep)
      (first | (go_at_call 39; refine (isby_any _ t).mono ?_; rintro e w2 ⟨B, rfl, hcb, hb2⟩; have HCB := Lib.hid hcb; have HB2 := Lib.hid (show Below w.heap.size w w2 from chn (Below.drew (Below.refl _ _)) hb2); have hS2 : w2.cell? ⟨sb, 0 + 1, none⟩ = some (.slice a m cap) ∧ Below w.heap.size w w2 := ⟨(HB2.out.cell (lt_of_cell c1)).trans c1, HB2.out⟩)
             | (go_at_call 38; refine (lastby_any (HP.out.below HB2.out).pe.es HCB.out (by rw [← HM.out]; omega)).mono ?_; rw [HO.out]; rintro e w3 ⟨rfl, hb3⟩; have HB3 := Lib.hid (chn HB2.out hb3); have hS3 : w3.cell? ⟨sb, 0 + 1, none⟩ = some (.slice a m cap) ∧ Below w.heap.size w w3 := ⟨(HB3.out.cell (lt_of_cell c1)).trans c1, HB3.out⟩))
    all_goals
      go_wp2_with fail
      go_ret2
      rw [HE.out.1, HE.out.2]
      exact StQ.same HP.out HB3.out
  · obtain ⟨hkl, _, _⟩ := unl_some ho
    have HE : Hid (unlV n l t = .tuple #[.int .i64 (l.getD k e0).2, .int .i64 0] ∧ unlN n l t = cut l k) := by
      have h1 := HU.out
      rw [ho] at h1
      refine ⟨?_, ?_⟩
      · rw [HV.out.1, h1]; unfold unlR; rw [ho]
      · rw [HV.out.2]; unfold unlL; rw [ho]
    have HK := Lib.hid hkl
    have hkm : k < m := by rw [HM.out]; exact hkl
    have hok : oN (some k) = (k : Int) := rfl
    have hok2 : (some k).isSome = true := rfl
    clear ho HV HU hkl
    go_enter Try.func16, Try.ntmps16
    go_wp2_with fail
    refine HN.out.mono ?_
    rintro e w1 ⟨rfl, rfl⟩
    go_wp2_with fail
    refine HT.out.mono ?_
    rintro e w1 ⟨rfl, rfl⟩
    go_wp2_with fail
    clear HT HN
    go_region_held3 (fun w' => w'.cell? ⟨sb, 0 + 1, none⟩ = some (.slice a m cap) ∧ Below w.heap.size w w')
      (first | assumption | exact HS0.out | exact ⟨HS0.out.1, HS0.out.2.drew⟩ | go_keep)
      (first | (go_at_call 39; refine (isby_any _ t).mono ?_; rintro e w2 ⟨B, rfl, hcb, hb2⟩; have HCB := Lib.hid hcb; have HB2 := Lib.hid (show Below w.heap.size w w2 from chn (Below.drew (Below.refl _ _)) hb2); have hS2 : w2.cell? ⟨sb, 0 + 1, none⟩ = some (.slice a m cap) ∧ Below w.heap.size w w2 := ⟨(HB2.out.cell (lt_of_cell c1)).trans c1, HB2.out⟩)
             | (go_at_call 38; refine (lastby_any (HP.out.below HB2.out).pe.es HCB.out (by rw [← HM.out]; omega)).mono ?_; rw [HO.out, hok, hok2]; rintro e w3 ⟨rfl, hb3⟩; have HB3 := Lib.hid (chn HB2.out hb3); have hS3 : w3.cell? ⟨sb, 0 + 1, none⟩ = some (.slice a m cap) ∧ Below w.heap.size w w3 := ⟨(HB3.out.cell (lt_of_cell c1)).trans c1, HB3.out⟩))
    all_goals
      have HP3 := Lib.hid (HP.out.below HB3.out)
      obtain ⟨c2, c3⟩ := HP3.out.cells
      obtain ⟨b, off, rfl, d0, d1⟩ := HP3.out.pe.es.at hkm
      obtain ⟨y, hy⟩ : ∃ y, (l.getD k e0).2 = y := ⟨_, rfl⟩
      rw [hy] at d1 HE
      have HW := Lib.hid (without_any HP3.out.pe HK.out (by have := lt_of_block HP3.out.ob; omega) (by rw [← HM.out]; omega))
      clear hy d0 HCB hcb hb2 hS2 hb3 hS3 HB2 HS0 hok hok2 HK HO
      go_wp2_with fail
      refine HW.out.mono ?_
      rintro e w4 ⟨va, vc, rfl, hpe, hb4, hbk⟩
      have hP4 := HP3.out.below hb4
      have s1 : w4.cell? ⟨sb, 0 + 1, none⟩ = some (.slice (some ⟨b, off, none⟩) m cap) := hP4.cells.2
      have s2 : w4.frozen? ⟨sb, 0 + 1, none⟩ = false := frozen_of_row _ _ _ _ _ hP4.ob
      have HPUT := Lib.hid (SO.put HP.out HB3.out hpe ⟨hb4.os, hb4.tape, hb4.output, hb4.size, fun j hj _ => hb4.block j hj⟩ hbk)
      clear hpe hb4 hbk hP4 HW
      go_wp2_with fail
      go_ret2
      rw [HE.out.1, HE.out.2]
      exact ⟨rfl, _, HPUT.out⟩
end Go.Proofs.Ytmheggedlepdlaa
