/- BellNext. -/
import Derived.Test.YtdfolbnnhglpeaaBellH
import Derived.StillTailTactics
namespace Go.Proofs.Ytdfolbnnhglpeaa
open Go.RowKit Rk
set_option linter.unusedVariables false

/-- a list of calls that came in: its cells -/
def Calls4 (w : World) (b off n : Nat) (zw zk zi za : Nat → Int) : Prop :=
  ∀ i, i < n → w.cell? ⟨b, off + i * 4, none⟩ = some (.int .i64 (zw i)) ∧ w.cell? ⟨b, off + i * 4 + 1, none⟩ = some (.int .i64 (zk i)) ∧ w.cell? ⟨b, off + i * 4 + 2, none⟩ = some (.int .i64 (zi i)) ∧ w.cell? ⟨b, off + i * 4 + 3, none⟩ = some (.int .i64 (za i))
theorem Calls4.below {w w' : World} {b off n : Nat} {zw zk zi za : Nat → Int} (h : Calls4 w b off n zw zk zi za) (hb : Below w.heap.size w w') : Calls4 w' b off n zw zk zi za := by
  intro i hi
  obtain ⟨h1, h2, h3, h4⟩ := h i hi
  have hl := World.block_lt_of_cell? w _ h1
  exact ⟨(hb.cell (p := ⟨b, off + i * 4, none⟩) hl).trans h1, (hb.cell (p := ⟨b, off + i * 4 + 1, none⟩) hl).trans h2, (hb.cell (p := ⟨b, off + i * 4 + 2, none⟩) hl).trans h3, (hb.cell (p := ⟨b, off + i * 4 + 3, none⟩) hl).trans h4⟩
theorem OB.drew {B : Nat} {W w : World} {bb rb hb : Nat} {P : List En} (h : OB B W w bb rb hb P) : OB B W w.drew bb rb hb P := h.below (Below.refl _ _).drew
theorem cut_before {x : En} {P : List En} (h : Wf (x :: P)) : Cut (x :: P) (x.2 - 1) [] (x :: P) :=
  ⟨rfl, fun y hy => (nomatch hy), fun y hy => by
    rcases List.mem_cons.1 hy with rfl | hy
    · omega
    · have := h.rest y hy; omega⟩
theorem cut_at {x : En} {P a b : List En} (h : Wf (x :: P)) (c : Cut (x :: P) x.2 a b) : ∃ m, a.length = m + 1 ∧ b.length ≤ P.length ∧ ∀ (i : Nat) (hi : i < a.length), (a[i]).2 = x.2 := by
  cases a with
  | nil =>
    have e := c.eq
    simp only [List.nil_append] at e
    have := c.left x (by rw [← e]; simp)
    omega
  | cons y a =>
    refine ⟨a.length, rfl, ?_, fun i hi => ?_⟩
    · have := congrArg List.length c.eq
      simp only [List.length_cons, List.length_append] at this
      omega
    · have h1 := c.due _ (List.getElem_mem hi)
      have hm : (y :: a)[i] ∈ x :: P := by rw [c.eq]; exact List.mem_append_left _ (List.getElem_mem hi)
      rcases List.mem_cons.1 hm with e | hm
      · rw [e]
      · have := h.rest _ hm; omega

set_option maxRecDepth 100000 in
set_option maxHeartbeats 8000000 in
theorem next_law (b off cap n0 : Nat) (zw zk zi za : Nat → Int) (w : World) (hle : n0 ≤ cap) (hmx : cap ≤ 9223372036854775807) (hpos : 0 < n0) (hc : Calls4 w b off n0 zw zk zi za) :
    Calls Try.prog 5 #[.slice (some ⟨b, off, none⟩) n0 cap] w (TrueB w) := by
  have HC := Lib.hid hc
  clear hc
  go_enter Try.func5, Try.ntmps5
  go_wp2_with fail
  refine (ob_new w).mono ?_
  rintro e w1 ⟨bb, rb, hb, rfl, h1⟩
  have H1 := Lib.hid h1; clear h1
  go_wp2_with fail
  go_loopw [4] (fun i wr => ∃ (i' : Nat) (P : List En), i' ≤ n0 ∧ i' ≤ 100 ∧ i = .int .i64 i' ∧ Hid (OB w.heap.size w wr bb rb hb P)) (fun i _ => n0 - (intOf i).toNat)
  case atStart => exact ⟨0, [], Nat.zero_le _, Nat.zero_le _, rfl, H1.out⟩
  case round =>
    clear H1
    obtain ⟨i, P, hi, hi2, rfl, H⟩ := hrel
    by_cases hg : i < n0 ∧ i < 100
    · obtain ⟨hin, hi3⟩ := hg
      have hd1 : decide ((i : Int) < 100) = true := by simp; omega
      obtain ⟨i1, i2, i3, i4⟩ := Calls4.below HC.out H.out.bel i hin
      have j2 : wr.drew.cell? ⟨b, off + i * 4 + 1, none⟩ = some (.int .i64 (zk i)) := i2
      have j3 : wr.drew.cell? ⟨b, off + i * 4 + 2, none⟩ = some (.int .i64 (zi i)) := i3
      have j4 : wr.drew.cell? ⟨b, off + i * 4 + 3, none⟩ = some (.int .i64 (za i)) := i4
      have HA := Lib.hid (ob_arm (bringN (zk i) 4) (bringN (zi i) 16) (bringN (za i) 1000) _ H.out.drew rfl rfl)
      have HP2 : Hid (Wf P) := H.out.wf
      have mixed : Try.prog.follows .mixedOrders = true := by kernel_rfl
      clear i1 i2 i3 i4 H
      go_wp2_with fail
      refine wp_region_still_tail 19 mixed (by kernel_rfl) ?_
      simp only [List.take_succ_cons, List.take_zero, List.drop_succ_cons, List.drop_zero]
      change wpStill _ _ wr.drew _ _ _
      clear mixed
      repeat still_step
      still_call ((bring_any _ 4 _ (by omega) (by omega)).mono fun _ _ h => ⟨h.1, h.2.symm⟩)
      repeat still_step
      still_call ((bring_any _ 16 _ (by omega) (by omega)).mono fun _ _ h => ⟨h.1, h.2.symm⟩)
      repeat still_step
      still_call ((bring_any _ 1000 _ (by omega) (by omega)).mono fun _ _ h => ⟨h.1, h.2.symm⟩)
      refine wpStill_nil ?_
      go_wp2_with fail
      refine HA.out.mono ?_
      rintro e w2 ⟨rfl, h2⟩
      have H2 := Lib.hid h2
      clear h2 HA j2 j3 j4
      go_wp2_with fail
      go_roundw
      case rel => exact ⟨i + 1, _, by omega, by omega, by go_num, H2.out⟩
      case measure => simp [intOf]; omega
    · have hgo : Hid (OB w.heap.size w wr bb rb hb P ∧ P.length + 0 ≤ 64) := ⟨H.out, H.out.wf.len⟩
      by_cases hin : i < n0
      · have hd1 : decide ((i : Int) < 100) = false := by simp; omega
        clear H
        go_wp2_with fail
        go_loopw [5] (fun i wr => ∃ (i' : Nat) (P : List En), i' ≤ 64 ∧ i = .int .i64 i' ∧ Hid (OB w.heap.size w wr bb rb hb P ∧ P.length + i' ≤ 64)) (fun i _ => 64 - (intOf i).toNat)
        case atStart => exact ⟨0, P, Nat.zero_le _, rfl, hgo.out⟩
        case round =>
          clear hgo
          obtain ⟨i, P, hi, rfl, H⟩ := hrel
          by_cases hlt : i < 64
          · cases P with
            | nil =>
              have HCu : Hid (Cut ([] : List En) 1099511627776 [] []) := ⟨rfl, fun x hx => (nomatch hx), fun x hx => (nomatch hx)⟩
              go_wp2_with fail
              refine (ob_next0 H.out.1).mono ?_
              rintro e w2 ⟨rfl, h2⟩
              have H2 := Lib.hid h2
              clear h2 H
              go_wp2_with fail
              refine (ob_count H2.out).mono ?_
              rintro e w3 ⟨rfl, rfl⟩
              go_wp2_with fail
              refine (ob_due H2.out HCu.out).mono ?_
              rintro e w3 ⟨v, rfl, hr, h3⟩
              have H3 := Lib.hid h3
              obtain ⟨va, vc, hv⟩ := hr.slice
              simp only [List.length_nil] at hv
              subst hv
              clear hr h3 H2
              go_wp2_with fail
              refine (works_any w3).mono ?_
              rintro e w4 ⟨rfl, hb4⟩
              have HF := Lib.hid (H3.out.below hb4).bel
              clear hb4 H3
              go_wp2_with fail
              go_ret
              exact ⟨rfl, HF.out⟩
            | cons x P =>
              have hkey := H.out.1.wf.key x (by simp)
              have HLen : Hid (P.length + 1 + i ≤ 64) := by have := H.out.2; simp at this; unfold Hid; omega
              have HCu := Lib.hid (cut_before H.out.1.wf)
              have hw : wrap64 (x.2 - 1) = x.2 - 1 := IntWalk.wrap64_in _ ⟨by omega, by omega⟩
              obtain ⟨a, b', hcut⟩ := H.out.1.wf.cut x.2
              obtain ⟨m, hm, hbl, hall⟩ := cut_at H.out.1.wf hcut
              have HCut := Lib.hid hcut
              have HM := Lib.hid hm
              have HB := Lib.hid hbl
              have HAll : Hid (∀ (i : Nat) (hi : i < a.length), (a[i]).2 = x.2) := hall
              have HW := Lib.hid hw
              have hm64 : m ≤ 64 := by have := H.out.1.wf.len; have e := congrArg List.length hcut.eq; simp at this e; omega
              have HO := Lib.hid H.out.1
              clear hkey hw hcut hm hbl hall H
              go_wp2_with fail
              refine (ob_next HO.out).mono ?_
              rintro e w2 ⟨rfl, h2⟩
              have H2 := Lib.hid h2
              clear h2 HO
              go_wp2_with fail
              try rw [HW.out]
              refine (ob_due H2.out HCu.out).mono ?_
              rintro e w3 ⟨v, rfl, hr, h3⟩
              have H3 := Lib.hid h3
              obtain ⟨va, vc, hv⟩ := hr.slice
              simp only [List.length_nil] at hv
              subst hv
              clear hr h3 H2 HCu
              go_wp2_with fail
              refine (ob_due H3.out HCut.out).mono ?_
              rintro e w4 ⟨v, rfl, hr, h4⟩
              have H4 := Lib.hid h4
              obtain ⟨g, vc2, hv, _, _, hle2, hmx2⟩ := hr.form (by have := HM.out; omega)
              have hc0 := (hr.cells hv 0 (by have := HM.out; omega)).1
              have hcm := (hr.cells hv m (by have := HM.out; omega)).1
              rw [HAll.out 0] at hc0
              rw [HAll.out m] at hcm
              rw [HM.out] at hv hle2
              simp only [Nat.zero_mul] at hc0
              subst hv
              unfold maxLen at hmx2
              have hz : ((m : Int) + 1 == 0) = false := by simp; omega
              have H5 : Hid (OB w.heap.size w w4 bb rb hb b' ∧ b'.length + (i + 1) ≤ 64) := ⟨H4.out, by have := HLen.out; have := HB.out; omega⟩
              clear hr h4 H3 H4 HAll HCut HM HB HLen
              go_wp2_with fail
              go_roundw
              case rel => exact ⟨i + 1, b', by omega, by go_num, H5⟩
              case measure => simp [intOf]; omega
          · have hi64 : i = 64 := by omega
            have hP : P = [] := by have := H.out.2; exact List.eq_nil_of_length_eq_zero (by omega)
            subst hP
            have HO := Lib.hid H.out.1
            have hd64 : decide ((i : Int) < 64) = false := by simp; omega
            clear H
            go_wp2_with fail
            refine (ob_count HO.out).mono ?_
            rintro e w3 ⟨rfl, rfl⟩
            go_wp2_with fail
            refine (works_any _).mono ?_
            rintro e w4 ⟨rfl, hb4⟩
            have HF := Lib.hid (HO.out.below hb4).bel
            clear hb4 HO
            go_wp2_with fail
            go_ret
            exact ⟨rfl, HF.out⟩
      · have hd0 : decide ((i : Int) < (n0 : Int)) = false := by simp; omega
        clear H
        go_wp2_with fail
        go_loopw [5] (fun i wr => ∃ (i' : Nat) (P : List En), i' ≤ 64 ∧ i = .int .i64 i' ∧ Hid (OB w.heap.size w wr bb rb hb P ∧ P.length + i' ≤ 64)) (fun i _ => 64 - (intOf i).toNat)
        case atStart => exact ⟨0, P, Nat.zero_le _, rfl, hgo.out⟩
        case round =>
          clear hgo
          obtain ⟨i, P, hi, rfl, H⟩ := hrel
          by_cases hlt : i < 64
          · cases P with
            | nil =>
              have HCu : Hid (Cut ([] : List En) 1099511627776 [] []) := ⟨rfl, fun x hx => (nomatch hx), fun x hx => (nomatch hx)⟩
              go_wp2_with fail
              refine (ob_next0 H.out.1).mono ?_
              rintro e w2 ⟨rfl, h2⟩
              have H2 := Lib.hid h2
              clear h2 H
              go_wp2_with fail
              refine (ob_count H2.out).mono ?_
              rintro e w3 ⟨rfl, rfl⟩
              go_wp2_with fail
              refine (ob_due H2.out HCu.out).mono ?_
              rintro e w3 ⟨v, rfl, hr, h3⟩
              have H3 := Lib.hid h3
              obtain ⟨va, vc, hv⟩ := hr.slice
              simp only [List.length_nil] at hv
              subst hv
              clear hr h3 H2
              go_wp2_with fail
              refine (works_any w3).mono ?_
              rintro e w4 ⟨rfl, hb4⟩
              have HF := Lib.hid (H3.out.below hb4).bel
              clear hb4 H3
              go_wp2_with fail
              go_ret
              exact ⟨rfl, HF.out⟩
            | cons x P =>
              have hkey := H.out.1.wf.key x (by simp)
              have HLen : Hid (P.length + 1 + i ≤ 64) := by have := H.out.2; simp at this; unfold Hid; omega
              have HCu := Lib.hid (cut_before H.out.1.wf)
              have hw : wrap64 (x.2 - 1) = x.2 - 1 := IntWalk.wrap64_in _ ⟨by omega, by omega⟩
              obtain ⟨a, b', hcut⟩ := H.out.1.wf.cut x.2
              obtain ⟨m, hm, hbl, hall⟩ := cut_at H.out.1.wf hcut
              have HCut := Lib.hid hcut
              have HM := Lib.hid hm
              have HB := Lib.hid hbl
              have HAll : Hid (∀ (i : Nat) (hi : i < a.length), (a[i]).2 = x.2) := hall
              have HW := Lib.hid hw
              have hm64 : m ≤ 64 := by have := H.out.1.wf.len; have e := congrArg List.length hcut.eq; simp at this e; omega
              have HO := Lib.hid H.out.1
              clear hkey hw hcut hm hbl hall H
              go_wp2_with fail
              refine (ob_next HO.out).mono ?_
              rintro e w2 ⟨rfl, h2⟩
              have H2 := Lib.hid h2
              clear h2 HO
              go_wp2_with fail
              try rw [HW.out]
              refine (ob_due H2.out HCu.out).mono ?_
              rintro e w3 ⟨v, rfl, hr, h3⟩
              have H3 := Lib.hid h3
              obtain ⟨va, vc, hv⟩ := hr.slice
              simp only [List.length_nil] at hv
              subst hv
              clear hr h3 H2 HCu
              go_wp2_with fail
              refine (ob_due H3.out HCut.out).mono ?_
              rintro e w4 ⟨v, rfl, hr, h4⟩
              have H4 := Lib.hid h4
              obtain ⟨g, vc2, hv, _, _, hle2, hmx2⟩ := hr.form (by have := HM.out; omega)
              have hc0 := (hr.cells hv 0 (by have := HM.out; omega)).1
              have hcm := (hr.cells hv m (by have := HM.out; omega)).1
              rw [HAll.out 0] at hc0
              rw [HAll.out m] at hcm
              rw [HM.out] at hv hle2
              simp only [Nat.zero_mul] at hc0
              subst hv
              unfold maxLen at hmx2
              have hz : ((m : Int) + 1 == 0) = false := by simp; omega
              have H5 : Hid (OB w.heap.size w w4 bb rb hb b' ∧ b'.length + (i + 1) ≤ 64) := ⟨H4.out, by have := HLen.out; have := HB.out; omega⟩
              clear hr h4 H3 H4 HAll HCut HM HB HLen
              go_wp2_with fail
              go_roundw
              case rel => exact ⟨i + 1, b', by omega, by go_num, H5⟩
              case measure => simp [intOf]; omega
          · have hi64 : i = 64 := by omega
            have hP : P = [] := by have := H.out.2; exact List.eq_nil_of_length_eq_zero (by omega)
            subst hP
            have HO := Lib.hid H.out.1
            have hd64 : decide ((i : Int) < 64) = false := by simp; omega
            clear H
            go_wp2_with fail
            refine (ob_count HO.out).mono ?_
            rintro e w3 ⟨rfl, rfl⟩
            go_wp2_with fail
            refine (works_any _).mono ?_
            rintro e w4 ⟨rfl, hb4⟩
            have HF := Lib.hid (HO.out.below hb4).bel
            clear hb4 HO
            go_wp2_with fail
            go_ret
            exact ⟨rfl, HF.out⟩

set_option maxRecDepth 100000 in
set_option maxHeartbeats 8000000 in
theorem next_nil (a : Option Addr) (cap : Nat) (w : World) : Calls Try.prog 5 #[.slice a 0 cap] w (TrueB w) := by
  go_enter Try.func5, Try.ntmps5
  go_wp2_with fail
  refine (ob_new w).mono ?_
  rintro e w1 ⟨bb, rb, hb, rfl, h1⟩
  have H1 := Lib.hid h1; clear h1
  go_wp2_with fail
  go_loopw [4] (fun i wr => i = .int .i64 0 ∧ Hid (OB w.heap.size w wr bb rb hb [])) (fun i _ => 0)
  case atStart => exact ⟨rfl, H1.out⟩
  case round =>
    clear H1
    obtain ⟨rfl, H⟩ := hrel
    obtain ⟨P, hP⟩ : ∃ P : List En, [] = P := ⟨_, rfl⟩
    rw [hP] at H
    clear hP
    have hgo : Hid (OB w.heap.size w wr bb rb hb P ∧ P.length + 0 ≤ 64) := ⟨H.out, H.out.wf.len⟩
    clear H
    go_wp2_with fail
    go_loopw [5] (fun i wr => ∃ (i' : Nat) (P : List En), i' ≤ 64 ∧ i = .int .i64 i' ∧ Hid (OB w.heap.size w wr bb rb hb P ∧ P.length + i' ≤ 64)) (fun i _ => 64 - (intOf i).toNat)
    case atStart => exact ⟨0, P, Nat.zero_le _, rfl, hgo.out⟩
    case round =>
      clear hgo
      obtain ⟨i, P, hi, rfl, H⟩ := hrel
      by_cases hlt : i < 64
      · cases P with
        | nil =>
          have HCu : Hid (Cut ([] : List En) 1099511627776 [] []) := ⟨rfl, fun x hx => (nomatch hx), fun x hx => (nomatch hx)⟩
          go_wp2_with fail
          refine (ob_next0 H.out.1).mono ?_
          rintro e w2 ⟨rfl, h2⟩
          have H2 := Lib.hid h2
          clear h2 H
          go_wp2_with fail
          refine (ob_count H2.out).mono ?_
          rintro e w3 ⟨rfl, rfl⟩
          go_wp2_with fail
          refine (ob_due H2.out HCu.out).mono ?_
          rintro e w3 ⟨v, rfl, hr, h3⟩
          have H3 := Lib.hid h3
          obtain ⟨va, vc, hv⟩ := hr.slice
          simp only [List.length_nil] at hv
          subst hv
          clear hr h3 H2
          go_wp2_with fail
          refine (works_any w3).mono ?_
          rintro e w4 ⟨rfl, hb4⟩
          have HF := Lib.hid (H3.out.below hb4).bel
          clear hb4 H3
          go_wp2_with fail
          go_ret
          exact ⟨rfl, HF.out⟩
        | cons x P =>
          have hkey := H.out.1.wf.key x (by simp)
          have HLen : Hid (P.length + 1 + i ≤ 64) := by have := H.out.2; simp at this; unfold Hid; omega
          have HCu := Lib.hid (cut_before H.out.1.wf)
          have hw : wrap64 (x.2 - 1) = x.2 - 1 := IntWalk.wrap64_in _ ⟨by omega, by omega⟩
          obtain ⟨a, b', hcut⟩ := H.out.1.wf.cut x.2
          obtain ⟨m, hm, hbl, hall⟩ := cut_at H.out.1.wf hcut
          have HCut := Lib.hid hcut
          have HM := Lib.hid hm
          have HB := Lib.hid hbl
          have HAll : Hid (∀ (i : Nat) (hi : i < a.length), (a[i]).2 = x.2) := hall
          have HW := Lib.hid hw
          have hm64 : m ≤ 64 := by have := H.out.1.wf.len; have e := congrArg List.length hcut.eq; simp at this e; omega
          have HO := Lib.hid H.out.1
          clear hkey hw hcut hm hbl hall H
          go_wp2_with fail
          refine (ob_next HO.out).mono ?_
          rintro e w2 ⟨rfl, h2⟩
          have H2 := Lib.hid h2
          clear h2 HO
          go_wp2_with fail
          try rw [HW.out]
          refine (ob_due H2.out HCu.out).mono ?_
          rintro e w3 ⟨v, rfl, hr, h3⟩
          have H3 := Lib.hid h3
          obtain ⟨va, vc, hv⟩ := hr.slice
          simp only [List.length_nil] at hv
          subst hv
          clear hr h3 H2 HCu
          go_wp2_with fail
          refine (ob_due H3.out HCut.out).mono ?_
          rintro e w4 ⟨v, rfl, hr, h4⟩
          have H4 := Lib.hid h4
          obtain ⟨g, vc2, hv, _, _, hle2, hmx2⟩ := hr.form (by have := HM.out; omega)
          have hc0 := (hr.cells hv 0 (by have := HM.out; omega)).1
          have hcm := (hr.cells hv m (by have := HM.out; omega)).1
          rw [HAll.out 0] at hc0
          rw [HAll.out m] at hcm
          rw [HM.out] at hv hle2
          simp only [Nat.zero_mul] at hc0
          subst hv
          unfold maxLen at hmx2
          have hz : ((m : Int) + 1 == 0) = false := by simp; omega
          have H5 : Hid (OB w.heap.size w w4 bb rb hb b' ∧ b'.length + (i + 1) ≤ 64) := ⟨H4.out, by have := HLen.out; have := HB.out; omega⟩
          clear hr h4 H3 H4 HAll HCut HM HB HLen
          go_wp2_with fail
          go_roundw
          case rel => exact ⟨i + 1, b', by omega, by go_num, H5⟩
          case measure => simp [intOf]; omega
      · have hi64 : i = 64 := by omega
        have hP : P = [] := by have := H.out.2; exact List.eq_nil_of_length_eq_zero (by omega)
        subst hP
        have HO := Lib.hid H.out.1
        have hd64 : decide ((i : Int) < 64) = false := by simp; omega
        clear H
        go_wp2_with fail
        refine (ob_count HO.out).mono ?_
        rintro e w3 ⟨rfl, rfl⟩
        go_wp2_with fail
        refine (works_any _).mono ?_
        rintro e w4 ⟨rfl, hb4⟩
        have HF := Lib.hid (HO.out.below hb4).bel
        clear hb4 HO
        go_wp2_with fail
        go_ret
        exact ⟨rfl, HF.out⟩

/-- the law of any bells that came in -/
theorem next_any (a : Option Addr) (cap n : Nat) (w : World) (hc : (a = none ∧ n = 0 ∧ cap = 0) ∨ ∃ (x : Addr) (z : Nat → Nat → Int), a = some x ∧ n ≤ cap ∧ cap ≤ maxLen ∧ (0 < n → ∃ b off, x = ⟨b, off, none⟩ ∧ ∀ i j, i < n → j < 4 → w.cell? ⟨b, off + i * 4 + j, none⟩ = some (.int .i64 (z i j)))) :
    Calls Try.prog 5 #[.slice a n cap] w (TrueB w) := by
  rcases hc with ⟨rfl, rfl, rfl⟩ | ⟨x, z, rfl, hl, hm, hx⟩
  · exact next_nil none 0 w
  · by_cases h0 : n = 0
    · subst h0; exact next_nil _ cap w
    · obtain ⟨b, off, rfl, h⟩ := hx (by omega)
      unfold maxLen at hm
      exact next_law b off cap n (fun i => z i 0) (fun i => z i 1) (fun i => z i 2) (fun i => z i 3) w hl (by omega) (by omega) (fun i hi => ⟨h i 0 hi (by omega), h i 1 hi (by omega), h i 2 hi (by omega), h i 3 hi (by omega)⟩)

end Go.Proofs.Ytdfolbnnhglpeaa
