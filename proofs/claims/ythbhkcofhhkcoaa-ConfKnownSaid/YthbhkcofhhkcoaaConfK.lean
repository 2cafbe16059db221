/- Parse. -/
import Derived.Test.YthbhkcofhhkcoaaConfJ
namespace Go.Proofs.Ythbhkcofhhkcoaa
open Go.RowKit Pk Cn
set_option linter.unusedVariables false

theorem nb_two {x y : Value} (hx : ∀ z, x ≠ .int .u8 z) (hy : ∀ z, y ≠ .int .u8 z) : NB #[x, y] := by
  intro k z hk
  match k, hk with
  | 0, hk => exact hx z (Option.some.inj hk)
  | 1, hk => exact hy z (Option.some.inj hk)
  | k + 2, hk => simp at hk
/-- a configuration, its partitions of the call's own -/
def CX (w : World) (B : Nat) (v : Value) (c : Cf) : Prop := ∃ pv ov, v = .agg #[pv, ov] ∧ PS w B pv c.ps ∧ OS w B ov c.os ∧ OwnPt w B pv c.ps.length
theorem CX.cf {w : World} {B : Nat} {v : Value} {c : Cf} (h : CX w B v c) : CF w B v c := by obtain ⟨pv, ov, h1, h2, h3, _⟩ := h; exact ⟨pv, ov, h1, h2, h3⟩
theorem CX.zero (w : World) (B : Nat) : CX w B (.agg #[.slice none 0 0, .slice none 0 0]) c0 := ⟨_, _, rfl, PS.nil w B, OS.nil w B, Or.inl ⟨rfl, rfl⟩⟩

/-- a configuration is stored into two cells -/
theorem two_end {w : World} {r : Nat} {x y P O : Value} (hR : w.heap[r]? = some (.cells #[x, y] 25 (0, 0))) :
    ((w.setCell ⟨r, 0, none⟩ P).setCell ⟨r, 1, none⟩ O).cell? ⟨r, 0, none⟩ = some P ∧ ((w.setCell ⟨r, 0, none⟩ P).setCell ⟨r, 1, none⟩ O).cell? ⟨r, 1, none⟩ = some O ∧
    Only (fun b => b = r) w ((w.setCell ⟨r, 0, none⟩ P).setCell ⟨r, 1, none⟩ O) := by
  have h1 := heap_set_same (i := 0) (v := P) hR
  have h2 := heap_set_same (i := 1) (v := O) h1
  have o1 : Only (fun b => b = r) w (w.setCell ⟨r, 0, none⟩ P) := Only.setCell (S := fun b => b = r) (a := w) (b := w) (Only.refl _ w) (p := ⟨r, 0, none⟩) (Or.inl rfl) P
  exact ⟨cell_of_row _ _ 0 _ _ _ h2, cell_of_row _ _ 1 _ _ _ h2, Only.setCell o1 (p := ⟨r, 1, none⟩) (Or.inl rfl) O⟩
set_option maxRecDepth 100000 in
set_option maxHeartbeats 4000000 in
theorem readC_any {w : World} {v : Value} {xs : List Int} (hv : BS w v xs) (hb : Bys xs) (hl : xs.length ≤ 140737488355328) : Calls Try.prog 30 #[v] w
    (fun e w' => ∃ v', e = .returned (.tuple #[v', .int .i64 (fin (rdC (xs, 0)).2)]) ∧ CX w' w.heap.size v' (rdC (xs, 0)).1 ∧ Below w.heap.size w w') := by
  have hA := (Below.refl w.heap.size w).alloc (Nat.le_refl _) (.cells #[.slice none 0 0, .slice none 0 0] 25)
  have HRD := Lib.hid (read_any (hv.below hA) hb hl)
  have HA := Lib.hid hA
  have hR0 := heap_alloc_new w (.cells #[.slice none 0 0, .slice none 0 0] 25)
  have HR0 := Lib.hid hR0
  have hw0 : (w.alloc (.cells #[.slice none 0 0, .slice none 0 0] 25)).heap.size = w.heap.size + 1 := by simp
  have HW0 := Lib.hid hw0
  obtain ⟨a, cap, rfl, _⟩ := hv
  clear hA hb hR0 hw0
  go_enter Try.func30, Try.ntmps30
  go_wp2_with fail
  refine HRD.out.mono ?_
  rintro e w1 ⟨rb, rfl, hrb, hrd, hb1⟩
  have hrl := hrd.lt
  have hb1' := HA.out.trans (hb1.mono (by rw [HW0.out]; omega))
  have HB1 := Lib.hid hb1'
  have hR1 := (hb1.block w.heap.size (by rw [HW0.out]; omega)).trans HR0.out
  rw [HW0.out] at hrb
  have hs1 : w.heap.size + 1 ≤ w1.heap.size := by have := hb1.size; rw [HW0.out] at this; exact this
  have hA2 := (Below.refl w1.heap.size w1).alloc (Nat.le_refl _) (.cells #[.slice none 0 0, .slice none 0 0] 25)
  have hr2 := hrd.below hA2
  have HP := Lib.hid (partsR_any hr2)
  have hC2 := heap_alloc_new w1 (.cells #[.slice none 0 0, .slice none 0 0] 25)
  have HC2 := Lib.hid hC2
  have HR2 := Lib.hid ((hA2.block w.heap.size (by omega)).trans hR1)
  have HB2 : Hid (Below w.heap.size w (w1.alloc (.cells #[.slice none 0 0, .slice none 0 0] 25))) := hb1'.trans (hA2.mono hb1'.size)
  have hs2 : (w1.alloc (.cells #[.slice none 0 0, .slice none 0 0] 25)).heap.size = w1.heap.size + 1 := by simp
  have HS2 := Lib.hid hs2
  clear hrd hb1 hb1' hR1 HRD hA2 hr2 hC2 HR0 hs2 HB1
  go_wp2_with fail
  refine HP.out.mono ?_
  rintro e w3 ⟨pv, rfl, hps, hop, hr3, ho3⟩
  have hcb : w1.heap.size ≠ rb := by omega
  have hrw : w.heap.size ≠ rb := by omega
  have hc3 : w3.heap[w1.heap.size]? = some (.cells #[.slice none 0 0, .slice none 0 0] 25 (0, 0)) := (ho3.block _ (by rw [HS2.out]; omega) hcb).trans HC2.out
  have hR3 : w3.heap[w.heap.size]? = some (.cells #[.slice none 0 0, .slice none 0 0] 25 (0, 0)) := (ho3.block _ (by rw [HS2.out]; omega) hrw).trans HR2.out
  have f3 : w3.frozen? ⟨w1.heap.size, 0, none⟩ = false := frozen_of_row w3 _ 0 _ _ hc3
  have k3 : w3.cell? ⟨w1.heap.size, 0, none⟩ = some (.slice none 0 0) := cell_of_row w3 _ 0 _ _ _ hc3
  obtain ⟨pa, pcap, hpv, _⟩ := hps.slice
  have hr4 : RD (w3.setCell ⟨w1.heap.size, 0, none⟩ pv) rb (rdPs (xs, 0)).2.1 (rdPs (xs, 0)).2.2 := hr3.setg hc3 (nb_two (fun z h => by cases h) (fun z h => by cases h)) (Ne.symm hcb) 0 pv
  have hc4 : (w3.setCell ⟨w1.heap.size, 0, none⟩ pv).heap[w1.heap.size]? = some (.cells #[pv, .slice none 0 0] 25 (0, 0)) := heap_set_same hc3
  have hR4 : (w3.setCell ⟨w1.heap.size, 0, none⟩ pv).heap[w.heap.size]? = some (.cells #[.slice none 0 0, .slice none 0 0] 25 (0, 0)) := (heap_set_other (by omega)).trans hR3
  have ho34 : Only (fun b => b = w1.heap.size) w3 (w3.setCell ⟨w1.heap.size, 0, none⟩ pv) := Only.setCell (S := fun b => b = w1.heap.size) (a := w3) (b := w3) (Only.refl _ w3) (p := ⟨w1.heap.size, 0, none⟩) (Or.inl rfl) pv
  rw [HS2.out] at hps hop
  have HPS4 : Hid (PS (w3.setCell ⟨w1.heap.size, 0, none⟩ pv) (w1.heap.size + 1) pv (rdPs (xs, 0)).1) := hps.keep (Kp.only ho34 (fun b hb => by omega))
  have HOP4 : Hid (OwnPt (w3.setCell ⟨w1.heap.size, 0, none⟩ pv) (w1.heap.size + 1) pv (rdPs (xs, 0)).1.length) := hop.keep (fun g h1 h2 => ho34.block g h2 (by omega))
  have HB3 : Hid (Below w.heap.size w (w3.setCell ⟨w1.heap.size, 0, none⟩ pv)) := HB2.out.trans ((ho3.below (B := w.heap.size) (by rw [HS2.out]; omega) (fun k _ hk => by omega)).trans (ho34.below (by have := ho3.size; rw [HS2.out] at this; omega) (fun k _ hk => by omega)))
  have hs4 : w1.heap.size + 1 ≤ (w3.setCell ⟨w1.heap.size, 0, none⟩ pv).heap.size := by have := ho3.size; rw [HS2.out] at this; have := ho34.size; omega
  have HO := Lib.hid (portsR_any hr4)
  have HC4 := Lib.hid hc4; have HR4 := Lib.hid hR4; have HS4 := Lib.hid hs4
  clear hps hop hr3 ho3 hc3 hR3 hr4 hc4 hR4 ho34 hs4 HP HC2 HR2 HB2 HS2
  subst hpv
  go_wp2_with fail
  refine HO.out.mono ?_
  rintro e w5 ⟨ov, rfl, hos, hr5, ho5⟩
  have hs5 := ho5.size
  have hs4 := HS4.out
  have hc5 : w5.heap[w1.heap.size]? = some (.cells #[.slice pa (rdPs (xs, 0)).1.length pcap, .slice none 0 0] 25 (0, 0)) := (ho5.block _ (by omega) hcb).trans HC4.out
  have hR5 : w5.heap[w.heap.size]? = some (.cells #[.slice none 0 0, .slice none 0 0] 25 (0, 0)) := (ho5.block _ (by omega) hrw).trans HR4.out
  have f5 : w5.frozen? ⟨w1.heap.size, 1, none⟩ = false := frozen_of_row w5 _ 1 _ _ hc5
  have k5 : w5.cell? ⟨w1.heap.size, 1, none⟩ = some (.slice none 0 0) := cell_of_row w5 _ 1 _ _ _ hc5
  obtain ⟨oa, ocap, hov, _⟩ := hos.slice
  have hr6 : RD (w5.setCell ⟨w1.heap.size, 1, none⟩ ov) rb (rdC (xs, 0)).2.1 (rdC (xs, 0)).2.2 := hr5.setg hc5 (nb_two (fun z h => by cases h) (fun z h => by cases h)) (Ne.symm hcb) 1 ov
  have hc6 : (w5.setCell ⟨w1.heap.size, 1, none⟩ ov).heap[w1.heap.size]? = some (.cells #[.slice pa (rdPs (xs, 0)).1.length pcap, ov] 25 (0, 0)) := heap_set_same hc5
  have hR6 : (w5.setCell ⟨w1.heap.size, 1, none⟩ ov).heap[w.heap.size]? = some (.cells #[.slice none 0 0, .slice none 0 0] 25 (0, 0)) := (heap_set_other (by omega)).trans hR5
  have ho56 : Only (fun b => b = w1.heap.size) w5 (w5.setCell ⟨w1.heap.size, 1, none⟩ ov) := Only.setCell (S := fun b => b = w1.heap.size) (a := w5) (b := w5) (Only.refl _ w5) (p := ⟨w1.heap.size, 1, none⟩) (Or.inl rfl) ov
  have HOS6 : Hid (OS (w5.setCell ⟨w1.heap.size, 1, none⟩ ov) (w1.heap.size + 1) ov (rdC (xs, 0)).1.os) := (SS.mono hos hs4).keep (Kp.only ho56 (fun b hb => by omega))
  have HPS6 : Hid (PS (w5.setCell ⟨w1.heap.size, 1, none⟩ ov) (w1.heap.size + 1) (.slice pa (rdPs (xs, 0)).1.length pcap) (rdC (xs, 0)).1.ps) := (PS.keep HPS4.out (Kp.only ho5 (fun b hb => by omega))).keep (Kp.only ho56 (fun b hb => by omega))
  have HOP6 : Hid (OwnPt (w5.setCell ⟨w1.heap.size, 1, none⟩ ov) (w1.heap.size + 1) (.slice pa (rdPs (xs, 0)).1.length pcap) (rdC (xs, 0)).1.ps.length) := (OwnPt.keep HOP4.out (fun g h1 h2 => ho5.block g h2 (by omega))).keep (fun g h1 h2 => ho56.block g h2 (by omega))
  have HB6 : Hid (Below w.heap.size w (w5.setCell ⟨w1.heap.size, 1, none⟩ ov)) := HB3.out.trans ((ho5.below (B := w.heap.size) (by omega) (fun k _ hk => by omega)).trans (ho56.below (by omega) (fun k _ hk => by omega)))
  have HE := end_any hr6
  have hfin : fin (rdC (xs, 0)).2 = if endOf (rdC (xs, 0)).2.1 (rdC (xs, 0)).2.2 = 5 then 50 else endOf (rdC (xs, 0)).2.1 (rdC (xs, 0)).2.2 := rfl
  generalize endOf (rdC (xs, 0)).2.1 (rdC (xs, 0)).2.2 = E at *
  have HFIN := Lib.hid hfin
  have HEE := Lib.hid HE; have HC6 := Lib.hid hc6; have HR6 := Lib.hid hR6
  clear hos hr5 ho5 hc5 hR5 hr6 hc6 hR6 ho56 HE hfin HO HC4 HR4 HPS4 HOP4 HB3
  subst hov
  go_wp2_with fail
  refine HEE.out.mono ?_
  rintro e w' ⟨rfl, rfl⟩
  obtain ⟨q0, q1⟩ := pz2 HC6.out
  obtain ⟨y0, y1⟩ := pz2 HR6.out
  have g0 : (w5.setCell ⟨w1.heap.size, 1, none⟩ (.slice oa (rdOs ((rdPs (xs, 0)).2.1, (rdPs (xs, 0)).2.2)).1.length ocap)).frozen? ⟨w.heap.size, 0, none⟩ = false := frozen_of_row _ _ 0 _ _ HR6.out
  have g1 : (w5.setCell ⟨w1.heap.size, 1, none⟩ (.slice oa (rdOs ((rdPs (xs, 0)).2.1, (rdPs (xs, 0)).2.2)).1.length ocap)).frozen? ⟨w.heap.size, 1, none⟩ = false := frozen_of_row _ _ 1 _ _ HR6.out
  cases h5 : E == 5 with
  | true =>
    have HF5 : (if E = 5 then (50 : Int) else E) = 50 := if_pos (by simpa using h5)
    go_wp2_with fail
    clear q0 q1 y0 y1 g0 g1
    obtain ⟨e0, e1, eo⟩ := two_end (P := .slice pa (rdPs (xs, 0)).1.length pcap) (O := .slice oa (rdOs ((rdPs (xs, 0)).2.1, (rdPs (xs, 0)).2.2)).1.length ocap) HR6.out
    refine bodyPost_ret (v := .tuple #[.agg #[.slice pa (rdPs (xs, 0)).1.length pcap, .slice oa (rdOs ((rdPs (xs, 0)).2.1, (rdPs (xs, 0)).2.2)).1.length ocap], .int .i64 50]) (by simp [results, Try.results30, go_sem, e0, e1]) rfl ?_
    refine ⟨_, by rw [HFIN.out, HF5], ⟨_, _, rfl, ?_, ?_, ?_⟩, ?_⟩
    · exact (HPS6.out.keep (Kp.only eo (fun b hb => by omega))).mono (by omega)
    · exact SS.mono (SS.keep HOS6.out (Kp.only eo (fun b hb => by omega))) (by omega)
    · rcases HOP6.out.keep (fun g h1 h2 => eo.block g h2 (by omega)) with h | ⟨g, c', cur, h1, h2, h3⟩
      · exact Or.inl h
      · exact Or.inr ⟨g, c', cur, h1, by omega, h3⟩
    · exact HB6.out.trans (eo.below (by have := HB6.out.size; omega) (fun k _ hk => by omega))
  | false =>
    have HF5 : (if E = 5 then (50 : Int) else E) = E := if_neg (by simpa using h5)
    go_wp2_with fail
    clear q0 q1 y0 y1 g0 g1
    obtain ⟨e0, e1, eo⟩ := two_end (P := .slice pa (rdPs (xs, 0)).1.length pcap) (O := .slice oa (rdOs ((rdPs (xs, 0)).2.1, (rdPs (xs, 0)).2.2)).1.length ocap) HR6.out
    refine bodyPost_ret (v := .tuple #[.agg #[.slice pa (rdPs (xs, 0)).1.length pcap, .slice oa (rdOs ((rdPs (xs, 0)).2.1, (rdPs (xs, 0)).2.2)).1.length ocap], .int .i64 E]) (by simp [results, Try.results30, go_sem, e0, e1]) rfl ?_
    refine ⟨_, by rw [HFIN.out, HF5], ⟨_, _, rfl, ?_, ?_, ?_⟩, ?_⟩
    · exact (HPS6.out.keep (Kp.only eo (fun b hb => by omega))).mono (by omega)
    · exact SS.mono (SS.keep HOS6.out (Kp.only eo (fun b hb => by omega))) (by omega)
    · rcases HOP6.out.keep (fun g h1 h2 => eo.block g h2 (by omega)) with h | ⟨g, c', cur, h1, h2, h3⟩
      · exact Or.inl h
      · exact Or.inr ⟨g, c', cur, h1, by omega, h3⟩
    · exact HB6.out.trans (eo.below (by have := HB6.out.size; omega) (fun k _ hk => by omega))

set_option maxRecDepth 100000 in
set_option maxHeartbeats 4000000 in
theorem parse_any {w : World} {v : Value} {xs : List Int} (hv : BS w v xs) (hb : Bys xs) (hl : xs.length ≤ 140737488355328) : Calls Try.prog 14 #[v] w
    (fun e w' => ∃ v', e = .returned (.tuple #[v', .int .i64 (parse xs).2]) ∧ CX w' w.heap.size v' (parse xs).1 ∧ Below w.heap.size w w') := by
  have hA := (Below.refl w.heap.size w).alloc (Nat.le_refl _) (.cells #[.slice none 0 0, .slice none 0 0] 25)
  have HRD := Lib.hid (readC_any (hv.below hA) hb hl)
  have HA := Lib.hid hA
  have HR0 := Lib.hid (heap_alloc_new w (.cells #[.slice none 0 0, .slice none 0 0] 25))
  have HW0 : Hid ((w.alloc (.cells #[.slice none 0 0, .slice none 0 0] 25)).heap.size = w.heap.size + 1) := by unfold Hid; simp
  obtain ⟨a, cap, rfl, _⟩ := hv
  obtain ⟨c, hc⟩ : ∃ c, c = (rdC (xs, 0)).1 := ⟨_, rfl⟩
  obtain ⟨E, hE⟩ : ∃ E, E = fin (rdC (xs, 0)).2 := ⟨_, rfl⟩
  have HPE : Hid (parse xs = if E ≠ 0 then (c0, E) else if may c then (c, 0) else (c0, 50)) := by unfold Hid parse; rw [hc, hE]
  rw [← hc, ← hE] at HRD
  clear hA hb hc hE
  go_enter Try.func14, Try.ntmps14
  go_wp2_with fail
  refine HRD.out.mono ?_
  rintro e w1 ⟨v1, rfl, hcx, hb1⟩
  rw [HW0.out] at hcx
  have hs1 : w.heap.size + 1 ≤ w1.heap.size := by have := hb1.size; rw [HW0.out] at this; exact this
  have hR1 := (hb1.block w.heap.size (by rw [HW0.out]; omega)).trans HR0.out
  have hb1' := HA.out.trans (hb1.mono (by rw [HW0.out]; omega))
  obtain ⟨pv, ov, rfl, hps, hos, hop⟩ := hcx
  have hA2 := (Below.refl w1.heap.size w1).alloc (Nat.le_refl _) (.cells #[pv, ov] 25)
  have HPS := Lib.hid (hps.below hA2); have HOS := Lib.hid (OS.below hos hA2); have HOP := Lib.hid (hop.keep (fun g h1 h2 => hA2.block g h2))
  have HCK := Lib.hid (check_any (v := .agg #[pv, ov]) ⟨_, _, rfl, hps.below hA2, OS.below hos hA2⟩)
  have HR2 := Lib.hid ((hA2.block w.heap.size (by omega)).trans hR1)
  have HC2 := Lib.hid (heap_alloc_new w1 (.cells #[pv, ov] 25))
  have HB2 := Lib.hid (hb1'.trans (hA2.mono hb1'.size))
  have HS2 : Hid ((w1.alloc (.cells #[pv, ov] 25)).heap.size = w1.heap.size + 1) := by unfold Hid; simp
  obtain ⟨pa, pcap, hpv, _⟩ := hps.slice
  obtain ⟨oa, ocap, hov, _⟩ := OS.slice hos
  clear hb1 hR1 hb1' hps hos hop hA2 HRD HR0
  generalize hn : c.ps.length = n at *
  generalize c.os.length = m at *
  have HN := Lib.hid hn
  clear hn
  subst hpv hov
  cases h5 : E == 0 with
  | false =>
    have HF5 : Hid (parse xs = (c0, E)) := by unfold Hid; rw [HPE.out, if_pos (by simpa using h5)]
    have h5' : (E != 0) = true := by simp [bne, h5]
    obtain ⟨y0, y1⟩ := pz2 HR2.out
    have g0 : (w1.alloc (.cells #[.slice pa n pcap, .slice oa m ocap] 25)).frozen? ⟨w.heap.size, 0, none⟩ = false := frozen_of_row _ _ 0 _ _ HR2.out
    have g1 : (w1.alloc (.cells #[.slice pa n pcap, .slice oa m ocap] 25)).frozen? ⟨w.heap.size, 1, none⟩ = false := frozen_of_row _ _ 1 _ _ HR2.out
    go_wp2_with fail
    clear y0 y1 g0 g1
    obtain ⟨e0, e1, eo⟩ := two_end (P := .slice none 0 0) (O := .slice none 0 0) HR2.out
    refine bodyPost_ret (v := .tuple #[.agg #[.slice none 0 0, .slice none 0 0], .int .i64 E]) (by simp [results, Try.results14, go_sem, e0, e1]) rfl ?_
    refine ⟨_, by rw [HF5.out], by rw [HF5.out]; exact CX.zero _ _, HB2.out.trans (eo.below (by have := HB2.out.size; omega) (fun k _ hk => by omega))⟩
  | true =>
    have hE0 : E = 0 := by simpa using h5
    have HPE2 : Hid (parse xs = if may c then (c, 0) else (c0, 50)) := by unfold Hid; rw [HPE.out, if_neg (by simpa using h5)]
    subst hE0
    obtain ⟨q0, q1⟩ := pz2 HC2.out
    unfold ck at HCK
    cases hm : may c with
    | false =>
      have HF5 : Hid (parse xs = (c0, 50)) := by unfold Hid; rw [HPE2.out, hm]; rfl
      rw [hm] at HCK
      clear hm
      go_wp2_with fail
      refine HCK.out.mono ?_
      rintro e w2 ⟨rfl, hb2⟩
      have HB3 := Lib.hid (HB2.out.trans (hb2.mono (by rw [HS2.out]; omega)))
      have HR3 := Lib.hid ((hb2.block w.heap.size (by rw [HS2.out]; omega)).trans HR2.out)
      obtain ⟨y0, y1⟩ := pz2 HR3.out
      have g0 : w2.frozen? ⟨w.heap.size, 0, none⟩ = false := frozen_of_row _ _ 0 _ _ HR3.out
      have g1 : w2.frozen? ⟨w.heap.size, 1, none⟩ = false := frozen_of_row _ _ 1 _ _ HR3.out
      clear hb2 q0 q1
      go_wp2_with fail
      clear y0 y1 g0 g1
      obtain ⟨e0, e1, eo⟩ := two_end (P := .slice none 0 0) (O := .slice none 0 0) HR3.out
      refine bodyPost_ret (v := .tuple #[.agg #[.slice none 0 0, .slice none 0 0], .int .i64 50]) (by simp [results, Try.results14, go_sem, e0, e1]) rfl ?_
      refine ⟨_, by rw [HF5.out], by rw [HF5.out]; exact CX.zero _ _, HB3.out.trans (eo.below (by have := HB3.out.size; omega) (fun k _ hk => by omega))⟩
    | true =>
      have HF5 : Hid (parse xs = (c, 0)) := by unfold Hid; rw [HPE2.out, hm]; rfl
      rw [hm] at HCK
      clear hm
      go_wp2_with fail
      refine HCK.out.mono ?_
      rintro e w2 ⟨rfl, hb2⟩
      have HB3 := Lib.hid (HB2.out.trans (hb2.mono (by rw [HS2.out]; omega)))
      have HR3 := Lib.hid ((hb2.block w.heap.size (by rw [HS2.out]; omega)).trans HR2.out)
      have HC3 := Lib.hid ((hb2.block w1.heap.size (by rw [HS2.out]; omega)).trans HC2.out)
      have HPS3 := Lib.hid (HPS.out.below hb2); have HOS3 := Lib.hid (OS.below HOS.out hb2); have HOP3 := Lib.hid (HOP.out.keep (fun g h1 h2 => hb2.block g h2))
      clear hb2 q0 q1
      obtain ⟨q0, q1⟩ := pz2 HC3.out
      obtain ⟨y0, y1⟩ := pz2 HR3.out
      have g0 : w2.frozen? ⟨w.heap.size, 0, none⟩ = false := frozen_of_row _ _ 0 _ _ HR3.out
      have g1 : w2.frozen? ⟨w.heap.size, 1, none⟩ = false := frozen_of_row _ _ 1 _ _ HR3.out
      go_wp2_with fail
      clear y0 y1 g0 g1 q0 q1
      obtain ⟨e0, e1, eo⟩ := two_end (P := .slice pa n pcap) (O := .slice oa m ocap) HR3.out
      refine bodyPost_ret (v := .tuple #[.agg #[.slice pa n pcap, .slice oa m ocap], .int .i64 0]) (by simp [results, Try.results14, go_sem, e0, e1]) rfl ?_
      refine ⟨_, by rw [HF5.out], ?_, HB3.out.trans (eo.below (by have := HB3.out.size; omega) (fun k _ hk => by omega))⟩
      rw [HF5.out]
      refine ⟨_, _, rfl, (HPS3.out.keep (Kp.only eo (fun b hb => by omega))).mono (by omega), SS.mono (SS.keep HOS3.out (Kp.only eo (fun b hb => by omega))) (by omega), ?_⟩
      rcases HOP3.out.keep (fun g h1 h2 => eo.block g h2 (by omega)) with h | ⟨g, c', cur, h1, h2, h3⟩
      · exact Or.inl ⟨h.1, HN.out.trans h.2⟩
      · exact Or.inr ⟨g, c', cur, by rw [show ((c, (0 : Int)).1.ps.length = n) from HN.out]; exact h1, by omega, h3⟩
end Go.Proofs.Ythbhkcofhhkcoaa
