/- The chapter's examples; TurnPlans. -/
import Derived.Test.YtfjeoefnpcgnnaaTurU
import Derived.Test.YtfjeoefnpcgnnaaTurE
namespace Go.Proofs.Ytfjeoefnpcgnnaa.Pw
open Go.RowKit Go.Sort Pu
set_option linter.unusedVariables false
set_option maxRecDepth 100000

theorem chnB {w w1 w2 : World} (h : Below w.heap.size w w1) (k : Below w1.heap.size w1 w2) : Below w.heap.size w w2 := h.trans (k.mono h.size)
theorem plans_yes {w : World} {v u x : Value} {m : Nat} {p q : Nat → Int} {bs ws : List Int} (h : SV w v m p q) (hb : IS w u bs) (hw : IS w x ws) (hE : plE m p q bs ws.length = 0) (ht : tk m p q bs ws.length = ws) : Calls Try.prog 30 #[v, u, x] w (VB (.bool true) w) := by
  have HP := Lib.hid (plan_ok h hb hE)
  obtain ⟨a, cap, rfl, hn1, hn2⟩ := hw.slice
  have HW := Lib.hid hw
  have hlx : ws.length ≤ 9223372036854775807 := by unfold maxLen at hn2; omega
  unfold PlanI at HP
  rw [ht] at HP
  clear h hb hw hE ht hn1 hn2
  go_enter Try.func30, Try.ntmps30
  go_wp2_with fail
  refine HP.out.mono ?_
  rintro E w1 ⟨r, rfl, hr, hq⟩
  have HE := Lib.hid (eqs_is hr (HW.out.below hq))
  have HB := Lib.hid hq
  obtain ⟨ra, rc, rfl, _, _⟩ := hr.slice
  clear hr hq HP
  go_wp2_with fail
  refine HE.out.mono ?_
  rintro E w2 ⟨rfl, hq⟩
  have HB2 := Lib.hid (chnB HB.out hq)
  clear hq HE
  go_wp2_with fail
  go_ret
  exact ⟨rfl, HB2.out⟩
theorem x1 : plE 2 (tP [1, 2, 2, 4]) (tB [1, 2, 2, 4]) [0, 0] 8 = 0 ∧ tk 2 (tP [1, 2, 2, 4]) (tB [1, 2, 2, 4]) [0, 0] 8 = [0, 1, 0, 1, 0, 1, 0, 1] := by decide +kernel
theorem x2 : plE 2 (tP [1, 3, 1, 2]) (tB [1, 3, 1, 2]) [0, 1] 7 = 0 ∧ tk 2 (tP [1, 3, 1, 2]) (tB [1, 3, 1, 2]) [0, 1] 7 = [0, 1, -1, 1, 0, 1, 0] := by decide +kernel
theorem x3 : plE 0 (fun _ => 0) (fun _ => 0) [] 2 = 0 ∧ tk 0 (fun _ => 0) (fun _ => 0) [] 2 = [-1, -1] := by decide +kernel
def TB (w : World) (E : Ending) (w' : World) : Prop := E = .returned (.bool true) ∧ Below w.heap.size w w'
theorem plans_lit {w : World} {v : Value} {m : Nat} {p q : Nat → Int} (h : SV w v m p q) (bs ws : List Int) (hl : bs.length ≤ 1000) (hl2 : ws.length ≤ 1000) (hE : plE m p q bs ws.length = 0) (ht : tk m p q bs ws.length = ws) :
    Calls Try.prog 30 #[v, .slice (some ⟨w.heap.size, 0, none⟩) bs.length bs.length, .slice (some ⟨w.heap.size + 1, 0, none⟩) ws.length ws.length] ((w.alloc (.cells (bs.map (Value.int .i64)).toArray 3)).alloc (.cells (ws.map (Value.int .i64)).toArray 3)) (TB w) := by
  have q1 := below_al w (.cells (bs.map (Value.int .i64)).toArray 3)
  have q2 := below_al (w.alloc (.cells (bs.map (Value.int .i64)).toArray 3)) (.cells (ws.map (Value.int .i64)).toArray 3)
  have i2 := lit_is (w.alloc (.cells (bs.map (Value.int .i64)).toArray 3)) ws (by unfold maxLen; omega)
  have es : (w.alloc (.cells (bs.map (Value.int .i64)).toArray 3)).heap.size = w.heap.size + 1 := Array.size_push _
  rw [es] at i2
  refine (plans_yes ((h.below q1).below q2) ((lit_is w bs (by unfold maxLen; omega)).below q2) i2 hE ht).mono ?_
  rintro E w' ⟨rfl, hb⟩
  exact ⟨rfl, chnB (chnB q1 q2) hb⟩
theorem plans_nil (w : World) (ws : List Int) (hl2 : ws.length ≤ 1000) (hE : plE 0 (fun _ => 0) (fun _ => 0) [] ws.length = 0) (ht : tk 0 (fun _ => 0) (fun _ => 0) [] ws.length = ws) :
    Calls Try.prog 30 #[.slice none 0 0, .slice none 0 0, .slice (some ⟨w.heap.size, 0, none⟩) ws.length ws.length] (w.alloc (.cells (ws.map (Value.int .i64)).toArray 3)) (TB w) := by
  refine (plans_yes (SV.nil _ _ _) (IS.nil _) (lit_is w ws (by unfold maxLen; omega)) hE ht).mono ?_
  rintro E w' ⟨rfl, hb⟩
  exact ⟨rfl, chnB (below_al w _) hb⟩
set_option maxHeartbeats 4000000 in
theorem works_any (w : World) : Calls Try.prog 12 #[] w (VB (.bool true) w) := by
  have HT := Lib.hid serv_any
  have HL := Lib.hid (fun (w : World) (l : List Int) (h : l.length ≤ maxLen) => lit_is w l h)
  go_enter Try.func12, Try.ntmps12
  go_wp2_with fail
  refine (HT.out w [1, 2, 2, 4] (by decide)).mono ?_
  rintro E w1 ⟨a1, c1, rfl, hs, hb⟩
  have S1 := Lib.hid hs
  have B1 := Lib.hid hb
  clear hs hb
  go_wp2_with fail
  refine (plans_lit S1.out [0, 0] [0, 1, 0, 1, 0, 1, 0, 1] (by decide) (by decide) x1.1 x1.2).mono ?_
  rintro E w2 ⟨rfl, hb⟩
  have B2 := Lib.hid (chnB B1.out hb)
  clear hb S1 B1
  go_wp2_with fail
  refine (HT.out w2 [1, 3, 1, 2] (by decide)).mono ?_
  rintro E w3 ⟨a3, c3, rfl, hs, hb⟩
  have S3 := Lib.hid hs
  have B3 := Lib.hid (chnB B2.out hb)
  clear hs hb B2
  go_wp2_with fail
  refine (plans_lit S3.out [0, 1] [0, 1, -1, 1, 0, 1, 0] (by decide) (by decide) x2.1 x2.2).mono ?_
  rintro E w4 ⟨rfl, hb⟩
  have B4 := Lib.hid (chnB B3.out hb)
  clear hb S3 B3
  go_wp2_with fail
  refine (plans_nil w4 [-1, -1] (by decide) x3.1 x3.2).mono ?_
  rintro E w5 ⟨rfl, hb⟩
  have B5 := Lib.hid (chnB B4.out hb)
  clear hb B4
  go_wp2_with fail
  go_ret
  exact ⟨rfl, B5.out⟩
set_option maxHeartbeats 4000000 in
theorem plans_law {w : World} {v u : Value} {m : Nat} {p q : Nat → Int} {xs : List Int} (h : SV w v m p q) (hu : IS w u xs) (hl : xs.length * 8 ≤ 140737488351232) (n : Int) : Calls Try.prog 3 #[v, u, .int .i64 n] w (VB (.bool true) w) := by
  have HC := Lib.hid (copy_is hu hl)
  have HV := Lib.hid h
  have HU := Lib.hid hu
  obtain ⟨a, cap, rfl, hn1, hn2⟩ := h.slice
  obtain ⟨a2, cap2, rfl, hn3, hn4⟩ := hu.slice
  clear h hu hl hn1 hn2 hn3 hn4
  by_cases hE : plE m p q xs n = 0
  · have HP := Lib.hid (fun w' u' (hb : Below w.heap.size w w') (hi : IS w' u' xs) => plan_ok (HV.out.below hb) hi hE)
    have HR := Lib.hid (fun w' (hb : Below w.heap.size w w') => rplan_ok (HV.out.below hb) (HU.out.below hb) hE)
    clear hE
    go_enter Try.func3, Try.ntmps3
    go_wp2_with fail
    refine HC.out.mono ?_
    rintro E w1 ⟨r, rfl, hi, hb⟩
    have I1 := Lib.hid hi
    have B1 := Lib.hid hb
    obtain ⟨ra, rc, rfl, _, _⟩ := hi.slice
    clear hi hb HC
    go_wp2_with fail
    refine (HP.out w1 _ B1.out I1.out).mono ?_
    rintro E w2 ⟨r, rfl, hi, hb⟩
    have A2 := Lib.hid hi
    have I2 := Lib.hid (I1.out.below hb)
    have B2 := Lib.hid (chnB B1.out hb)
    obtain ⟨pa, pc, rfl, _, _⟩ := hi.slice
    clear hi hb HP I1 B1
    go_wp2_with fail
    refine (HR.out w2 B2.out).mono ?_
    rintro E w3 ⟨r, rfl, hi, hb⟩
    have HE := Lib.hid (eqs_is (A2.out.below hb) hi)
    have I3 := Lib.hid (I2.out.below hb)
    have B3 := Lib.hid (chnB B2.out hb)
    obtain ⟨qa, qc, rfl, _, _⟩ := hi.slice
    clear hi hb HR A2 I2 B2
    go_wp2_with fail
    refine HE.out.mono ?_
    rintro E w4 ⟨rfl, hb⟩
    have HE2 := Lib.hid (eqs_is (I3.out.below hb) (HU.out.below (chnB B3.out hb)))
    have B4 := Lib.hid (chnB B3.out hb)
    clear hb HE I3 B3
    go_wp2_with fail
    refine HE2.out.mono ?_
    rintro E w5 ⟨rfl, hb⟩
    have B5 := Lib.hid (chnB B4.out hb)
    clear hb HE2 B4
    go_wp2_with fail
    refine (works_any _).mono ?_
    rintro E w6 ⟨rfl, hb⟩
    have B6 := Lib.hid (chnB B5.out hb)
    clear hb B5
    go_wp2_with fail
    go_ret
    exact ⟨rfl, B6.out⟩
  · have HP := Lib.hid (fun w' u' (hb : Below w.heap.size w w') (hi : IS w' u' xs) => plan_no (HV.out.below hb) hi hE)
    have HR := Lib.hid (fun w' (hb : Below w.heap.size w w') => rplan_no (HV.out.below hb) (HU.out.below hb) hE)
    have hz := beq_refl_int (plE m p q xs n)
    generalize plE m p q xs n = R at *
    clear hE
    go_enter Try.func3, Try.ntmps3
    go_wp2_with fail
    refine HC.out.mono ?_
    rintro E w1 ⟨r, rfl, hi, hb⟩
    have I1 := Lib.hid hi
    have B1 := Lib.hid hb
    obtain ⟨ra, rc, rfl, _, _⟩ := hi.slice
    clear hi hb HC
    go_wp2_with fail
    refine (HP.out w1 _ B1.out I1.out).mono ?_
    rintro E w2 ⟨rfl, hb⟩
    have I2 := Lib.hid (I1.out.below hb)
    have B2 := Lib.hid (chnB B1.out hb)
    clear hb HP I1 B1
    go_wp2_with fail
    refine (HR.out w2 B2.out).mono ?_
    rintro E w3 ⟨rfl, hb⟩
    have I3 := Lib.hid (I2.out.below hb)
    have B3 := Lib.hid (chnB B2.out hb)
    clear hb HR I2 B2
    go_wp2_with fail
    refine (eqs_is (IS.nil w3) (IS.nil w3)).mono ?_
    rintro E w4 ⟨rfl, hb⟩
    have HE2 := Lib.hid (eqs_is (I3.out.below hb) (HU.out.below (chnB B3.out hb)))
    have B4 := Lib.hid (chnB B3.out hb)
    clear hb I3 B3
    go_wp2_with fail
    refine HE2.out.mono ?_
    rintro E w5 ⟨rfl, hb⟩
    have B5 := Lib.hid (chnB B4.out hb)
    clear hb HE2 B4
    go_wp2_with fail
    refine (works_any _).mono ?_
    rintro E w6 ⟨rfl, hb⟩
    have B6 := Lib.hid (chnB B5.out hb)
    clear hb B5
    go_wp2_with fail
    go_ret
    exact ⟨rfl, B6.out⟩
end Go.Proofs.Ytfjeoefnpcgnnaa.Pw
