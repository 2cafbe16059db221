/- RoomNames' walk. -/
import Derived.Test.YtkkmfpllgjoceaaGreatRooK
import Derived.Test.YtkkmfpllgjoceaaGreatRooX
import Derived.Test.YtkkmfpllgjoceaaGreatRooV
namespace Go.Proofs.YtkkmfpllgjoceaaGreat.Ro
open Go.RowKit Go.Sort Ac Jo
set_option linter.unusedVariables false
set_option maxRecDepth 100000

def zn (i : Nat) (j : Nat) : Int := (if i = 0 then [9, 9, 5, 0, 0, 2, 2, 1] else [9, 3, 2, 2, 1, 0, 0, 0] : List Int).getD j 0
def zo (i : Nat) (j : Nat) : Int := 0
def rn : List Ak := [⟨1, 5, e0⟩]
def an : List Ak := [⟨0, 0, e0⟩]
def N0 : Rm := noRm 2 zn
def N1 : Rm := didR N0 0
def N2 : Rm := runR N1 2
def N3 : Rm := lockR N2 (-1) 0
def N4 : Rm := unlRm N3 1
def N5 : Rm := askR N4 1
def N6 : Rm := holdR N5 0
def N7 : Rm := giveR N6 0
def N8 : Rm := endR N7 0
def N9 : Rm := relR N8 2 rn 0
def N10 : Rm := relR N9 0 an 0
def N11 : Rm := relR N10 0 rn (-1)
def N12 : Rm := relR N11 0 rn 4
def N13 : Rm := holdR N12 0
def N14 : Rm := giveR N13 0
def N15 : Rm := askR N14 0
def N16 : Rm := askR N15 0
def N17 : Rm := runR N16 0
def N18 : Rm := lockR N17 0 0
def N19 : Rm := relR N18 1 rn 5
def N20 : Rm := holdR N19 0
def N21 : Rm := lockR N20 0 0
def N22 : Rm := runR N21 0
def N23 : Rm := runR N22 0
def N24 : Rm := giveR N23 0
def N25 : Rm := askR N24 1
def N26 : Rm := lockR N25 1 0
def N27 : Rm := lockR N26 1 1
def N28 : Rm := lockR N27 1 1
def N29 : Rm := unlRm N28 0
def N30 : Rm := askR N29 0
def N31 : Rm := endR N30 1
/-- an answer; the room, the row of acts -/
def NP (Q : Rprg) (v : Value) (w0 : World) (rb g : Nat) (s : Rm) (e : Ending) (w' : World) : Prop := e = .returned v ∧ OF Q w0.heap.size w0 w' rb s (fun k => k = g) ∧ AS w' (.slice (some ⟨g, 0, none⟩) 1 1) rn
section
variable {Q : Rprg} {w0 w : World} {rb g : Nat} {s s' : Rm} {v : Value} {f : Nat} {args : Array Value}
theorem NP.of (k : AS w (.slice (some ⟨g, 0, none⟩) 1 1) rn) (h : Calls Tryz.prog f args w (OFP Q v w0.heap.size w0 rb s (fun k => k = g) w)) : Calls Tryz.prog f args w (NP Q v w0 rb g s) := h.mono fun e w' ⟨h1, h2, h3, _⟩ => ⟨h1, h2, k.keep fun k hk => h3 k (by injection hk with hk; exact hk.symm)⟩
end
theorem infoTa : (Tryz.prog.info? 55).map (fun i => (i.zero, i.size, i.bytes)) = some (some (.agg #[.int .i64 0, .int .i64 0, .int .i64 0, .int .i64 0, .int .i64 0, .int .i64 0, .int .i64 0, .int .i64 0]), 8, 64) := by kernel_rfl
theorem tk_one (w : World) {g : Nat} (h : w.heap[g]? = some (.cells #[.int .i64 0, .int .i64 0, .int .i64 0, .int .i64 0, .int .i64 0, .int .i64 0, .int .i64 0, .int .i64 0] 55 (0, 0))) : St.TK w (.slice (some ⟨g, 0, none⟩) 1 1) 1 zo := by
  refine ⟨_, 1, rfl, Nat.le_refl _, by unfold maxLen; omega, (fun e => by cases e), fun _ => ⟨g, 0, rfl, fun i hi j hj => ?_⟩⟩
  obtain rfl : i = 0 := by omega
  rw [cell_of_row _ _ _ _ _ _ h]
  match j, hj with
  | 0, _ => rfl | 1, _ => rfl | 2, _ => rfl | 3, _ => rfl | 4, _ => rfl | 5, _ => rfl | 6, _ => rfl | 7, _ => rfl
theorem made_zero {k : Nat} (hk : k < 40) : (madeCells ((.agg #[.int .i64 0, .int .i64 0, .int .i64 0, .int .i64 0, .int .i64 0, .int .i64 0, .int .i64 0, .int .i64 0]) : Value).cells (5 * 8)).toList[k]? = some (.int .i64 0) := by
  have hk' : k < 5 * 8 := hk
  simp only [madeCells, Array.toList_map, Array.toList_range, List.getElem?_map, List.getElem?_range hk', Option.map_some]
  congr 1
  show (#[.int .i64 0, .int .i64 0, .int .i64 0, .int .i64 0, .int .i64 0, .int .i64 0, .int .i64 0, .int .i64 0] : Array Value)[k % 8]! = _
  rcases (show k % 8 = 0 ∨ k % 8 = 1 ∨ k % 8 = 2 ∨ k % 8 = 3 ∨ k % 8 = 4 ∨ k % 8 = 5 ∨ k % 8 = 6 ∨ k % 8 = 7 by omega) with h | h | h | h | h | h | h | h <;> rw [h] <;> rfl
theorem tk_five (w : World) {C : Nat} {v : Value} (h : w.ownsRow C 55 8 v 5 (madeCells ((.agg #[.int .i64 0, .int .i64 0, .int .i64 0, .int .i64 0, .int .i64 0, .int .i64 0, .int .i64 0, .int .i64 0]) : Value).cells (5 * 8)).toList) : St.TK w v 5 zo := by
  have hc := fun g => World.ownsRow.cells h (g := g)
  rcases h.2 with ⟨rfl, e⟩ | ⟨g, cap, cur, rfl, hb, hh, hnc, hcm, _⟩
  · cases e
  · refine ⟨_, cap, rfl, hnc, hcm, (fun e => by cases e), fun _ => ⟨g, 0, rfl, fun i hi j hj => ?_⟩⟩
    have q := hc g rfl (i * 8 + j) (.int .i64 (zo i j)) (made_zero (by omega))
    rw [Addr.add_lit] at q
    rw [Nat.add_assoc]
    exact q
theorem is_one {w : World} {g : Nat} (h : w.heap[g]? = some (.cells #[.int .i64 0] 3 (0, 0))) : St.IS w (.slice (some ⟨g, 0, none⟩) 1 1) [0] := by
  refine ⟨some ⟨g, 0, none⟩, 1, rfl, Nat.le_refl _, by unfold maxLen; decide, (fun e => by cases e), fun _ => ⟨g, 0, rfl, fun i hi => ?_⟩⟩
  obtain rfl : i = 0 := by simpa using hi
  exact cell_of_row _ _ 0 _ _ _ h
theorem of_held {B : Nat} {W w : World} {rb : Nat} {s : Rm} {F : Nat → Prop} (h : OF Q0 B W w rb s F) (t : Int) : Calls Tryz.prog 18 #[.pointer (some ⟨rb, 0, none⟩), .int .i64 t] w (NumP w (heldV s t)) := by
  obtain ⟨S, j⟩ := h.at
  exact Q0.held j h.iv t
theorem of_jobs {B : Nat} {W w : World} {rb : Nat} {s : Rm} {F : Nat → Prop} (h : OF Q0 B W w rb s F) : Calls Tryz.prog 34 #[.pointer (some ⟨rb, 0, none⟩)] w (NumP w (jobsV s)) := by
  obtain ⟨S, j⟩ := h.at
  exact Q0.jobs j h.iv

set_option maxHeartbeats 16000000 in
theorem names_any (w : World) : Calls Tryz.prog 6 #[] w (TrueB w) := by
  obtain ⟨i0, hi, hz0, hz1, hz2⟩ := info_parts infoTa
  have hb1 := below_al w (.cells #[.int .i64 0, .int .i64 0, .int .i64 0, .int .i64 0, .int .i64 0, .int .i64 0, .int .i64 0, .int .i64 0] 55)
  have HA := Lib.hid (new_no (tk_one _ (heap_alloc_new w (.cells #[.int .i64 0, .int .i64 0, .int .i64 0, .int .i64 0, .int .i64 0, .int .i64 0, .int .i64 0, .int .i64 0] 55))) (Or.inr ⟨0, by decide, by decide⟩))
  have HB1 := Lib.hid hb1
  clear hb1
  go_enter Tryz.func6, Tryz.ntmps6
  go_wp2_with fail
  refine HA.out.mono ?_
  rintro e w1 ⟨rfl, hb⟩
  have HB2 := Lib.hid (chn HB1.out hb)
  clear hb HA HB1
  go_wp2_with (at_make; refine wpList_make_full _ rfl _ _ 22 rfl w1.heap.size 55 i0 _ 8 Tryz.underlying22 hi hz0 hz1 .i64 .i64 _ _ 5 rfl rfl rfl rfl (by rw [hz2]; decide) (by decide) (Nat.le_refl _) ?_; intro V hown hgrow)
  have hbV : Below w1.heap.size w1 V := ⟨hgrow.os, hgrow.tape, hgrow.output, hgrow.size, fun k hk => hgrow.block k hk (by simp)⟩
  refine (new_no (tk_five V hown) (Or.inl (by decide))).mono ?_
  rintro e w2 ⟨rfl, hb⟩
  have HB3 := Lib.hid ((chn HB2.out hbV).trans (hb.mono (chn HB2.out hbV).size))
  clear hb hbV hown hgrow HB2 hi hz0 hz1 hz2
  have hb4 := below_al w2 (.cells (St.tcl zn 2).toArray 55)
  have htk := tk_two _ zn (heap_alloc_new w2 (.cells (St.tcl zn 2).toArray 55))
  have HN := Lib.hid (of_new (F := fun _ => False) (W := w) (B := w.heap.size) Q0 (HB3.out.trans (hb4.mono HB3.out.size)) (Nat.le_refl _) (fun k hk => hk.elim) htk (by decide) (fun i hi => by rcases (show i = 0 ∨ i = 1 by omega) with rfl | rfl <;> decide) (fun i hi => by rcases (show i = 0 ∨ i = 1 by omega) with rfl | rfl <;> decide))
  have HN : Hid (Calls Tryz.prog 7 #[.slice (some ⟨w2.heap.size, 0, none⟩) 2 2] (w2.alloc (.cells #[.int .i64 9, .int .i64 9, .int .i64 5, .int .i64 0, .int .i64 0, .int .i64 2, .int .i64 2, .int .i64 1, .int .i64 9, .int .i64 3, .int .i64 2, .int .i64 2, .int .i64 1, .int .i64 0, .int .i64 0, .int .i64 0] 55)) (fun e w' => ∃ rb, e = .returned (.tuple #[.pointer (some ⟨rb, 0, none⟩), .int .i64 0]) ∧ OF Q0 w.heap.size w w' rb N0 (fun _ => False))) := HN.out.mono fun e w' ⟨rb, h1, h2, _⟩ => ⟨rb, h1, h2⟩
  clear hb4 htk
  go_wp2_with fail
  refine HN.out.mono ?_
  rintro e w3 ⟨rb, rfl, hof⟩
  have hA1 := below_al w3 (.cells (acells rn).toArray 57)
  have HR0 := Lib.hid (as_lit (l := rn) (heap_alloc_new w3 (.cells (acells rn).toArray 57)) (by decide))
  have HOF0 : Hid (OF Q0 w.heap.size w (w3.alloc (.cells (acells rn).toArray 57)) rb N0 (fun k => k = w3.heap.size)) :=
    hof.to (Only.of_below hA1) (fun k hk => hk.elim) (fun k hk => Or.inr (by rw [World.size_alloc]; omega))
  obtain ⟨X2, hX2⟩ : ∃ X2, X2 = w3.alloc (.cells (acells rn).toArray 57) := ⟨_, rfl⟩
  rw [← hX2] at HR0 HOF0
  have HX2 : Hid (X2 = (w3.alloc (.cells #[.int .i64 1, .int .i64 5, .string ⟨#[]⟩] 57))) := hX2
  clear hX2 hA1 hof HN HB3
  go_wp2_with fail
  rw [← HX2.out]
  clear HX2
  have HR : Hid (AS X2 (.slice (some ⟨w3.heap.size, 0, none⟩) 1 1) rn) := HR0.out
  have HOF := HOF0
  clear HR0 HOF0
  generalize w3.heap.size = g1 at *
  refine (NP.of (s := N1) HR.out (of_did HOF.out 0 (x := 250) (by decide))).mono ?_
  rintro e w4 ⟨rfl, hof, hr⟩
  clear HOF HR
  have HOF := Lib.hid hof
  have HR := Lib.hid hr
  clear hof hr
  go_wp2_with fail
  refine (NP.of (s := N2) HR.out (of_run HOF.out 2 (x := 9) (by decide))).mono ?_
  rintro e w4 ⟨rfl, hof, hr⟩
  clear HOF HR
  have HOF := Lib.hid hof
  have HR := Lib.hid hr
  clear hof hr
  go_wp2_with fail
  refine (NP.of (s := N3) HR.out (of_lock HOF.out (-1) 0 (x := 9) (by decide))).mono ?_
  rintro e w4 ⟨rfl, hof, hr⟩
  clear HOF HR
  have HOF := Lib.hid hof
  have HR := Lib.hid hr
  clear hof hr
  go_wp2_with fail
  refine (NP.of (s := N4) HR.out (of_unlock HOF.out 1 (x := 250) (by decide))).mono ?_
  rintro e w4 ⟨rfl, hof, hr⟩
  clear HOF HR
  have HOF := Lib.hid hof
  have HR := Lib.hid hr
  clear hof hr
  go_wp2_with fail
  refine (NP.of (s := N5) HR.out (of_ask HOF.out 1 (x := 250) (by decide))).mono ?_
  rintro e w4 ⟨rfl, hof, hr⟩
  clear HOF HR
  have HOF := Lib.hid hof
  have HR := Lib.hid hr
  clear hof hr
  go_wp2_with fail
  refine (NP.of (s := N6) HR.out (of_hold HOF.out 0 (x := 250) (by decide))).mono ?_
  rintro e w4 ⟨rfl, hof, hr⟩
  clear HOF HR
  have HOF := Lib.hid hof
  have HR := Lib.hid hr
  clear hof hr
  go_wp2_with fail
  refine (NP.of (s := N7) HR.out (of_give HOF.out 0 (x := 250) (by decide))).mono ?_
  rintro e w4 ⟨rfl, hof, hr⟩
  clear HOF HR
  have HOF := Lib.hid hof
  have HR := Lib.hid hr
  clear hof hr
  go_wp2_with fail
  refine (NP.of (s := N8) HR.out (of_fin HOF.out 0 (x := false) (by decide))).mono ?_
  rintro e w4 ⟨rfl, hof, hr⟩
  clear HOF HR
  have HOF := Lib.hid hof
  have HR := Lib.hid hr
  clear hof hr
  go_wp2_with fail
  refine (NP.of (s := N9) HR.out (of_rel HOF.out HR.out 2 0 (x := 9) (by decide))).mono ?_
  rintro e w4 ⟨rfl, hof, hr⟩
  clear HOF HR
  have HOF := Lib.hid hof
  have HR := Lib.hid hr
  clear hof hr
  have hod := as_lit (l := an) (heap_alloc_new w4 (.cells (acells an).toArray 57)) (by decide)
  have HC : Hid (Calls Tryz.prog 28 #[.pointer (some ⟨rb, 0, none⟩), .int .i64 0, .slice (some ⟨w4.heap.size, 0, none⟩) 1 1, .int .i64 0] (w4.alloc (.cells #[.int .i64 0, .int .i64 0, .string ⟨#[]⟩] 57)) (NP Q0 (.int .i64 2) w rb g1 N10)) :=
    NP.of (s := N10) (HR.out.below (below_al _ _)) (of_rel (HOF.out.below (below_al _ _)) hod 0 0 (x := 2) (by decide))
  clear hod
  go_wp2_with fail
  refine HC.out.mono ?_
  clear HC
  rintro e w4 ⟨rfl, hof, hr⟩
  clear HOF HR
  have HOF := Lib.hid hof
  have HR := Lib.hid hr
  clear hof hr
  go_wp2_with fail
  refine (NP.of (s := N11) HR.out (of_rel HOF.out HR.out 0 (-1) (x := 2) (by decide))).mono ?_
  rintro e w4 ⟨rfl, hof, hr⟩
  clear HOF HR
  have HOF := Lib.hid hof
  have HR := Lib.hid hr
  clear hof hr
  go_wp2_with fail
  refine (NP.of (s := N12) HR.out (of_rel HOF.out HR.out 0 4 (x := 0) (by decide))).mono ?_
  rintro e w4 ⟨rfl, hof, hr⟩
  clear HOF HR
  have HOF := Lib.hid hof
  have HR := Lib.hid hr
  clear hof hr
  go_wp2_with fail
  refine (NP.of (s := N12) HR.out (of_ear HOF.out 0 (x := 13) (by decide))).mono ?_
  rintro e w4 ⟨rfl, hof, hr⟩
  clear HOF HR
  have HOF := Lib.hid hof
  have HR := Lib.hid hr
  clear hof hr
  go_wp2_with fail
  refine (NP.of (s := N13) HR.out (of_hold HOF.out 0 (x := 132) (by decide))).mono ?_
  rintro e w4 ⟨rfl, hof, hr⟩
  clear HOF HR
  have HOF := Lib.hid hof
  have HR := Lib.hid hr
  clear hof hr
  go_wp2_with fail
  refine (NP.of (s := N14) HR.out (of_give HOF.out 0 (x := 132) (by decide))).mono ?_
  rintro e w4 ⟨rfl, hof, hr⟩
  clear HOF HR
  have HOF := Lib.hid hof
  have HR := Lib.hid hr
  clear hof hr
  go_wp2_with fail
  refine (NP.of (s := N15) HR.out (of_ask HOF.out 0 (x := 0) (by decide))).mono ?_
  rintro e w4 ⟨rfl, hof, hr⟩
  clear HOF HR
  have HOF := Lib.hid hof
  have HR := Lib.hid hr
  clear hof hr
  go_wp2_with fail
  refine (NP.of (s := N16) HR.out (of_ask HOF.out 0 (x := 0) (by decide))).mono ?_
  rintro e w4 ⟨rfl, hof, hr⟩
  clear HOF HR
  have HOF := Lib.hid hof
  have HR := Lib.hid hr
  clear hof hr
  go_wp2_with fail
  refine (NP.of (s := N17) HR.out (of_run HOF.out 0 (x := 250) (by decide))).mono ?_
  rintro e w4 ⟨rfl, hof, hr⟩
  clear HOF HR
  have HOF := Lib.hid hof
  have HR := Lib.hid hr
  clear hof hr
  go_wp2_with fail
  refine (NP.of (s := N18) HR.out (of_lock HOF.out 0 0 (x := 130) (by decide))).mono ?_
  rintro e w4 ⟨rfl, hof, hr⟩
  clear HOF HR
  have HOF := Lib.hid hof
  have HR := Lib.hid hr
  clear hof hr
  go_wp2_with fail
  refine (NP.of (s := N18) HR.out (of_sole HOF.out (v := .tuple #[.int .i64 0, .int .i64 3, .bool true]) rfl)).mono ?_
  rintro e w4 ⟨rfl, hof, hr⟩
  clear HOF HR
  have HOF := Lib.hid hof
  have HR := Lib.hid hr
  clear hof hr
  go_wp2_with fail
  refine (NP.of (s := N19) HR.out (of_rel HOF.out HR.out 1 5 (x := 0) (by decide))).mono ?_
  rintro e w4 ⟨rfl, hof, hr⟩
  clear HOF HR
  have HOF := Lib.hid hof
  have HR := Lib.hid hr
  clear hof hr
  go_wp2_with fail
  refine (NP.of (s := N19) HR.out (lawwho_any HOF.out (x := 0) (b := true) rfl 0 (r := true) rfl)).mono ?_
  rintro e w4 ⟨rfl, hof, hr⟩
  clear HOF HR
  have HOF := Lib.hid hof
  have HR := Lib.hid hr
  clear hof hr
  go_wp2_with fail
  refine (NP.of (s := N20) HR.out (of_hold HOF.out 0 (x := 0) (by decide))).mono ?_
  rintro e w4 ⟨rfl, hof, hr⟩
  clear HOF HR
  have HOF := Lib.hid hof
  have HR := Lib.hid hr
  clear hof hr
  go_wp2_with fail
  refine (NP.of (s := N20) HR.out (lawwho_any HOF.out (x := 0) (b := true) rfl 0 (r := true) rfl)).mono ?_
  rintro e w4 ⟨rfl, hof, hr⟩
  clear HOF HR
  have HOF := Lib.hid hof
  have HR := Lib.hid hr
  clear hof hr
  go_wp2_with fail
  refine (NP.of (s := N21) HR.out (of_lock HOF.out 0 0 (x := 130) (by decide))).mono ?_
  rintro e w4 ⟨rfl, hof, hr⟩
  clear HOF HR
  have HOF := Lib.hid hof
  have HR := Lib.hid hr
  clear hof hr
  go_wp2_with fail
  refine (NP.of (s := N22) HR.out (of_run HOF.out 0 (x := 0) (by decide))).mono ?_
  rintro e w4 ⟨rfl, hof, hr⟩
  clear HOF HR
  have HOF := Lib.hid hof
  have HR := Lib.hid hr
  clear hof hr
  go_wp2_with fail
  refine (NP.of (s := N23) HR.out (of_run HOF.out 0 (x := 0) (by decide))).mono ?_
  rintro e w4 ⟨rfl, hof, hr⟩
  clear HOF HR
  have HOF := Lib.hid hof
  have HR := Lib.hid hr
  clear hof hr
  go_wp2_with fail
  refine (NP.of (s := N23) HR.out (of_fault HOF.out 0 7 (x := 2) (by decide))).mono ?_
  rintro e w4 ⟨rfl, hof, hr⟩
  clear HOF HR
  have HOF := Lib.hid hof
  have HR := Lib.hid hr
  clear hof hr
  go_wp2_with fail
  refine (NP.of (s := N24) HR.out (of_give HOF.out 0 (x := 0) (by decide))).mono ?_
  rintro e w4 ⟨rfl, hof, hr⟩
  clear HOF HR
  have HOF := Lib.hid hof
  have HR := Lib.hid hr
  clear hof hr
  go_wp2_with fail
  refine (NP.of (s := N24) HR.out (lawwho_any HOF.out (x := 1) (b := true) rfl 1 (r := true) rfl)).mono ?_
  rintro e w4 ⟨rfl, hof, hr⟩
  clear HOF HR
  have HOF := Lib.hid hof
  have HR := Lib.hid hr
  clear hof hr
  go_wp2_with fail
  refine (NP.of (s := N25) HR.out (of_ask HOF.out 1 (x := 133) (by decide))).mono ?_
  rintro e w4 ⟨rfl, hof, hr⟩
  clear HOF HR
  have HOF := Lib.hid hof
  have HR := Lib.hid hr
  clear hof hr
  go_wp2_with fail
  refine (NP.of (s := N26) HR.out (of_lock HOF.out 1 0 (x := 133) (by decide))).mono ?_
  rintro e w4 ⟨rfl, hof, hr⟩
  clear HOF HR
  have HOF := Lib.hid hof
  have HR := Lib.hid hr
  clear hof hr
  go_wp2_with fail
  refine (NP.of (s := N27) HR.out (of_lock HOF.out 1 1 (x := 0) (by decide))).mono ?_
  rintro e w4 ⟨rfl, hof, hr⟩
  clear HOF HR
  have HOF := Lib.hid hof
  have HR := Lib.hid hr
  clear hof hr
  go_wp2_with fail
  refine (NP.of (s := N28) HR.out (of_lock HOF.out 1 1 (x := 131) (by decide))).mono ?_
  rintro e w4 ⟨rfl, hof, hr⟩
  clear HOF HR
  have HOF := Lib.hid hof
  have HR := Lib.hid hr
  clear hof hr
  go_wp2_with fail
  refine (NP.of (s := N29) HR.out (of_unlock HOF.out 0 (x := 132) (by decide))).mono ?_
  rintro e w4 ⟨rfl, hof, hr⟩
  clear HOF HR
  have HOF := Lib.hid hof
  have HR := Lib.hid hr
  clear hof hr
  go_wp2_with fail
  refine (NP.of (s := N30) HR.out (of_ask HOF.out 0 (x := 170) (by decide))).mono ?_
  rintro e w4 ⟨rfl, hof, hr⟩
  clear HOF HR
  have HOF := Lib.hid hof
  have HR := Lib.hid hr
  clear hof hr
  go_wp2_with fail
  refine (NP.of (s := N31) HR.out (of_fin HOF.out 1 (x := true) (by decide))).mono ?_
  rintro e w4 ⟨rfl, hof, hr⟩
  clear HOF HR
  have HOF := Lib.hid hof
  have HR := Lib.hid hr
  clear hof hr
  go_wp2_with fail
  have hv1 : heldV N31 1 = [] := rfl
  have hv2 : jobsV N31 = [0] := by decide
  have HH := of_held HOF.out 1
  rw [hv1] at HH
  refine HH.mono ?_
  rintro e w5 ⟨rv, rfl, hnr, hb⟩
  obtain ⟨xa, xc, rfl⟩ := hnr.is_form
  have HOF5 := Lib.hid (HOF.out.below hb)
  clear hnr hb HH HOF HR hv1
  go_wp2_with fail
  have HJ := of_jobs HOF5.out
  rw [hv2] at HJ
  refine HJ.mono ?_
  rintro e w6 ⟨rv, rfl, hnr, hb⟩
  obtain ⟨ja, jc, rfl⟩ := hnr.is_form
  have HIS := Lib.hid (St.NR.is hnr)
  have HB6 := Lib.hid (HOF5.out.below hb).bel
  clear hnr hb HJ HOF5 hv2
  have hal := heap_alloc_new w6 (.cells #[.int .i64 0] 3)
  have HEQ := Lib.hid (St.eqs_any (HIS.out.below (below_al w6 (.cells #[.int .i64 0] 3))) (is_one hal) (by decide))
  have HB6b := Lib.hid (HB6.out.alloc HB6.out.size (.cells #[.int .i64 0] 3))
  clear hal HB6 HIS
  go_wp2_with fail
  refine HEQ.out.mono ?_
  rintro e w7 ⟨rfl, hb⟩
  have HB7 := Lib.hid (HB6b.out.trans (hb.mono HB6b.out.size))
  clear hb HEQ HB6b
  go_wp2_with fail
  go_loopw [16, 17] (fun nv i wr => ∃ (k : Nat) (rv : Value), k ≤ 2 ∧ i = .int .i64 k ∧ rv = nv ∧ Hid (NoneR wr rv) ∧ Hid (Below w.heap.size w wr)) (fun _ i _ => 2 - (intOf i).toNat)
  case atStart => exact ⟨0, _, by omega, rfl, rfl, nr_nil w7, HB7.out⟩
  case round =>
    clear HB7
    obtain ⟨k, rv, hk, rfl, rfl, HN, HB⟩ := hrel
    by_cases hlt : k < 2
    · go_wp2_with fail
      refine (nr_who HN.out).mono ?_
      rintro e w8 ⟨rfl, hb⟩
      have HN8 := Lib.hid (HN.out.below hb)
      have HB8 := Lib.hid (HB.out.trans (hb.mono HB.out.size))
      clear hb HN HB
      have HN := HN8
      have HB := HB8
      clear HN8 HB8
      go_wp2_with fail
      refine (nr_next HN.out 0).mono ?_
      rintro e w8 ⟨rfl, hb⟩
      have HN8 := Lib.hid (HN.out.below hb)
      have HB8 := Lib.hid (HB.out.trans (hb.mono HB.out.size))
      clear hb HN HB
      have HN := HN8
      have HB := HB8
      clear HN8 HB8
      have HN8 := Lib.hid (HN.out.below (below_al w8 (.cells #[.int .i64 0, .int .i64 0, .string ⟨#[]⟩] 57)))
      have HB8 := Lib.hid (HB.out.alloc HB.out.size (.cells #[.int .i64 0, .int .i64 0, .string ⟨#[]⟩] 57))
      clear HN HB
      have HN := HN8
      have HB := HB8
      clear HN8 HB8
      go_wp2_with fail
      refine (nr_sole HN.out).mono ?_
      rintro e w8 ⟨rfl, hb⟩
      have HN8 := Lib.hid (HN.out.below hb)
      have HB8 := Lib.hid (HB.out.trans (hb.mono HB.out.size))
      clear hb HN HB
      have HN := HN8
      have HB := HB8
      clear HN8 HB8
      go_wp2_with fail
      refine (nr_dead HN.out 0).mono ?_
      rintro e w8 ⟨rfl, hb⟩
      have HN8 := Lib.hid (HN.out.below hb)
      have HB8 := Lib.hid (HB.out.trans (hb.mono HB.out.size))
      clear hb HN HB
      have HN := HN8
      have HB := HB8
      clear HN8 HB8
      go_wp2_with fail
      refine (nr_rel HN.out 9 (.slice none 0 0) 0).mono ?_
      rintro e w8 ⟨rfl, hb⟩
      have HN8 := Lib.hid (HN.out.below hb)
      have HB8 := Lib.hid (HB.out.trans (hb.mono HB.out.size))
      clear hb HN HB
      have HN := HN8
      have HB := HB8
      clear HN8 HB8
      go_wp2_with fail
      refine (nr_did HN.out 0).mono ?_
      rintro e w8 ⟨rfl, hb⟩
      have HN8 := Lib.hid (HN.out.below hb)
      have HB8 := Lib.hid (HB.out.trans (hb.mono HB.out.size))
      clear hb HN HB
      have HN := HN8
      have HB := HB8
      clear HN8 HB8
      go_wp2_with fail
      refine (nr_run HN.out 0).mono ?_
      rintro e w8 ⟨rfl, hb⟩
      have HN8 := Lib.hid (HN.out.below hb)
      have HB8 := Lib.hid (HB.out.trans (hb.mono HB.out.size))
      clear hb HN HB
      have HN := HN8
      have HB := HB8
      clear HN8 HB8
      go_wp2_with fail
      refine (nr_lock HN.out 0 0).mono ?_
      rintro e w8 ⟨rfl, hb⟩
      have HN8 := Lib.hid (HN.out.below hb)
      have HB8 := Lib.hid (HB.out.trans (hb.mono HB.out.size))
      clear hb HN HB
      have HN := HN8
      have HB := HB8
      clear HN8 HB8
      go_wp2_with fail
      refine (nr_unlock HN.out 0).mono ?_
      rintro e w8 ⟨rfl, hb⟩
      have HN8 := Lib.hid (HN.out.below hb)
      have HB8 := Lib.hid (HB.out.trans (hb.mono HB.out.size))
      clear hb HN HB
      have HN := HN8
      have HB := HB8
      clear HN8 HB8
      go_wp2_with fail
      refine (nr_ask HN.out 0).mono ?_
      rintro e w8 ⟨rfl, hb⟩
      have HN8 := Lib.hid (HN.out.below hb)
      have HB8 := Lib.hid (HB.out.trans (hb.mono HB.out.size))
      clear hb HN HB
      have HN := HN8
      have HB := HB8
      clear HN8 HB8
      go_wp2_with fail
      refine (nr_hold HN.out 0).mono ?_
      rintro e w8 ⟨rfl, hb⟩
      have HN8 := Lib.hid (HN.out.below hb)
      have HB8 := Lib.hid (HB.out.trans (hb.mono HB.out.size))
      clear hb HN HB
      have HN := HN8
      have HB := HB8
      clear HN8 HB8
      go_wp2_with fail
      refine (nr_give HN.out 0).mono ?_
      rintro e w8 ⟨rfl, hb⟩
      have HN8 := Lib.hid (HN.out.below hb)
      have HB8 := Lib.hid (HB.out.trans (hb.mono HB.out.size))
      clear hb HN HB
      have HN := HN8
      have HB := HB8
      clear HN8 HB8
      go_wp2_with fail
      refine (nr_fault HN.out 0 0).mono ?_
      rintro e w8 ⟨rfl, hb⟩
      have HN8 := Lib.hid (HN.out.below hb)
      have HB8 := Lib.hid (HB.out.trans (hb.mono HB.out.size))
      clear hb HN HB
      have HN := HN8
      have HB := HB8
      clear HN8 HB8
      go_wp2_with fail
      refine (nr_fin HN.out 0).mono ?_
      rintro e w8 ⟨rfl, hb⟩
      have HN8 := Lib.hid (HN.out.below hb)
      have HB8 := Lib.hid (HB.out.trans (hb.mono HB.out.size))
      clear hb HN HB
      have HN := HN8
      have HB := HB8
      clear HN8 HB8
      go_wp2_with fail
      refine (nr_ear HN.out 0).mono ?_
      rintro e w8 ⟨rfl, hb⟩
      have HN8 := Lib.hid (HN.out.below hb)
      have HB8 := Lib.hid (HB.out.trans (hb.mono HB.out.size))
      clear hb HN HB
      have HN := HN8
      have HB := HB8
      clear HN8 HB8
      go_wp2_with fail
      refine (nr_held HN.out 0).mono ?_
      rintro e w8 ⟨rfl, hb⟩
      have HN8 := Lib.hid (HN.out.below hb)
      have HB8 := Lib.hid (HB.out.trans (hb.mono HB.out.size))
      clear hb HN HB
      have HN := HN8
      have HB := HB8
      clear HN8 HB8
      go_wp2_with fail
      refine (nr_jobs HN.out).mono ?_
      rintro e w8 ⟨rfl, hb⟩
      have HB8 := Lib.hid ((HB.out.trans (hb.mono HB.out.size)).alloc (HB.out.trans (hb.mono HB.out.size)).size (.cells #[.pointer none, .pointer none, .slice none 0 0, .slice none 0 0, .slice none 0 0] 74))
      have HN8 := Lib.hid (nr_zero (heap_alloc_new w8 (.cells #[.pointer none, .pointer none, .slice none 0 0, .slice none 0 0, .slice none 0 0] 74)))
      clear hb HN HB
      go_wp2_with fail
      go_roundw
      case rel => exact ⟨k + 1, _, by omega, by go_num, rfl, HN8.out, HB8.out⟩
      case measure => simp [intOf]; omega
    · obtain rfl : k = 2 := by omega
      go_wp2_with fail
      refine (works_any Q0 _).mono ?_
      rintro e w9 ⟨rfl, hb⟩
      have HB9 := Lib.hid (HB.out.trans (hb.mono HB.out.size))
      clear hb HN HB
      go_wp2_with fail
      go_ret
      exact ⟨rfl, HB9.out⟩
end Go.Proofs.YtkkmfpllgjoceaaGreat.Ro
