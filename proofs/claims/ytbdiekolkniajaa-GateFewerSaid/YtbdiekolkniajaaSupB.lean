/- The program's Of and Wait. -/
import Derived.Test.YtbdiekolkniajaaSupA
import Derived.Deep.RegionHeld3
namespace Go.Proofs.Ytbdiekolkniajaa.Sv
open Go.RowKit Tk Su
set_option linter.unusedVariables false

theorem SK.drew {w W : World} {B : Nat} {p q : Addr} {x y : Value} (h : w.cell? p = some x ∧ w.cell? q = some y ∧ Below B W w) : w.drew.cell? p = some x ∧ w.drew.cell? q = some y ∧ Below B W w.drew := ⟨h.1, h.2.1, h.2.2.drew⟩
theorem SK.alloc {w W : World} {B : Nat} {p q : Addr} {x y : Value} (hB : B ≤ W.heap.size) (h : w.cell? p = some x ∧ w.cell? q = some y ∧ Below B W w) (o : Obj) : (w.alloc o).cell? p = some x ∧ (w.alloc o).cell? q = some y ∧ Below B W (w.alloc o) :=
  ⟨by rw [World.cell?_alloc_lt _ _ _ (World.block_lt_of_cell? w p h.1)]; exact h.1, by rw [World.cell?_alloc_lt _ _ _ (World.block_lt_of_cell? w q h.2.1)]; exact h.2.1, h.2.2.alloc (Nat.le_trans hB h.2.2.size) o⟩
theorem SK.below {w w' W : World} {B : Nat} {p q : Addr} {x y : Value} (hB : B ≤ W.heap.size) (h : w.cell? p = some x ∧ w.cell? q = some y ∧ Below B W w) (hb : Below w.heap.size w w') : w'.cell? p = some x ∧ w'.cell? q = some y ∧ Below B W w' :=
  ⟨(hb.cell (World.block_lt_of_cell? w p h.1)).trans h.1, (hb.cell (World.block_lt_of_cell? w q h.2.1)).trans h.2.1, h.2.2.trans (hb.mono (Nat.le_trans hB h.2.2.size))⟩
theorem bel_of_alloc {w w1 : World} {o : Obj} (h : Below (w.alloc o).heap.size (w.alloc o) w1) : Below w.heap.size w w1 := ((Below.refl _ w).alloc (Nat.le_refl _) o).trans (h.mono (by simp))
/-- what a call answers, with what is to be kept -/
def SV (v : Value) (W : World) (p q : Addr) (x y : Value) (e : Ending) (w' : World) : Prop := e = .returned v ∧ (w'.cell? p = some x ∧ w'.cell? q = some y ∧ Below W.heap.size W w')
theorem keep_S {f : Nat} {xs : Array Value} {v : Value} {w W : World} {p q : Addr} {x y : Value} (h : w.cell? p = some x ∧ w.cell? q = some y ∧ Below W.heap.size W w) (hc : Calls Try.prog f xs w (fun e w' => e = .returned v ∧ Below w.heap.size w w')) :
    Calls Try.prog f xs w (SV v W p q x y) := hc.mono fun e w' ⟨he, hb⟩ => ⟨he, SK.below (Nat.le_refl _) h hb⟩
theorem given_any (P B t : Nat) (w : World) (hB : 0 < B) (hBP : B ≤ P) (hP2 : P ≤ 64) (ht : t ≤ 1048576) : Calls Try.prog 84 #[sv P B, .int .i64 t] w (YI (sp P (P - B) t : Nat) w) := by
  have HG := Lib.hid (gap_any P B · hBP hP2)
  cases hc : decide (t < P - B) with
  | true =>
    have HS := Lib.hid (sp_low (P := P) (I := P - B) (t := t) (by omega) (by have := of_decide_eq_true hc; omega))
    generalize P - B = I at *
    go_enter Try.func84, Try.ntmps84
    go_wp2_with fail
    refine (HG.out _).mono ?_
    rintro e w1 ⟨rfl, hb⟩
    go_wp2_with fail
    go_ret
    exact ⟨by rw [HS.out]; rfl, (below_alloc w _).trans (hb.mono (by simp))⟩
  | false =>
    have hle : P - B ≤ t := by have := of_decide_eq_false hc; omega
    have HS := Lib.hid (sp_max hB hBP hle)
    have HT := Lib.hid (turns_p P B (t - (P - B)) · hB hBP hP2 (by omega))
    have hq : (t - (P - B)) / P ≤ t := Nat.le_trans (Nat.div_le_self _ _) (by omega)
    have hs : (t : Int) - (P - B : Nat) = ((t - (P - B) : Nat) : Int) := by omega
    generalize (t - (P - B)) / P = q at *
    generalize t - (P - B) = u at *
    have hI : P - B ≤ 64 := by omega
    generalize sp P (P - B) t = S at *
    generalize P - B = I at *
    have e1 : ((q : Int) + 2) * I = (((q + 2) * I : Nat) : Int) := by push_cast; rfl
    have hm : (q + 2) * I ≤ 1048578 * 64 := Nat.mul_le_mul (by omega) hI
    have e2 : (q : Int) * B = ((q * B : Nat) : Int) := by push_cast; rfl
    have hm2 : q * B ≤ 1048578 * 64 := Nat.mul_le_mul (by omega) (by omega)
    have hv0 : IntKind.i64.wrap ((t : Int) - I) = u := by rw [IntWalk.i64_in _ ⟨by omega, by omega⟩, hs]
    rw [HS.out, e1, e2]
    rw [e1] at HT
    have hw1 : wrap64 ((q : Int) * B) = ((q * B : Nat) : Int) := by rw [e2]; generalize q * B = x at *; unfold wrap64; omega
    generalize (q + 2) * I = y at *
    generalize q * B = x at *
    have hw2 : wrap64 ((t : Int) - y) = t - y := by unfold wrap64; omega
    have HW1 := Lib.hid hw1
    have HW2 := Lib.hid hw2
    clear e1 e2 hm hm2 hq hle hs HS hw1 hw2
    go_enter Try.func84, Try.ntmps84
    go_wp2_with fail
    refine (HG.out _).mono ?_
    rintro e w1 ⟨rfl, hb⟩
    have HB := Lib.hid ((below_alloc w (.cells #[.int .i64 P, .int .i64 B] 128)).trans (hb.mono (by simp)))
    have HC := Lib.hid ((hb.block w.heap.size (by simp)).trans (heap_alloc_new w _))
    clear hb
    have hss := Lib.hid (⟨cell_of_row _ _ 0 _ _ _ HC.out, cell_of_row _ _ 1 _ _ _ HC.out, Below.refl _ _⟩ : w1.cell? ⟨w.heap.size, 0, none⟩ = some (.int .i64 P) ∧ w1.cell? ⟨w.heap.size, 1, none⟩ = some (.int .i64 B) ∧ Below w1.heap.size w1 w1)
    have c0 := cell_of_row _ _ 0 _ _ _ HC.out
    have c1 := cell_of_row _ _ 1 _ _ _ HC.out
    go_wp2_with fail
    clear c0 c1
    go_region_held3 (fun w' => w'.cell? ⟨w.heap.size, 0, none⟩ = some (.int .i64 P) ∧ w'.cell? ⟨w.heap.size, 1, none⟩ = some (.int .i64 B) ∧ Below w1.heap.size w1 w')
      (first | assumption | exact SK.drew hss.out | exact SK.alloc (Nat.le_refl _) (by assumption) _ | go_keep)
      (first | (go_at_call 96; refine (keep_S (by assumption) (HG.out _)).mono ?_; rintro e w' ⟨rfl, hq⟩) | (go_at_call 97; refine (keep_S (by assumption) (HT.out _)).mono ?_; rintro e w' ⟨rfl, hq⟩))
    have HB1 := Lib.hid (chn HB.out hq.2.2)
    have c1 := hq.2.1
    have HW1 := HW1.out; have HW2 := HW2.out
    clear HC hss hq
    go_wp2_with fail
    all_goals
      go_ret
      exact ⟨by first | (rw [Int.max_eq_right (by omega)]; rfl) | (rw [Int.max_eq_left (by omega)]; rfl), HB1.out⟩
theorem of_any (p b t : Int) (w : World) : Calls Try.prog 71 #[.int .i64 p, .int .i64 b, .int .i64 t] w (TwoB (ofN p b t) (ofE p b t) w) := by
  have HM := Lib.hid (mayBe_any p b); have HU := Lib.hid (isUpTo_any 1048576 t)
  cases h1 : okS p b with
  | false =>
    rw [ofN_no1 h1, ofE_no1 h1]
    rw [h1] at HM
    clear h1
    go_enter Try.func71, Try.ntmps71
    go_wp2_with fail
    refine (HM.out _).mono ?_
    rintro e w1 ⟨rfl, hb⟩
    go_wp2_with fail
    go_ret2
    exact ⟨rfl, bel_of_alloc hb⟩
  | true =>
    rw [h1] at HM
    cases h2 : upTo 1048576 t with
    | false =>
      rw [ofN_no2 h2, ofE_no2 h2]
      rw [h2] at HU
      clear h1 h2
      go_enter Try.func71, Try.ntmps71
      go_wp2_with fail
      refine (HM.out _).mono ?_
      rintro e w1 ⟨rfl, hb⟩
      go_wp2_with fail
      refine (HU.out _).mono ?_
      rintro e w2 ⟨rfl, rfl⟩
      go_wp2_with fail
      go_ret2
      exact ⟨rfl, bel_of_alloc hb⟩
    | true =>
      obtain ⟨P, B, rfl, rfl, g1, g2, g3⟩ := okS_nat h1
      obtain ⟨T, rfl, g4⟩ := upTo_nat h2
      have HG := Lib.hid (given_any P B T · g1 g2 g3 (by omega))
      rw [ofN_ok g1 g2 g3 (by omega), ofE_ok g1 g2 g3 (by omega)]
      rw [h2] at HU
      generalize sp P (P - B) T = S at *
      clear h1 h2 g1 g2 g3 g4
      go_enter Try.func71, Try.ntmps71
      go_wp2_with fail
      refine (HM.out _).mono ?_
      rintro e w1 ⟨rfl, hb⟩
      have HB := Lib.hid ((below_alloc w (.cells #[.int .i64 P, .int .i64 B] 126)).trans (hb.mono (by simp)))
      have HC := Lib.hid ((hb.block w.heap.size (by simp)).trans (heap_alloc_new w _))
      clear hb
      have c0 := cell_of_row _ _ 0 _ _ _ HC.out
      have c1 := cell_of_row _ _ 1 _ _ _ HC.out
      go_wp2_with fail
      refine (HU.out _).mono ?_
      rintro e w2 ⟨rfl, rfl⟩
      go_wp2_with fail
      refine (HG.out _).mono ?_
      rintro e w3 ⟨rfl, hb⟩
      have HB2 := Lib.hid (chn HB.out hb)
      clear hb
      go_wp2_with fail
      go_ret2
      exact ⟨rfl, HB2.out⟩
end Go.Proofs.Ytbdiekolkniajaa.Sv
