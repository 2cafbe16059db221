/- What is asked of one task: due, the two closures. -/
import Derived.Test.YthhdfmpoebedcaaDemB
import Derived.IntWalk
import Derived.Deep.RegionHeld3
namespace Go.Proofs.Ythhdfmpoebedcaa
open Go.RowKit Tk De
set_option linter.unusedVariables false

/-- a task that may be asked, by value -/
abbrev ak (p d j : Int) : Value := .agg #[.int .i64 p, .int .i64 d, .int .i64 j]
theorem due_any (P D T : Nat) (j : Int) (w : World) (hP : 0 < P) (hP2 : P ≤ 64) (hD : 0 < D) (hD2 : D ≤ 64) (hT : T ≤ 1048576) : Calls Try.prog 50 #[ak P D j, .int .i64 T] w (YI (jobs P D T : Nat) w) := by
  have HB := Lib.hid ((Below.refl _ w).alloc (Nat.le_refl _) (.cells #[.int .i64 P, .int .i64 D, .int .i64 j] 71))
  cases h : decide (T < D) with
  | true =>
    have HJ : Hid (jobs P D T = 0) := if_pos (of_decide_eq_true h)
    go_enter Try.func50, Try.ntmps50
    go_wp2
    go_ret
    exact ⟨by rw [HJ.out]; rfl, HB.out⟩
  | false =>
    have hle : D ≤ T := by have := of_decide_eq_false h; omega
    have HJ : Hid (jobs P D T = 1 + (T - D) / P) := if_neg (of_decide_eq_false h)
    have hq : ((T : Int) - D) / P = ((T - D) / P : Nat) := by rw [← Int.ofNat_sub hle]; rfl
    have hq2 : (T - D) / P ≤ 1048576 := Nat.le_trans (Nat.div_le_self _ _) (by omega)
    generalize (T - D) / P = q at *
    have hp0 : ((P : Int) == 0) = false := by simp; omega
    have hw1 : wrap64 ((T : Int) - D) = T - D := by unfold wrap64; omega
    have hw2 : wrap64 (1 + (q : Int)) = 1 + q := by unfold wrap64; omega
    go_enter Try.func50, Try.ntmps50
    go_wp2
    go_ret
    exact ⟨by rw [HJ.out]; rfl, HB.out⟩
/-- four cells, and all that was there, are kept -/
def S4 (W w : World) (b t : Nat) (x y u v : Value) : Prop :=
  w.cell? ⟨b, 0, none⟩ = some x ∧ w.cell? ⟨b, 1, none⟩ = some y ∧ w.cell? ⟨b, 2, none⟩ = some u ∧ w.cell? ⟨t, 0, none⟩ = some v ∧ Below W.heap.size W w
theorem S4.drew {W w : World} {b t : Nat} {x y u v : Value} (h : S4 W w b t x y u v) : S4 W w.drew b t x y u v := ⟨h.1, h.2.1, h.2.2.1, h.2.2.2.1, h.2.2.2.2.drew⟩
theorem S4.below {W w w' : World} {b t : Nat} {x y u v : Value} (h : S4 W w b t x y u v) (q : Below w.heap.size w w') : S4 W w' b t x y u v :=
  ⟨(q.cell (World.block_lt_of_cell? _ _ h.1)).trans h.1, (q.cell (World.block_lt_of_cell? _ _ h.2.1)).trans h.2.1, (q.cell (World.block_lt_of_cell? _ _ h.2.2.1)).trans h.2.2.1, (q.cell (World.block_lt_of_cell? _ _ h.2.2.2.1)).trans h.2.2.2.1, chn h.2.2.2.2 q⟩
theorem S4.alloc {W w : World} {b t : Nat} {x y u v : Value} (h : S4 W w b t x y u v) (o : Obj) : S4 W (w.alloc o) b t x y u v := h.below ((Below.refl _ _).alloc (Nat.le_refl _) o)
/-- a task's box, made now -/
theorem S4.made {w : World} {t : Nat} {p d j : Int} {v : Value} (h : w.cell? ⟨t, 0, none⟩ = some v) :
    S4 w (w.alloc (.cells #[.int .i64 p, .int .i64 d, .int .i64 j] 71)) w.heap.size t (.int .i64 p) (.int .i64 d) (.int .i64 j) v :=
  ⟨cell_of_row _ _ 0 _ _ _ (heap_alloc_new w _), cell_of_row _ _ 1 _ _ _ (heap_alloc_new w _), cell_of_row _ _ 2 _ _ _ (heap_alloc_new w _), (((Below.refl _ w).alloc (Nat.le_refl _) _).cell (World.block_lt_of_cell? _ _ h)).trans h, (Below.refl _ w).alloc (Nat.le_refl _) _⟩
theorem keep_S4 {f : Nat} {xs : Array Value} {r : Value} {w W : World} {b t : Nat} {x y u v : Value} (h : S4 W w b t x y u v) (hc : Calls Try.prog f xs w (fun e w' => e = .returned r ∧ Below w.heap.size w w')) :
    Calls Try.prog f xs w (fun e w' => e = .returned r ∧ S4 W w' b t x y u v) := hc.mono fun _ _ ⟨he, hb⟩ => ⟨he, h.below hb⟩
theorem clo_any {w : World} {tb : Nat} (P D T J : Nat) (hP : 0 < P) (hP2 : P ≤ 64) (hD : 0 < D) (hD2 : D ≤ 64) (hT : T ≤ 1048576) (hJ : J ≤ 4160) (ht : w.cell? ⟨tb, 0, none⟩ = some (.int .i64 T)) :
    Calls Try.prog 49 #[ak P D J, .pointer (some ⟨tb, 0, none⟩)] w (YI (jobs P D T * J : Nat) w) := by
  have HD := Lib.hid (due_any P D T J · hP hP2 hD hD2 hT)
  have hp := prod_le (t := T) hP hD hJ hT
  have HS := Lib.hid (S4.made (p := P) (d := D) (j := J) ht)
  generalize jobs P D T = q at *
  have hpn : (q : Int) * J = ((q * J : Nat) : Int) := by push_cast; rfl
  have hw : IntKind.i64.wrap ((q : Int) * J) = q * J := IntWalk.i64_in _ (by rw [hpn]; omega)
  have HW := Lib.hid hw; have HPN := Lib.hid hpn
  clear hp hpn hw ht
  go_enter Try.func49, Try.ntmps49
  go_wp2_with fail
  generalize w.alloc (.cells #[.int .i64 P, .int .i64 D, .int .i64 J] 71) = w1 at *
  generalize w.heap.size = bb at *
  go_region_held3 (fun w' => w'.cell? ⟨bb, 0, none⟩ = some (.int .i64 P) ∧ w'.cell? ⟨bb, 1, none⟩ = some (.int .i64 D) ∧ w'.cell? ⟨bb, 2, none⟩ = some (.int .i64 J) ∧ w'.cell? ⟨tb, 0, none⟩ = some (.int .i64 T) ∧ Below w.heap.size w w')
    (first | assumption | exact S4.drew HS.out | exact HS.out | go_keep)
    (first | (go_at_call 50; refine (keep_S4 (by assumption) (HD.out _)).mono ?_; rintro e w' ⟨rfl, hq⟩))
  have HQ := Lib.hid hq.2.2.2.2
  go_wp2_with fail
  go_ret
  exact ⟨by rw [← HPN.out]; first | rfl | (rw [HW.out]; rfl), HQ.out⟩
theorem ucl_any {w : World} {tb : Nat} (P D T J : Nat) (hP : 0 < P) (hP2 : P ≤ 64) (hT : T ≤ 1048576) (hJ : J ≤ 4160) (ht : w.cell? ⟨tb, 0, none⟩ = some (.int .i64 T)) :
    Calls Try.prog 32 #[ak P D J, .pointer (some ⟨tb, 0, none⟩)] w (YI (T / P * J : Nat) w) := by
  have h1 := Nat.div_le_self T P
  have hp : T / P * J ≤ 1048576 * 4160 := Nat.mul_le_mul (by omega) hJ
  obtain ⟨c0, c1, c2, ct, hb⟩ := S4.made (p := P) (d := D) (j := J) ht
  have HB := Lib.hid hb
  have hq : (T : Int) / P = ((T / P : Nat) : Int) := rfl
  have hqt : (T : Int).tdiv P = ((T / P : Nat) : Int) := rfl
  generalize T / P = q at *
  have hpn : (q : Int) * J = ((q * J : Nat) : Int) := by push_cast; rfl
  have hw : IntKind.i64.wrap ((q : Int) * J) = q * J := IntWalk.i64_in _ (by rw [hpn]; omega)
  have hw0 : IntKind.i64.wrap (q : Int) = q := IntWalk.i64_in _ (by omega)
  have hp0 : ((P : Int) == 0) = false := by simp; omega
  have HW := Lib.hid hw; have HPN := Lib.hid hpn
  clear hp hpn ht h1 hb
  go_enter Try.func32, Try.ntmps32
  go_wp2_with fail
  generalize w.alloc (.cells #[.int .i64 P, .int .i64 D, .int .i64 J] 71) = w1 at *
  go_quiet (fail)
  go_wp2_with fail
  go_ret
  exact ⟨by rw [← HPN.out]; first | rfl | (rw [HW.out]; rfl), below_drewN HB.out _⟩
end Go.Proofs.Ythhdfmpoebedcaa
