/- Servers that are brought to be such; SupplyWorst and SupplySteps. -/
import Derived.Test.YtajmnocchjhbkaaSupD
import Derived.Handy
namespace Go.Proofs.Ytajmnocchjhbkaa
open Go.RowKit Tk Su
set_option linter.unusedVariables false

theorem bring_nat (n : Int) {m : Nat} (h : 0 < m) : ∃ j : Nat, n % (m : Int) = j ∧ j < m := by
  have h1 := Int.emod_nonneg n (show (m : Int) ≠ 0 by omega)
  have h2 := Int.emod_lt_of_pos n (show (0 : Int) < m by omega)
  exact ⟨(n % (m : Int)).toNat, by omega, by omega⟩
theorem made_any (x y : Int) (hx : -9223372036854775808 ≤ x) (hy : -9223372036854775808 ≤ y) : ∃ P B : Nat, 0 < B ∧ B ≤ P ∧ P ≤ 64 ∧
    ∀ w : World, Calls Try.prog 14 #[sv x y] w (fun e w' => e = .returned (sv P B) ∧ Below w.heap.size w w') := by
  obtain ⟨i, hi, hi2⟩ := bring_nat x (m := 64) (by omega)
  obtain ⟨j, hj, hj2⟩ := bring_nat y (m := i + 1) (by omega)
  refine ⟨i + 1, j + 1, by omega, by omega, by omega, fun w => ?_⟩
  have H1 := Lib.hid (fun w => bring_any x 64 w hx (by omega) (by omega))
  have H2 := Lib.hid (fun w => bring_any y ((i + 1 : Nat) : Int) w hy (by omega) (by omega))
  have hi' : x % (64 : Int) = i := hi
  rw [hi'] at H1
  rw [hj] at H2
  have e1 : ((i + 1 : Nat) : Int) = (i : Int) + 1 := by omega
  have e2 : ((j + 1 : Nat) : Int) = (j : Int) + 1 := by omega
  have e3 : (1 : Int) + i = (i : Int) + 1 := by omega
  have e4 : (1 : Int) + j = (j : Int) + 1 := by omega
  rw [e1] at H2
  rw [e1, e2]
  clear hi hj hi' e1 e2
  go_enter Try.func14, Try.ntmps14
  go_wp2_with fail
  refine (H1.out _).mono ?_
  rintro e w1 ⟨rfl, rfl⟩
  go_wp2_with fail
  refine (H2.out _).mono ?_
  rintro e w1 ⟨rfl, rfl⟩
  go_wp2_with fail
  go_returns
  exact ⟨rfl, ((Below.refl _ w).alloc (Nat.le_refl _) _).alloc (by simp) _⟩
theorem two_set {w : World} {b : Nat} {v0 v1 : Value} {t : TypeId} (u0 u1 : Value) (h : w.heap[b]? = some (.cells #[v0, v1] t (0, 0))) : ((w.setCell ⟨b, 0, none⟩ u0).setCell ⟨b, 1, none⟩ u1).heap[b]? = some (.cells #[u0, u1] t (0, 0)) := by
  have h1 := heap_setCell_same w b 0 _ t u0 h
  exact heap_setCell_same _ b 1 _ t u1 h1
/-- a server in a block of the call's own, that may be looked at -/
def SB (w W : World) (P B : Nat) : Prop := W.heap[w.heap.size]? = some (.cells #[.int .i64 P, .int .i64 B] 28 (0, 0)) ∧ Below w.heap.size w W
theorem SB.c0 {w W : World} {P B : Nat} (h : SB w W P B) : W.cell? ⟨w.heap.size, 0, none⟩ = some (.int .i64 P) := cell_of_row _ _ 0 _ _ _ h.1
theorem SB.c1 {w W : World} {P B : Nat} (h : SB w W P B) : W.cell? ⟨w.heap.size, 1, none⟩ = some (.int .i64 B) := cell_of_row _ _ 1 _ _ _ h.1
theorem SB.below {w W W' : World} {P B : Nat} (h : SB w W P B) (hb : Below W.heap.size W W') : SB w W' P B := ⟨(hb.block _ (lt_of_block h.1)).trans h.1, chn h.2 hb⟩
theorem below_drewN {B : Nat} {a b : World} (h : Below B a b) (n : Nat) : Below B a (b.drewN n) := ⟨h.os, h.tape, h.output, h.size, h.block⟩
theorem SB.drewN {w W : World} {P B : Nat} (h : SB w W P B) (n : Nat) : SB w (W.drewN n) P B := ⟨h.1, below_drewN h.2 n⟩
theorem SB.made {w w1 : World} {x y : Value} (P B : Nat) (hb : Below (w.alloc (.cells #[x, y] 28)).heap.size (w.alloc (.cells #[x, y] 28)) w1) :
    w1.frozen? ⟨w.heap.size, 0, none⟩ = false ∧ w1.frozen? ⟨w.heap.size, 1, none⟩ = false ∧ w1.cell? ⟨w.heap.size, 0, none⟩ = some x ∧ w1.cell? ⟨w.heap.size, 1, none⟩ = some y ∧ SB w ((w1.setCell ⟨w.heap.size, 0, none⟩ (.int .i64 P)).setCell ⟨w.heap.size, 1, none⟩ (.int .i64 B)) P B := by
  have h := (hb.block w.heap.size (by simp)).trans (heap_alloc_new w _)
  exact ⟨frozen_of_row _ _ 0 _ _ h, frozen_of_row _ _ 1 _ _ h, cell_of_row _ _ 0 _ _ _ h, cell_of_row _ _ 1 _ _ _ h, two_set _ _ h, ((bel_of_alloc hb).setCell (p := ⟨w.heap.size, 0, none⟩) (Nat.le_refl _) _).setCell (p := ⟨w.heap.size, 1, none⟩) (Nat.le_refl _) _⟩
def wrs (P B : Nat) : Nat → Bool := fun i => decide (P ≤ i) && decide (P - B ≤ i % P)
set_option maxHeartbeats 1000000 in
theorem worst_law (x y t : Int) (w : World) (hx : -9223372036854775808 ≤ x) (hy : -9223372036854775808 ≤ y) (ht : -9223372036854775808 ≤ t) : Calls Try.prog 6 #[sv x y, .int .i64 t] w (TrueB w) := by
  obtain ⟨P, B, hB, hBP, hP, hM⟩ := made_any x y hx hy
  obtain ⟨T, hT, hT2⟩ := bring_nat t (m := 300) (by omega)
  have HM := Lib.hid hM
  have HT := Lib.hid (fun w => bring_any t 300 w ht (by omega) (by omega))
  have hT' : t % (300 : Int) = T := hT
  rw [hT'] at HT
  clear hM hT hT'
  go_enter Try.func6, Try.ntmps6
  go_wp2_with fail
  refine (HM.out _).mono ?_
  rintro e w1 ⟨rfl, hb⟩
  obtain ⟨f0, f1, c0, c1, hs⟩ := SB.made P B hb
  have HS := Lib.hid hs
  clear hb HM hs
  go_wp2_with fail
  refine (HT.out _).mono ?_
  rintro e w2 ⟨rfl, rfl⟩
  clear f0 f1 c0 c1
  generalize (w1.setCell ⟨w.heap.size, 0, none⟩ (.int .i64 P)).setCell ⟨w.heap.size, 1, none⟩ (.int .i64 B) = W at *
  have c0 := HS.out.c0
  have c1 := HS.out.c1
  go_wp2_with fail
  clear c0 c1
  go_loopw [5, 6] (fun n i W' => ∃ k : Nat, k ≤ T ∧ i = .int .i64 (B + k : Nat) ∧ n = .int .i64 (cnt (wrs P B) B k : Nat) ∧ Hid (SB w W' P B)) (fun _ i _ => B + T - (intOf i).toNat)
  case atStart => exact ⟨0, by omega, rfl, rfl, HS.out⟩
  case round =>
    clear HS
    obtain ⟨k, hk, rfl, rfl, HS⟩ := hrel
    have c0 := HS.out.c0
    have c1 := HS.out.c1
    by_cases hlt : k < T
    · have hn := cnt_succ (wrs P B) B k
      have hl := cnt_le (wrs P B) B k
      have HN := Lib.hid hn
      clear hn
      generalize cnt (wrs P B) B k = n at *
      obtain ⟨i, hi⟩ : ∃ i, i = B + k := ⟨_, rfl⟩
      have hik : i < B + T := by omega
      have hik2 : decide ((i : Int) < (B : Int) + T) = true := by simp; omega
      rw [← hi] at HN ⊢
      have hPz : ((P : Int) == 0) = false := by simp; omega
      have hs : (P : Int) - B = ((P - B : Nat) : Int) := by omega
      have hm := Nat.mod_lt i (show 0 < P by omega)
      have hr : ((i : Int) % P) = ((i % P : Nat) : Int) := rfl
      have HWR : Hid (wrs P B i = (decide (P ≤ i) && decide (P - B ≤ i % P))) := rfl
      generalize P - B = I at *
      generalize i % P = r at *
      have HI := Lib.hid hi
      clear hi
      cases h1 : decide (P ≤ i) <;> cases h2 : decide (I ≤ r)
      case true.true =>
        rw [h1, h2] at HWR
        have HN2 : Hid (cnt (wrs P B) B (k + 1) = n + 1) := HN.out.trans (by rw [HWR.out]; rfl)
        clear HN HWR
        go_wp2_with fail
        go_quiet (fail)
        go_wp2_with fail
        go_roundw
        case rel => exact ⟨k + 1, by omega, by rw [HI.out]; go_num, by rw [HN2.out]; rfl, HS.out.drewN _⟩
        case measure => simp [intOf]; omega
      all_goals
        rw [h1, h2] at HWR
        have HN2 : Hid (cnt (wrs P B) B (k + 1) = n) := HN.out.trans (by rw [HWR.out]; rfl)
        clear HN HWR
        go_wp2_with fail
        go_quiet (fail)
        go_wp2_with fail
        go_roundw
        case rel => exact ⟨k + 1, by omega, by rw [HI.out]; go_num, by rw [HN2.out], HS.out.drewN _⟩
        case measure => simp [intOf]; omega
    · obtain rfl : k = T := by omega
      have HF := Lib.hid (worst hB hBP k)
      have HO := Lib.hid (of_any P B k)
      rw [ofN_ok hB hBP hP (by omega), ofE_ok hB hBP hP (by omega)] at HO
      have e : cnt (wrs P B) B k = sp P (P - B) k := HF.out
      rw [e]
      clear HF e
      generalize sp P (P - B) k = S at *
      have hik2 : decide (((B + k : Nat) : Int) < (B : Int) + k) = false := by simp
      go_wp2_with fail
      refine (HO.out _).mono ?_
      rintro e w3 ⟨rfl, hb⟩
      have HS2 := Lib.hid (HS.out.below hb)
      clear hb HS c0 c1
      go_wp2_with fail
      refine (works_any _).mono ?_
      rintro e w4 ⟨rfl, hb⟩
      have HS3 := Lib.hid (HS2.out.below hb)
      clear hb HS2
      go_wp2_with fail
      go_ret
      exact ⟨rfl, HS3.out.2⟩
end Go.Proofs.Ytajmnocchjhbkaa
