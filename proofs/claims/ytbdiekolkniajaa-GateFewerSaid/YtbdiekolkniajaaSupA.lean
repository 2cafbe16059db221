/- The program's servers: Of and Wait answer the supply and the wait. -/
import Derived.Test.YtbdiekolkniajaaZp
import Derived.Test.YtbdiekolkniajaaZw
import Derived.OneCell
namespace Go.Proofs.Ytbdiekolkniajaa.Sv
open Go.RowKit Tk Su
set_option linter.unusedVariables false

/-- a bool, a number is answered; what was there is as it was -/
def YB (b : Bool) (w : World) (e : Ending) (w' : World) : Prop := e = .returned (.bool b) ∧ Below w.heap.size w w'
def YI (n : Int) (w : World) (e : Ending) (w' : World) : Prop := e = .returned (.int .i64 n) ∧ Below w.heap.size w w'
theorem chn {w w1 w2 : World} (h : Below w.heap.size w w1) (k : Below w1.heap.size w1 w2) : Below w.heap.size w w2 := h.trans (k.mono h.size)
/-- a server, by value -/
abbrev sv (p b : Int) : Value := .agg #[.int .i64 p, .int .i64 b]

theorem mayBe_any (p b : Int) (w : World) : Calls Try.prog 82 #[sv p b] w (YB (okS p b) w) := by
  unfold okS
  cases h1 : decide (1 ≤ b) with
  | false =>
    go_enter Try.func82, Try.ntmps82
    go_wp2
    go_ret
    exact ⟨by simp, below_alloc _ _⟩
  | true =>
    cases h2 : decide (b ≤ p) with
    | false =>
      go_enter Try.func82, Try.ntmps82
      go_wp2
      go_ret
      exact ⟨by simp, below_alloc _ _⟩
    | true =>
      go_enter Try.func82, Try.ntmps82
      go_wp2
      go_ret
      exact ⟨by simp, below_alloc _ _⟩
theorem isUpTo_any (m n : Int) (w : World) : Calls Try.prog 83 #[.int .i64 m, .int .i64 n] w (IsB (upTo m n) w) := by
  unfold upTo
  cases h1 : decide (0 ≤ n) with
  | false =>
    go_enter Try.func83, Try.ntmps83
    go_wp2
    go_ret
    exact ⟨by simp, rfl⟩
  | true =>
    go_enter Try.func83, Try.ntmps83
    go_wp2
    go_ret
    exact ⟨by simp, rfl⟩
theorem gap_any (P B : Nat) (w : World) (hB : B ≤ P) (hP : P ≤ 64) : Calls Try.prog 96 #[sv P B] w (YI (P - B : Nat) w) := by
  have e : ((P : Int) - B) = ((P - B : Nat) : Int) := by omega
  have E := Lib.hid e
  have hw : wrap64 ((P : Int) - B) = (P : Int) - B := by unfold wrap64; omega
  clear e
  go_enter Try.func96, Try.ntmps96
  go_wp2
  go_ret
  exact ⟨by rw [← E.out]; rfl, below_alloc _ _⟩
theorem div_fit (a b n e : Int) (w : World) (hn : divN a b = n) (he : divE a b = e) : Calls Try.prog 92 #[.int .i64 a, .int .i64 b] w (TwoB n e w) := by
  subst hn he; exact div_any a b w
theorem div_nat {a b : Nat} (ha : a ≤ 1099511627776) (hb : b ≤ 1099511627776) (h : 0 < b) : divN a b = (a / b : Nat) ∧ divE a b = 0 := by
  refine ⟨?_, divE_ok (tk_yes (by omega) (by omega)) (tk_yes (by omega) (by omega)) (by omega)⟩
  rw [divN_ok (tk_yes (by omega) (by omega)) (tk_yes (by omega) (by omega)) (by omega)]
  push_cast; rfl
theorem periods_any (P B n : Nat) (w : World) (hP : 0 < P) (hP2 : P ≤ 64) (hn : n ≤ 1099511627776) : Calls Try.prog 98 #[sv P B, .int .i64 n] w (TwoB (n / P : Nat) 0 w) := by
  have HD := Lib.hid (div_nat hn (by omega) hP)
  go_enter Try.func98, Try.ntmps98
  go_wp2_with fail
  refine (div_fit _ _ _ _ _ HD.out.1 HD.out.2).mono ?_
  rintro e w1 ⟨rfl, hb⟩
  go_wp2_with fail
  go_ret2
  exact ⟨rfl, (below_alloc _ _).trans (hb.mono (by simp))⟩
/-- turns, told which rounds down -/
theorem turns_p (P B n : Nat) (w : World) (hB : 0 < B) (hBP : B ≤ P) (hP2 : P ≤ 64) (hn : n ≤ 2097152) : Calls Try.prog 97 #[sv P B, .int .i64 n, .func (.func 98) #[] #[]] w (TwoB (n / P : Nat) (((n / P : Nat) + 2) * (P - B : Nat)) w) := by
  have HP := Lib.hid (periods_any P B n · (by omega) (by omega) (by omega))
  have HG := Lib.hid (gap_any P B · hBP hP2)
  have hq : n / P ≤ n := Nat.div_le_self _ _
  generalize n / P = q at *
  have hI : P - B ≤ 64 := by omega
  generalize P - B = I at *
  have hm : (q + 2) * I ≤ 2097154 * 64 := Nat.mul_le_mul (by omega) hI
  have hw1 : wrap64 ((q : Int) + 2) = (q : Int) + 2 := by unfold wrap64; omega
  have hw2 : wrap64 (((q : Int) + 2) * I) = ((q : Int) + 2) * I := by
    have e : ((q : Int) + 2) * I = (((q + 2) * I : Nat) : Int) := by push_cast; rfl
    rw [e]
    generalize (q + 2) * I = x at *
    unfold wrap64; omega
  clear hq hI hm
  go_enter Try.func97, Try.ntmps97
  go_wp2_with fail
  refine (HP.out _).mono ?_
  rintro e w1 ⟨rfl, hb⟩
  have HB := Lib.hid ((below_alloc w (.cells #[.int .i64 P, .int .i64 B] 128)).trans (hb.mono (by simp)))
  have c0 := (hb.block w.heap.size (by simp)).trans (heap_alloc_new w _)
  have HC := Lib.hid c0
  clear hb c0
  have c0 := cell_of_row _ _ 0 _ _ _ HC.out
  have c1 := cell_of_row _ _ 1 _ _ _ HC.out
  go_wp2_with fail
  refine (HG.out _).mono ?_
  rintro e w2 ⟨rfl, hb2⟩
  have HB2 := Lib.hid (chn HB.out hb2)
  clear hb2
  go_wp2_with fail
  go_ret2
  exact ⟨by rw [hw2]; rfl, HB2.out⟩
end Go.Proofs.Ytbdiekolkniajaa.Sv
