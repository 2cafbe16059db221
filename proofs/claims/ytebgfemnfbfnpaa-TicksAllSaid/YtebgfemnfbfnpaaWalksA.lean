/- The contracts of the document's answers for layer 1 (escapementref01) and of the small helpers: each computes what Plain says and leaves the world. -/
import Derived.Test.YtebgfemnfbfnpaaRows
import Derived.Test.YtebgfemnfbfnpaaPlain
import Derived.WalkKit
import Derived.WalkSpells
import Derived.WalkLawsBesides
import Derived.Lib.Hide
import Derived.Deep.QuietTactic
import Derived.BigQuiet
namespace Go.Proofs.Ytebgfemnfbfnpaa
open Go.RowKit Tk
set_option linter.unusedVariables false

/-- a call that answers two numbers and leaves the world -/
def Two (n m : Int) (w : World) (e : Ending) (w' : World) : Prop := e = .returned (.tuple #[.int .i64 n, .int .i64 m]) ∧ w = w'
/-- a call that answers two numbers; what was there is as it was -/
def TwoB (n m : Int) (w : World) (e : Ending) (w' : World) : Prop := e = .returned (.tuple #[.int .i64 n, .int .i64 m]) ∧ Below w.heap.size w w'
def IsB (b : Bool) (w : World) (e : Ending) (w' : World) : Prop := e = .returned (.bool b) ∧ w = w'
def IsN (n : Int) (w : World) (e : Ending) (w' : World) : Prop := e = .returned (.int .i64 n) ∧ w = w'

set_option maxHeartbeats 400000 in
theorem tick_no1 (n : Int) (w : World) (h : n < 0) : Calls Try.prog 29 #[.int .i64 n] w (IsB false w) := by
  go_enter Try.func29, Try.ntmps29
  go_wp2
  go_ret
  exact ⟨rfl, rfl⟩
set_option maxHeartbeats 400000 in
theorem tick_no2 (n : Int) (w : World) (h : 1099511627776 < n) : Calls Try.prog 29 #[.int .i64 n] w (IsB false w) := by
  have hd : decide (n ≤ 1099511627776) = false := by simp; omega
  go_enter Try.func29, Try.ntmps29
  go_wp2
  go_ret
  exact ⟨rfl, rfl⟩
set_option maxHeartbeats 400000 in
theorem tick_yes (n : Int) (w : World) (h : 0 ≤ n) (k : n ≤ 1099511627776) : Calls Try.prog 29 #[.int .i64 n] w (IsB true w) := by
  go_enter Try.func29, Try.ntmps29
  go_wp2
  go_ret
  exact ⟨rfl, rfl⟩
theorem tick_any (n : Int) (w : World) : Calls Try.prog 29 #[.int .i64 n] w (IsB (tk n) w) := by
  rcases tk_cases n with ⟨h, e⟩ | ⟨h, e⟩ | ⟨h, k, e⟩ <;> rw [e]
  · exact tick_no1 n w h
  · exact tick_no2 n w h
  · exact tick_yes n w h k

set_option maxHeartbeats 400000 in
theorem radd_any (a b : Int) (w : World) : Calls Try.prog 10 #[.int .i64 a, .int .i64 b] w (Two (addN a b) (addE a b) w) := by
  rcases tk_cases a with ⟨h, ea⟩ | ⟨h, ea⟩ | ⟨h, k, ea⟩
  · rw [addN_no1 ea, addE_no1 ea]
    go_enter Try.func10, Try.ntmps10
    go_wp2_with (go_at_call 29; refine (tick_any _ _).mono ?_; rintro e w' ⟨rfl, rfl⟩)
    go_ret2
    exact ⟨rfl, rfl⟩
  · rw [addN_no1 ea, addE_no1 ea]
    go_enter Try.func10, Try.ntmps10
    go_wp2_with (go_at_call 29; refine (tick_any _ _).mono ?_; rintro e w' ⟨rfl, rfl⟩)
    go_ret2
    exact ⟨rfl, rfl⟩
  · rcases tk_cases b with ⟨h', eb⟩ | ⟨h', eb⟩ | ⟨h', k', eb⟩
    · rw [addN_no2 eb, addE_no2 eb]
      go_enter Try.func10, Try.ntmps10
      go_wp2_with (go_at_call 29; refine (tick_any _ _).mono ?_; rintro e w' ⟨rfl, rfl⟩)
      go_ret2
      exact ⟨rfl, rfl⟩
    · rw [addN_no2 eb, addE_no2 eb]
      go_enter Try.func10, Try.ntmps10
      go_wp2_with (go_at_call 29; refine (tick_any _ _).mono ?_; rintro e w' ⟨rfl, rfl⟩)
      go_ret2
      exact ⟨rfl, rfl⟩
    · by_cases hs : a + b ≤ 1099511627776
      · rw [addN_ok ea eb hs, addE_ok ea eb hs]
        go_enter Try.func10, Try.ntmps10
        go_wp2_with (go_at_call 29; refine (tick_any _ _).mono ?_; rintro e w' ⟨rfl, rfl⟩)
        go_ret2
        exact ⟨rfl, rfl⟩
      · have hs' : 1099511627776 < a + b := by omega
        rw [addN_over hs', addE_over ea eb hs']; clear hs
        go_enter Try.func10, Try.ntmps10
        go_wp2_with (go_at_call 29; refine (tick_any _ _).mono ?_; rintro e w' ⟨rfl, rfl⟩)
        go_ret2
        exact ⟨rfl, rfl⟩

set_option maxHeartbeats 400000 in
theorem rsub_any (a b : Int) (w : World) : Calls Try.prog 13 #[.int .i64 a, .int .i64 b] w (Two (subN a b) (subE a b) w) := by
  rcases tk_cases a with ⟨h, ea⟩ | ⟨h, ea⟩ | ⟨h, k, ea⟩
  · rw [subN_no1 ea, subE_no1 ea]
    go_enter Try.func13, Try.ntmps13
    go_wp2_with (go_at_call 29; refine (tick_any _ _).mono ?_; rintro e w' ⟨rfl, rfl⟩)
    go_ret2
    exact ⟨rfl, rfl⟩
  · rw [subN_no1 ea, subE_no1 ea]
    go_enter Try.func13, Try.ntmps13
    go_wp2_with (go_at_call 29; refine (tick_any _ _).mono ?_; rintro e w' ⟨rfl, rfl⟩)
    go_ret2
    exact ⟨rfl, rfl⟩
  · rcases tk_cases b with ⟨h', eb⟩ | ⟨h', eb⟩ | ⟨h', k', eb⟩
    · rw [subN_no2 eb, subE_no2 eb]
      go_enter Try.func13, Try.ntmps13
      go_wp2_with (go_at_call 29; refine (tick_any _ _).mono ?_; rintro e w' ⟨rfl, rfl⟩)
      go_ret2
      exact ⟨rfl, rfl⟩
    · rw [subN_no2 eb, subE_no2 eb]
      go_enter Try.func13, Try.ntmps13
      go_wp2_with (go_at_call 29; refine (tick_any _ _).mono ?_; rintro e w' ⟨rfl, rfl⟩)
      go_ret2
      exact ⟨rfl, rfl⟩
    · by_cases hs : b ≤ a
      · rw [subN_ok ea eb hs, subE_ok ea eb hs]
        go_enter Try.func13, Try.ntmps13
        go_wp2_with (go_at_call 29; refine (tick_any _ _).mono ?_; rintro e w' ⟨rfl, rfl⟩)
        go_ret2
        exact ⟨rfl, rfl⟩
      · have hs' : a < b := by omega
        rw [subN_no3 hs', subE_no3 hs']; clear hs
        go_enter Try.func13, Try.ntmps13
        go_wp2_with (go_at_call 29; refine (tick_any _ _).mono ?_; rintro e w' ⟨rfl, rfl⟩)
        go_ret2
        exact ⟨rfl, rfl⟩

set_option maxHeartbeats 400000 in
theorem rdiv_any (a b : Int) (w : World) : Calls Try.prog 17 #[.int .i64 a, .int .i64 b] w (Two (divN a b) (divE a b) w) := by
  rcases tk_cases a with ⟨h, ea⟩ | ⟨h, ea⟩ | ⟨h, k, ea⟩
  · rw [divN_no1 ea, divE_no1 ea]
    go_enter Try.func17, Try.ntmps17
    go_wp2_with (go_at_call 29; refine (tick_any _ _).mono ?_; rintro e w' ⟨rfl, rfl⟩)
    go_ret2
    exact ⟨rfl, rfl⟩
  · rw [divN_no1 ea, divE_no1 ea]
    go_enter Try.func17, Try.ntmps17
    go_wp2_with (go_at_call 29; refine (tick_any _ _).mono ?_; rintro e w' ⟨rfl, rfl⟩)
    go_ret2
    exact ⟨rfl, rfl⟩
  · rcases tk_cases b with ⟨h', eb⟩ | ⟨h', eb⟩ | ⟨h', k', eb⟩
    · rw [divN_no2 eb, divE_no2 eb]
      go_enter Try.func17, Try.ntmps17
      go_wp2_with (go_at_call 29; refine (tick_any _ _).mono ?_; rintro e w' ⟨rfl, rfl⟩)
      go_ret2
      exact ⟨rfl, rfl⟩
    · rw [divN_no2 eb, divE_no2 eb]
      go_enter Try.func17, Try.ntmps17
      go_wp2_with (go_at_call 29; refine (tick_any _ _).mono ?_; rintro e w' ⟨rfl, rfl⟩)
      go_ret2
      exact ⟨rfl, rfl⟩
    · by_cases hs : 0 < b
      · rw [divN_ok ea eb hs, divE_ok ea eb hs]
        have hb0 : (b == 0) = false := by simp; omega
        go_enter Try.func17, Try.ntmps17
        go_wp2_with (go_at_call 29; refine (tick_any _ _).mono ?_; rintro e w' ⟨rfl, rfl⟩)
        go_ret2
        exact ⟨rfl, rfl⟩
      · obtain rfl : b = 0 := by omega
        rw [divN_no3, divE_no3]; clear hs
        go_enter Try.func17, Try.ntmps17
        go_wp2_with (go_at_call 29; refine (tick_any _ _).mono ?_; rintro e w' ⟨rfl, rfl⟩)
        go_ret2
        exact ⟨rfl, rfl⟩

set_option maxHeartbeats 400000 in
theorem rmul_any (a b : Int) (w : World) : Calls Try.prog 15 #[.int .i64 a, .int .i64 b] w (Two (mulN a b) (mulE a b) w) := by
  rcases tk_cases a with ⟨h, ea⟩ | ⟨h, ea⟩ | ⟨h, k, ea⟩
  · rw [mulN_no1 ea, mulE_no1 ea]
    go_enter Try.func15, Try.ntmps15
    go_wp2_with (go_at_call 29; refine (tick_any _ _).mono ?_; rintro e w' ⟨rfl, rfl⟩)
    go_ret2
    exact ⟨rfl, rfl⟩
  · rw [mulN_no1 ea, mulE_no1 ea]
    go_enter Try.func15, Try.ntmps15
    go_wp2_with (go_at_call 29; refine (tick_any _ _).mono ?_; rintro e w' ⟨rfl, rfl⟩)
    go_ret2
    exact ⟨rfl, rfl⟩
  · rcases tk_cases b with ⟨h', eb⟩ | ⟨h', eb⟩ | ⟨h', k', eb⟩
    · rw [mulN_no2 eb, mulE_no2 eb]
      go_enter Try.func15, Try.ntmps15
      go_wp2_with (go_at_call 29; refine (tick_any _ _).mono ?_; rintro e w' ⟨rfl, rfl⟩)
      go_ret2
      exact ⟨rfl, rfl⟩
    · rw [mulN_no2 eb, mulE_no2 eb]
      go_enter Try.func15, Try.ntmps15
      go_wp2_with (go_at_call 29; refine (tick_any _ _).mono ?_; rintro e w' ⟨rfl, rfl⟩)
      go_ret2
      exact ⟨rfl, rfl⟩
    · by_cases h0 : 0 < a
      · have hbd : 0 ≤ 1099511627776 / a := Int.ediv_nonneg (by omega) (by omega)
        by_cases hs : 1099511627776 / a < b
        · have hs' : 1099511627776 < a * b := by rw [Int.mul_comm]; exact (mul_over_iff h0).1 hs
          rw [mulN_over hs', mulE_over ea eb hs']; clear hs'
          go_enter Try.func15, Try.ntmps15
          go_wp2_with (go_at_call 29; refine (tick_any _ _).mono ?_; rintro e w' ⟨rfl, rfl⟩)
          go_ret2
          exact ⟨rfl, rfl⟩
        · have hs2 : b ≤ 1099511627776 / a := by omega
          have hs' : a * b ≤ 1099511627776 := by rw [Int.mul_comm]; exact mul_bd hs2 h0
          have hp : 0 ≤ a * b := Int.mul_nonneg h h'
          rw [mulN_ok ea eb hs', mulE_ok ea eb hs']; clear hs
          have hd : decide (1099511627776 / a < b) = false := by simp; omega
          clear hs2
          go_enter Try.func15, Try.ntmps15
          go_wp2_with (go_at_call 29; refine (tick_any _ _).mono ?_; rintro e w' ⟨rfl, rfl⟩)
          go_ret2
          exact ⟨rfl, rfl⟩
      · obtain rfl : a = 0 := by omega
        have hs' : (0 : Int) * b ≤ 1099511627776 := by omega
        rw [mulN_ok ea eb hs', mulE_ok ea eb hs', Int.zero_mul]; clear hs' h0
        go_enter Try.func15, Try.ntmps15
        go_wp2_with (go_at_call 29; refine (tick_any _ _).mono ?_; rintro e w' ⟨rfl, rfl⟩)
        go_ret2
        exact ⟨rfl, rfl⟩

set_option maxHeartbeats 400000 in
theorem two_same (n e : Int) (w : World) : Calls Try.prog 11 #[.int .i64 n, .int .i64 e, .int .i64 n, .int .i64 e] w (IsB true w) := by
  go_enter Try.func11, Try.ntmps11
  go_wp2
  go_ret
  exact ⟨rfl, rfl⟩
set_option maxHeartbeats 400000 in
theorem is_same (n e : Int) (w : World) : Calls Try.prog 30 #[.int .i64 n, .int .i64 e, .int .i64 n, .int .i64 e] w (IsB true w) := by
  go_enter Try.func30, Try.ntmps30
  go_wp2
  go_ret
  exact ⟨rfl, rfl⟩

set_option maxHeartbeats 400000 in
theorem bring_pos (n m : Int) (w : World) (h : 0 ≤ n) (hm : 1 ≤ m) (hm' : m ≤ 4611686018427387904) : Calls Try.prog 27 #[.int .i64 n, .int .i64 m] w (IsN (n % m) w) := by
  have h0 : (m == 0) = false := by simp; omega
  have h1 : 0 ≤ n % m := Int.emod_nonneg _ (by omega)
  have h2 : n % m < m := Int.emod_lt_of_pos _ (by omega)
  go_enter Try.func27, Try.ntmps27
  go_wp2
  go_ret
  exact ⟨rfl, rfl⟩
theorem tmod_neg (n m : Int) (h : n < 0) (hm : 1 ≤ m) : n.tmod m = - ((-n) % m) := by
  rw [show n = -(-n) from by omega, Int.neg_tmod, Int.tmod_eq_emod_of_nonneg (by omega)]; simp
theorem emod_neg (n m : Int) (hm : 1 ≤ m) : n % m = if (-n) % m = 0 then 0 else m - (-n) % m := by
  have a1 := Int.emod_nonneg (-n) (by omega : m ≠ 0)
  have a2 := Int.emod_lt_of_pos (-n) (by omega : 0 < m)
  have e := Int.mul_ediv_add_emod (-n) m
  split
  · rename_i hz
    rw [hz] at e
    have : n = m * (-((-n) / m)) := by rw [Int.mul_neg]; omega
    rw [this]; exact Int.mul_emod_right _ _
  · have : n = (m - (-n) % m) + m * (-((-n) / m) - 1) := by rw [Int.mul_sub, Int.mul_neg]; omega
    conv => lhs; rw [this]
    rw [Int.add_mul_emod_self_left]
    exact Int.emod_eq_of_lt (by omega) (by omega)
set_option maxHeartbeats 400000 in
theorem bring_neg (n m : Int) (w : World) (h : n < 0) (hl : -9223372036854775808 ≤ n) (hm : 1 ≤ m) (hm' : m ≤ 4611686018427387904) : Calls Try.prog 27 #[.int .i64 n, .int .i64 m] w (IsN (n % m) w) := by
  have h0 : (m == 0) = false := by simp; omega
  have h1 : 0 ≤ (-n) % m := Int.emod_nonneg _ (by omega)
  have h2 : (-n) % m < m := Int.emod_lt_of_pos _ (by omega)
  have ht := tmod_neg n m h hm
  have hem := emod_neg n m hm
  generalize (-n) % m = r at *
  rw [hem]
  generalize hq : n.tmod m = q at *
  by_cases hz : r = 0
  · rw [if_pos hz]
    obtain rfl : q = 0 := by omega
    clear ht hem hz
    go_enter Try.func27, Try.ntmps27
    go_wp2
    go_ret
    exact ⟨rfl, rfl⟩
  · rw [if_neg hz]
    obtain rfl : r = -q := by omega
    have hq0 : q < 0 := by omega
    have hw : q + m ≤ 4611686018427387904 := by omega
    have he : m - -q = q + m := by omega
    rw [he]
    clear ht hem hz he
    go_enter Try.func27, Try.ntmps27
    go_wp2
    go_ret
    exact ⟨rfl, rfl⟩
theorem bring_any (n m : Int) (w : World) (hl : -9223372036854775808 ≤ n) (hm : 1 ≤ m) (hm' : m ≤ 4611686018427387904) : Calls Try.prog 27 #[.int .i64 n, .int .i64 m] w (IsN (n % m) w) := by
  by_cases h : 0 ≤ n
  · exact bring_pos n m w h hm hm'
  · exact bring_neg n m w (by omega) hl hm hm'


set_option maxHeartbeats 400000 in
theorem rgcd_ok (a b : Int) (w : World) (h : 0 ≤ a) (k : a ≤ 1099511627776) (h' : 0 ≤ b) (k' : b ≤ 1099511627776) (ea : tk a = true) (eb : tk b = true) :
    Calls Try.prog 19 #[.int .i64 a, .int .i64 b] w (Two (Nat.gcd a.toNat b.toNat : Nat) 0 w) := by
  obtain ⟨G, H⟩ : ∃ G : Int, Hid (G = (Nat.gcd a.toNat b.toNat : Nat)) := ⟨_, rfl⟩
  rw [← H.out]
  go_enter Try.func19, Try.ntmps19
  go_wp2_with (go_at_call 29; refine (tick_any _ _).mono ?_; rintro e w' ⟨rfl, rfl⟩)
  go_loop [0, 1, 6] (fun u v _ => ∃ x y : Int, 0 ≤ x ∧ 0 ≤ y ∧ x ≤ 1099511627776 ∧ y ≤ 1099511627776 ∧ u = .int .i64 x ∧ v = .int .i64 y ∧ Hid (G = (Nat.gcd x.toNat y.toNat : Nat))) (fun _ v _ => (intOf v).toNat)
  case atStart => exact ⟨a, b, h, h', k, k', rfl, rfl, H⟩
  case round =>
    clear H ea eb h k h' k'
    obtain ⟨x, y, hx, hy, hx', hy', rfl, rfl, HG⟩ := hrel
    by_cases hz : 0 < y
    · have hm0 : 0 ≤ x % y := Int.emod_nonneg _ (by omega)
      have hm1 : x % y < y := Int.emod_lt_of_pos _ hz
      have hyb : (y == 0) = false := by simp; omega
      have HS : Hid (G = (Nat.gcd y.toNat (x % y).toNat : Nat)) := by have := HG.out; rw [gcd_step x y hx hz] at this; exact this
      clear HG
      go_wp2
      go_round
      case rel => exact ⟨y, x % y, hy, hm0, hy', by omega, rfl, rfl, HS⟩
      case measure => simp [intOf]; omega
    · obtain rfl : y = 0 := by omega
      have e := HG.out; rw [gcd_end x hx] at e; subst e; clear HG
      go_wp2
      go_ret2
      exact ⟨rfl, rfl⟩

theorem rgcd_any (a b : Int) (w : World) : Calls Try.prog 19 #[.int .i64 a, .int .i64 b] w (Two (gcdN a b) (gcdE a b) w) := by
  rcases tk_cases a with ⟨h, ea⟩ | ⟨h, ea⟩ | ⟨h, k, ea⟩
  · rw [gcdN_no1 ea, gcdE_no1 ea]
    go_enter Try.func19, Try.ntmps19
    go_wp2_with (go_at_call 29; refine (tick_any _ _).mono ?_; rintro e w' ⟨rfl, rfl⟩)
    go_ret2
    exact ⟨rfl, rfl⟩
  · rw [gcdN_no1 ea, gcdE_no1 ea]
    go_enter Try.func19, Try.ntmps19
    go_wp2_with (go_at_call 29; refine (tick_any _ _).mono ?_; rintro e w' ⟨rfl, rfl⟩)
    go_ret2
    exact ⟨rfl, rfl⟩
  · rcases tk_cases b with ⟨h', eb⟩ | ⟨h', eb⟩ | ⟨h', k', eb⟩
    · rw [gcdN_no2 eb, gcdE_no2 eb]
      go_enter Try.func19, Try.ntmps19
      go_wp2_with (go_at_call 29; refine (tick_any _ _).mono ?_; rintro e w' ⟨rfl, rfl⟩)
      go_ret2
      exact ⟨rfl, rfl⟩
    · rw [gcdN_no2 eb, gcdE_no2 eb]
      go_enter Try.func19, Try.ntmps19
      go_wp2_with (go_at_call 29; refine (tick_any _ _).mono ?_; rintro e w' ⟨rfl, rfl⟩)
      go_ret2
      exact ⟨rfl, rfl⟩
    · rw [gcdN_ok ea eb, gcdE_ok ea eb]
      exact rgcd_ok a b w h k h' k' ea eb

end Go.Proofs.Ytebgfemnfbfnpaa
