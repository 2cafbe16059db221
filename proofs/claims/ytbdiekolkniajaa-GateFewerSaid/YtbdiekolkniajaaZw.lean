/- The contracts of the document's answers for layer 1 (escapementref01) and of the small helpers: each computes what Plain says and leaves the world. -/
import Derived.Test.YtbdiekolkniajaaRows
import Derived.Test.YtbdiekolkniajaaZp
import Derived.WalkKit
import Derived.WalkSpells
import Derived.WalkLawsBesides
import Derived.Lib.Hide
import Derived.Deep.QuietTactic
import Derived.BigQuiet
import Derived.OneCell
namespace Go.Proofs.Ytbdiekolkniajaa
open Go.RowKit Tk
set_option linter.unusedVariables false

/-- a call that answers two numbers and leaves the world -/
def Two (n m : Int) (w : World) (e : Ending) (w' : World) : Prop := e = .returned (.tuple #[.int .i64 n, .int .i64 m]) ∧ w = w'
/-- a call that answers two numbers; what was there is as it was -/
def TwoB (n m : Int) (w : World) (e : Ending) (w' : World) : Prop := e = .returned (.tuple #[.int .i64 n, .int .i64 m]) ∧ Below w.heap.size w w'
def IsB (b : Bool) (w : World) (e : Ending) (w' : World) : Prop := e = .returned (.bool b) ∧ w = w'
def IsN (n : Int) (w : World) (e : Ending) (w' : World) : Prop := e = .returned (.int .i64 n) ∧ w = w'

set_option maxHeartbeats 400000 in
theorem bring_pos (n m : Int) (w : World) (h : 0 ≤ n) (hm : 1 ≤ m) (hm' : m ≤ 4611686018427387904) : Calls Try.prog 6 #[.int .i64 n, .int .i64 m] w (IsN (n % m) w) := by
  have h0 : (m == 0) = false := by simp; omega
  have h1 : 0 ≤ n % m := Int.emod_nonneg _ (by omega)
  have h2 : n % m < m := Int.emod_lt_of_pos _ (by omega)
  go_enter Try.func6, Try.ntmps6
  go_wp2
  go_ret
  exact ⟨rfl, rfl⟩
theorem tmod_neg (n m : Int) (h : n < 0) (hm : 1 ≤ m) : n.tmod m = - ((-n) % m) := by
  rw [show n = -(-n) from by omega, Int.neg_tmod, Int.tmod_eq_emod_of_nonneg (by omega)]; simp
theorem emod_neg (n m : Int) (hm : 1 ≤ m) : n % m = if (-n) % m = 0 then 0 else m - (-n) % m := by
  have a1 := Int.emod_nonneg (-n) (by omega : m ≠ 0)
  have a2 := Int.emod_lt_of_pos (-n) (by omega : 0 < m)
  have e := Int.mul_ediv_add_emod (-n) m
  split
  · rename_i hz
    rw [hz] at e
    have : n = m * (-((-n) / m)) := by rw [Int.mul_neg]; omega
    rw [this]; exact Int.mul_emod_right _ _
  · have : n = (m - (-n) % m) + m * (-((-n) / m) - 1) := by rw [Int.mul_sub, Int.mul_neg]; omega
    conv => lhs; rw [this]
    rw [Int.add_mul_emod_self_left]
    exact Int.emod_eq_of_lt (by omega) (by omega)
set_option maxHeartbeats 400000 in
theorem bring_neg (n m : Int) (w : World) (h : n < 0) (hl : -9223372036854775808 ≤ n) (hm : 1 ≤ m) (hm' : m ≤ 4611686018427387904) : Calls Try.prog 6 #[.int .i64 n, .int .i64 m] w (IsN (n % m) w) := by
  have h0 : (m == 0) = false := by simp; omega
  have h1 : 0 ≤ (-n) % m := Int.emod_nonneg _ (by omega)
  have h2 : (-n) % m < m := Int.emod_lt_of_pos _ (by omega)
  have ht := tmod_neg n m h hm
  have hem := emod_neg n m hm
  generalize (-n) % m = r at *
  rw [hem]
  generalize hq : n.tmod m = q at *
  by_cases hz : r = 0
  · rw [if_pos hz]
    obtain rfl : q = 0 := by omega
    clear ht hem hz
    go_enter Try.func6, Try.ntmps6
    go_wp2
    go_ret
    exact ⟨rfl, rfl⟩
  · rw [if_neg hz]
    obtain rfl : r = -q := by omega
    have hq0 : q < 0 := by omega
    have hw : q + m ≤ 4611686018427387904 := by omega
    have he : m - -q = q + m := by omega
    rw [he]
    clear ht hem hz he
    go_enter Try.func6, Try.ntmps6
    go_wp2
    go_ret
    exact ⟨rfl, rfl⟩
theorem bring_any (n m : Int) (w : World) (hl : -9223372036854775808 ≤ n) (hm : 1 ≤ m) (hm' : m ≤ 4611686018427387904) : Calls Try.prog 6 #[.int .i64 n, .int .i64 m] w (IsN (n % m) w) := by
  by_cases h : 0 ≤ n
  · exact bring_pos n m w h hm hm'
  · exact bring_neg n m w (by omega) hl hm hm'


end Go.Proofs.Ytbdiekolkniajaa

namespace Go.Proofs.Ytbdiekolkniajaa
open Go.RowKit Tk
set_option linter.unusedVariables false

/-- a slice's address in a world: its cells are these numbers -/
def Row (w : World) (a : Option Addr) (zs : List Int) : Prop :=
  zs = [] ∨ ∃ b off, a = some ⟨b, off, none⟩ ∧ ∀ i, i < zs.length → w.cell? ⟨b, off + i, none⟩ = some (.int .i64 (zs.getD i 0))

theorem lt_of_cell {w : World} {b off : Nat} {v : Value} (h : w.cell? ⟨b, off, none⟩ = some v) : b < w.heap.size := by
  rcases Nat.lt_or_ge b w.heap.size with hl | hl
  · exact hl
  · simp [World.cell?, Array.getElem?_eq_none hl] at h
theorem Row.below {w w' : World} {a : Option Addr} {zs : List Int} (h : Row w a zs) (hb : Below w.heap.size w w') : Row w' a zs := by
  rcases h with rfl | ⟨b, off, rfl, hc⟩
  · exact Or.inl rfl
  · refine Or.inr ⟨b, off, rfl, fun i hi => ?_⟩
    have := hc i hi
    rw [hb.cell (p := ⟨b, off + i, none⟩) (lt_of_cell this)]
    exact this
theorem Row.made (w : World) (zs : List Int) : Row (w.alloc (.cells (zs.map (Value.int .i64)).toArray 3)) (some ⟨w.heap.size, 0, none⟩) zs := by
  refine Or.inr ⟨w.heap.size, 0, rfl, fun i hi => ?_⟩
  have e : (w.alloc (.cells (zs.map (Value.int .i64)).toArray 3)).heap[w.heap.size]? = some (.cells (zs.map (Value.int .i64)).toArray 3) := by
    show (w.heap.push _)[w.heap.size]? = _
    simp
  simp only [World.cell?, e]
  simp [List.getElem?_eq_getElem hi, List.getD]
theorem below_alloc (w : World) (o : Obj) : Below w.heap.size w (w.alloc o) := (Below.refl _ _).alloc (Nat.le_refl _) o

/-- all of a list are ticks, as the loop finds it -/
theorem all_step (zs : List Int) (k : Nat) (h : k < zs.length) (e : tk (zs.getD k 0) = true) (ht : (zs.take k).all tk = true) : (zs.take (k + 1)).all tk = true := by
  rw [List.take_add_one, List.all_append, ht]
  simp only [List.getD, List.getElem?_eq_getElem h, Option.getD_some] at e
  simp [List.getElem?_eq_getElem h, e]
theorem all_no (zs : List Int) (k : Nat) (h : k < zs.length) (e : tk (zs.getD k 0) = false) : zs.all tk = false := by
  simp only [List.getD, List.getElem?_eq_getElem h, Option.getD_some] at e
  rw [List.all_eq_false]
  exact ⟨zs[k], List.getElem_mem h, by simp [e]⟩

set_option maxHeartbeats 400000 in
theorem areTicks_nil (a : Option Addr) (cap : Nat) (w : World) : Calls Try.prog 65 #[.slice a 0 cap] w (IsB true w) := by
  go_enter Try.func65, Try.ntmps65
  go_wp2
  go_loop [7] (fun i => i = .int .i64 0) (fun _ => 0)
  case atStart => rfl
  case round =>
    subst hrel
    go_wp2
    go_ret
    exact ⟨rfl, rfl⟩

set_option maxHeartbeats 400000 in
theorem areTicks_some (b off cap n : Nat) (zs : List Int) (w : World) (hn : n = zs.length) (hl : n ≤ 9223372036854775807) (hc : ∀ i, i < zs.length → w.cell? ⟨b, off + i, none⟩ = some (.int .i64 (zs.getD i 0))) :
    Calls Try.prog 65 #[.slice (some ⟨b, off, none⟩) n cap] w (IsB (zs.all tk) w) := by
  obtain ⟨A, HA⟩ : ∃ A : Bool, Hid (A = zs.all tk) := ⟨_, rfl⟩
  rw [← HA.out]
  have HC := Lib.hid hc; clear hc
  have HN := Lib.hid hn; clear hn
  go_enter Try.func65, Try.ntmps65
  go_wp2
  go_loop [7] (fun i => ∃ k : Nat, k ≤ n ∧ i = .int .i64 k ∧ Hid ((zs.take k).all tk = true)) (fun i => n - (intOf i).toNat)
  case atStart => exact ⟨0, Nat.zero_le _, rfl, by simp [Hid]⟩
  case round =>
    obtain ⟨k, hk, rfl, HT⟩ := hrel
    by_cases hlt : k < n
    · have hcell := HC.out k (by rw [← HN.out]; exact hlt)
      rcases tk_cases (zs.getD k 0) with ⟨h, ea⟩ | ⟨h, ea⟩ | ⟨h, h', ea⟩
      · have HF : Hid (A = false) := by rw [Hid, HA.out]; exact all_no zs k (by rw [← HN.out]; exact hlt) ea
        generalize zs.getD k 0 = z at *
        clear ea
        go_wp2
        go_ret
        exact ⟨by rw [HF.out]; rfl, rfl⟩
      · have HF : Hid (A = false) := by rw [Hid, HA.out]; exact all_no zs k (by rw [← HN.out]; exact hlt) ea
        generalize zs.getD k 0 = z at *
        clear ea
        go_wp2
        go_ret
        exact ⟨by rw [HF.out]; rfl, rfl⟩
      · have HF : Hid ((zs.take (k + 1)).all tk = true) := all_step zs k (by rw [← HN.out]; exact hlt) ea HT.out
        have hd : decide (1099511627776 < zs.getD k 0) = false := by simp; simp at h'; omega
        generalize zs.getD k 0 = z at *
        clear ea
        go_wp2
        go_round
        case rel => exact ⟨k + 1, by omega, by go_num, HF⟩
        case measure => simp [intOf]; omega
    · obtain rfl : k = n := by omega
      have HF : Hid (A = true) := by
        have := HT.out; rw [HN.out, List.take_length] at this
        rw [Hid, HA.out, this]
      go_wp2
      go_ret
      exact ⟨by rw [HF.out]; rfl, rfl⟩

theorem areTicks_any (a : Option Addr) (cap n : Nat) (zs : List Int) (w : World) (hn : n = zs.length) (hl : n ≤ 9223372036854775807) (hr : Row w a zs) : Calls Try.prog 65 #[.slice a n cap] w (IsB (zs.all tk) w) := by
  rcases hr with rfl | ⟨b, off, rfl, hc⟩
  · obtain rfl : n = 0 := by simpa using hn
    exact areTicks_nil a cap w
  · exact areTicks_some b off cap n zs w hn hl hc

theorem areTicks_two (a b : Int) (w : World) : Calls Try.prog 65 #[.slice (some ⟨w.heap.size, 0, none⟩) 2 2] (w.alloc (.cells #[.int .i64 a, .int .i64 b] 3)) (IsB (tk a && tk b) (w.alloc (.cells #[.int .i64 a, .int .i64 b] 3))) := by
  have h := areTicks_any (some ⟨w.heap.size, 0, none⟩) 2 2 [a, b] _ rfl (by omega) (Row.made w [a, b])
  simpa using h
theorem areTicks_one (a : Int) (w : World) : Calls Try.prog 65 #[.slice (some ⟨w.heap.size, 0, none⟩) 1 1] (w.alloc (.cells #[.int .i64 a] 3)) (IsB (tk a) (w.alloc (.cells #[.int .i64 a] 3))) := by
  have h := areTicks_any (some ⟨w.heap.size, 0, none⟩) 1 1 [a] _ rfl (by omega) (Row.made w [a])
  simpa using h


set_option maxHeartbeats 400000 in
theorem gcd_ok (a b : Int) (w : World) (h : 0 ≤ a) (k : a ≤ 1099511627776) (h' : 0 ≤ b) (k' : b ≤ 1099511627776) (ea : tk a = true) (eb : tk b = true) :
    Calls Try.prog 47 #[.int .i64 a, .int .i64 b] w (TwoB (Nat.gcd a.toNat b.toNat : Nat) 0 w) := by
  obtain ⟨G, H⟩ : ∃ G : Int, Hid (G = (Nat.gcd a.toNat b.toNat : Nat)) := ⟨_, rfl⟩
  rw [← H.out]
  go_enter Try.func47, Try.ntmps47
  go_wp2_with (go_at_call 65; refine (areTicks_two _ _ _).mono ?_; rintro e w' ⟨rfl, rfl⟩)
  go_loopw [0, 1] (fun u v wr => ∃ x y : Int, 0 ≤ x ∧ 0 ≤ y ∧ x ≤ 1099511627776 ∧ y ≤ 1099511627776 ∧ u = .int .i64 x ∧ v = .int .i64 y ∧ Hid (G = (Nat.gcd x.toNat y.toNat : Nat)) ∧ Below w.heap.size w wr) (fun _ v _ => (intOf v).toNat)
  case atStart => exact ⟨a, b, h, h', k, k', rfl, rfl, H, below_alloc _ _⟩
  case round =>
    clear H ea eb h k h' k'
    obtain ⟨x, y, hx, hy, hx', hy', rfl, rfl, HG, HB⟩ := hrel
    by_cases hz : 0 < y
    · have hm0 : 0 ≤ x % y := Int.emod_nonneg _ (by omega)
      have hm1 : x % y < y := Int.emod_lt_of_pos _ hz
      have hyb : (y == 0) = false := by simp; omega
      have hyc : (y != 0) = true := by simp; omega
      have HS : Hid (G = (Nat.gcd y.toNat (x % y).toNat : Nat)) := by have := HG.out; rw [gcd_step x y hx hz] at this; exact this
      clear HG
      go_wp2
      go_quiet (fail)
      go_wp2
      go_roundw
      case rel => exact ⟨y, x % y, hy, hm0, hy', by omega, rfl, rfl, HS, below_drewN HB _⟩
      case measure => simp [intOf]; omega
    · obtain rfl : y = 0 := by omega
      have e := HG.out; rw [gcd_end x hx] at e; subst e; clear HG
      go_wp2
      go_ret2
      exact ⟨rfl, HB⟩

set_option maxHeartbeats 400000 in
theorem add_any (a b : Int) (w : World) : Calls Try.prog 95 #[.int .i64 a, .int .i64 b] w (TwoB (addN a b) (addE a b) w) := by
  rcases tk_cases a with ⟨h, ea⟩ | ⟨h, ea⟩ | ⟨h, k, ea⟩
  · rw [addN_no1 ea, addE_no1 ea]
    have et : (tk a && tk b) = false := by simp [ea]
    go_enter Try.func95, Try.ntmps95
    go_wp2_with (go_at_call 65; refine (areTicks_two _ _ _).mono ?_; rintro e w' ⟨rfl, rfl⟩)
    go_ret2
    exact ⟨rfl, below_alloc _ _⟩
  · rw [addN_no1 ea, addE_no1 ea]
    have et : (tk a && tk b) = false := by simp [ea]
    go_enter Try.func95, Try.ntmps95
    go_wp2_with (go_at_call 65; refine (areTicks_two _ _ _).mono ?_; rintro e w' ⟨rfl, rfl⟩)
    go_ret2
    exact ⟨rfl, below_alloc _ _⟩
  · rcases tk_cases b with ⟨h', eb⟩ | ⟨h', eb⟩ | ⟨h', k', eb⟩
    · rw [addN_no2 eb, addE_no2 eb]
      go_enter Try.func95, Try.ntmps95
      go_wp2_with (go_at_call 65; refine (areTicks_two _ _ _).mono ?_; rintro e w' ⟨rfl, rfl⟩)
      go_ret2
      exact ⟨rfl, below_alloc _ _⟩
    · rw [addN_no2 eb, addE_no2 eb]
      go_enter Try.func95, Try.ntmps95
      go_wp2_with (go_at_call 65; refine (areTicks_two _ _ _).mono ?_; rintro e w' ⟨rfl, rfl⟩)
      go_ret2
      exact ⟨rfl, below_alloc _ _⟩
    · by_cases hs : a + b ≤ 1099511627776
      · rw [addN_ok ea eb hs, addE_ok ea eb hs]
        have hd : decide (1099511627776 - b < a) = false := by simp; omega
        go_enter Try.func95, Try.ntmps95
        go_wp2_with (go_at_call 65; refine (areTicks_two _ _ _).mono ?_; rintro e w' ⟨rfl, rfl⟩)
        go_ret2
        exact ⟨rfl, below_alloc _ _⟩
      · have hs' : 1099511627776 < a + b := by omega
        rw [addN_over hs', addE_over ea eb hs']; clear hs
        have hd : decide (1099511627776 - b < a) = true := by simp; omega
        go_enter Try.func95, Try.ntmps95
        go_wp2_with (go_at_call 65; refine (areTicks_two _ _ _).mono ?_; rintro e w' ⟨rfl, rfl⟩)
        go_ret2
        exact ⟨rfl, below_alloc _ _⟩

set_option maxHeartbeats 400000 in
theorem div_any (a b : Int) (w : World) : Calls Try.prog 92 #[.int .i64 a, .int .i64 b] w (TwoB (divN a b) (divE a b) w) := by
  rcases tk_cases a with ⟨h, ea⟩ | ⟨h, ea⟩ | ⟨h, k, ea⟩
  · rw [divN_no1 ea, divE_no1 ea]
    have et : (tk a && tk b) = false := by simp [ea]
    go_enter Try.func92, Try.ntmps92
    go_wp2_with (go_at_call 65; refine (areTicks_two _ _ _).mono ?_; rintro e w' ⟨rfl, rfl⟩)
    go_ret2
    exact ⟨rfl, below_alloc _ _⟩
  · rw [divN_no1 ea, divE_no1 ea]
    have et : (tk a && tk b) = false := by simp [ea]
    go_enter Try.func92, Try.ntmps92
    go_wp2_with (go_at_call 65; refine (areTicks_two _ _ _).mono ?_; rintro e w' ⟨rfl, rfl⟩)
    go_ret2
    exact ⟨rfl, below_alloc _ _⟩
  · rcases tk_cases b with ⟨h', eb⟩ | ⟨h', eb⟩ | ⟨h', k', eb⟩
    · rw [divN_no2 eb, divE_no2 eb]
      go_enter Try.func92, Try.ntmps92
      go_wp2_with (go_at_call 65; refine (areTicks_two _ _ _).mono ?_; rintro e w' ⟨rfl, rfl⟩)
      go_ret2
      exact ⟨rfl, below_alloc _ _⟩
    · rw [divN_no2 eb, divE_no2 eb]
      go_enter Try.func92, Try.ntmps92
      go_wp2_with (go_at_call 65; refine (areTicks_two _ _ _).mono ?_; rintro e w' ⟨rfl, rfl⟩)
      go_ret2
      exact ⟨rfl, below_alloc _ _⟩
    · by_cases hs : 0 < b
      · rw [divN_ok ea eb hs, divE_ok ea eb hs]
        have hb0 : (b == 0) = false := by simp; omega
        go_enter Try.func92, Try.ntmps92
        go_wp2_with (go_at_call 65; refine (areTicks_two _ _ _).mono ?_; rintro e w' ⟨rfl, rfl⟩)
        go_ret2
        exact ⟨rfl, below_alloc _ _⟩
      · obtain rfl : b = 0 := by omega
        rw [divN_no3, divE_no3]; clear hs
        go_enter Try.func92, Try.ntmps92
        go_wp2_with (go_at_call 65; refine (areTicks_two _ _ _).mono ?_; rintro e w' ⟨rfl, rfl⟩)
        go_ret2
        exact ⟨rfl, below_alloc _ _⟩

set_option maxHeartbeats 400000 in
theorem mul_any (a b : Int) (w : World) : Calls Try.prog 94 #[.int .i64 a, .int .i64 b] w (TwoB (mulN a b) (mulE a b) w) := by
  rcases tk_cases a with ⟨h, ea⟩ | ⟨h, ea⟩ | ⟨h, k, ea⟩
  · rw [mulN_no1 ea, mulE_no1 ea]
    have et : (tk a && tk b) = false := by simp [ea]
    go_enter Try.func94, Try.ntmps94
    go_wp2_with (go_at_call 65; refine (areTicks_two _ _ _).mono ?_; rintro e w' ⟨rfl, rfl⟩)
    go_ret2
    exact ⟨rfl, below_alloc _ _⟩
  · rw [mulN_no1 ea, mulE_no1 ea]
    have et : (tk a && tk b) = false := by simp [ea]
    go_enter Try.func94, Try.ntmps94
    go_wp2_with (go_at_call 65; refine (areTicks_two _ _ _).mono ?_; rintro e w' ⟨rfl, rfl⟩)
    go_ret2
    exact ⟨rfl, below_alloc _ _⟩
  · rcases tk_cases b with ⟨h', eb⟩ | ⟨h', eb⟩ | ⟨h', k', eb⟩
    · rw [mulN_no2 eb, mulE_no2 eb]
      go_enter Try.func94, Try.ntmps94
      go_wp2_with (go_at_call 65; refine (areTicks_two _ _ _).mono ?_; rintro e w' ⟨rfl, rfl⟩)
      go_ret2
      exact ⟨rfl, below_alloc _ _⟩
    · rw [mulN_no2 eb, mulE_no2 eb]
      go_enter Try.func94, Try.ntmps94
      go_wp2_with (go_at_call 65; refine (areTicks_two _ _ _).mono ?_; rintro e w' ⟨rfl, rfl⟩)
      go_ret2
      exact ⟨rfl, below_alloc _ _⟩
    · by_cases h0 : 0 < b
      · have hbd : 0 ≤ 1099511627776 / b := Int.ediv_nonneg (by omega) (by omega)
        have hb0 : (b == 0) = false := by simp; omega
        have hb1 : (b != 0) = true := by simp; omega
        by_cases hs : 1099511627776 / b < a
        · have hs' : 1099511627776 < a * b := (mul_over_iff h0).1 hs
          rw [mulN_over hs', mulE_over ea eb hs']; clear hs'
          go_enter Try.func94, Try.ntmps94
          go_wp2_with (go_at_call 65; refine (areTicks_two _ _ _).mono ?_; rintro e w' ⟨rfl, rfl⟩)
          go_ret2
          exact ⟨rfl, below_alloc _ _⟩
        · have hs2 : a ≤ 1099511627776 / b := by omega
          have hs' : a * b ≤ 1099511627776 := mul_bd hs2 h0
          have hp : 0 ≤ a * b := Int.mul_nonneg h h'
          rw [mulN_ok ea eb hs', mulE_ok ea eb hs']; clear hs
          have hd : decide (1099511627776 / b < a) = false := by simp; omega
          clear hs2
          go_enter Try.func94, Try.ntmps94
          go_wp2_with (go_at_call 65; refine (areTicks_two _ _ _).mono ?_; rintro e w' ⟨rfl, rfl⟩)
          go_ret2
          exact ⟨rfl, below_alloc _ _⟩
      · obtain rfl : b = 0 := by omega
        have hs' : a * (0 : Int) ≤ 1099511627776 := by omega
        rw [mulN_ok ea eb hs', mulE_ok ea eb hs', Int.mul_zero]; clear hs' h0
        go_enter Try.func94, Try.ntmps94
        go_wp2_with (go_at_call 65; refine (areTicks_two _ _ _).mono ?_; rintro e w' ⟨rfl, rfl⟩)
        go_ret2
        exact ⟨rfl, below_alloc _ _⟩

set_option maxHeartbeats 400000 in
theorem gcd_any (a b : Int) (w : World) : Calls Try.prog 47 #[.int .i64 a, .int .i64 b] w (TwoB (gcdN a b) (gcdE a b) w) := by
  rcases tk_cases a with ⟨h, ea⟩ | ⟨h, ea⟩ | ⟨h, k, ea⟩
  · rw [gcdN_no1 ea, gcdE_no1 ea]
    have et : (tk a && tk b) = false := by simp [ea]
    go_enter Try.func47, Try.ntmps47
    go_wp2_with (go_at_call 65; refine (areTicks_two _ _ _).mono ?_; rintro e w' ⟨rfl, rfl⟩)
    go_ret2
    exact ⟨rfl, below_alloc _ _⟩
  · rw [gcdN_no1 ea, gcdE_no1 ea]
    have et : (tk a && tk b) = false := by simp [ea]
    go_enter Try.func47, Try.ntmps47
    go_wp2_with (go_at_call 65; refine (areTicks_two _ _ _).mono ?_; rintro e w' ⟨rfl, rfl⟩)
    go_ret2
    exact ⟨rfl, below_alloc _ _⟩
  · rcases tk_cases b with ⟨h', eb⟩ | ⟨h', eb⟩ | ⟨h', k', eb⟩
    · rw [gcdN_no2 eb, gcdE_no2 eb]
      go_enter Try.func47, Try.ntmps47
      go_wp2_with (go_at_call 65; refine (areTicks_two _ _ _).mono ?_; rintro e w' ⟨rfl, rfl⟩)
      go_ret2
      exact ⟨rfl, below_alloc _ _⟩
    · rw [gcdN_no2 eb, gcdE_no2 eb]
      go_enter Try.func47, Try.ntmps47
      go_wp2_with (go_at_call 65; refine (areTicks_two _ _ _).mono ?_; rintro e w' ⟨rfl, rfl⟩)
      go_ret2
      exact ⟨rfl, below_alloc _ _⟩
    · rw [gcdN_ok ea eb, gcdE_ok ea eb]
      exact gcd_ok a b w h k h' k' ea eb

end Go.Proofs.Ytbdiekolkniajaa

namespace Go.Proofs.Ytbdiekolkniajaa
open Go.RowKit Tk
set_option linter.unusedVariables false

/-- a counter in block g -/
def Ctr (w : World) (g : Nat) (n : Int) : Prop := w.heap[g]? = some (.cells #[.int .i64 n] 122 (0, 0))
theorem Ctr.cell {w : World} {g : Nat} {n : Int} (h : Ctr w g n) : w.cell? ⟨g, 0, none⟩ = some (.int .i64 n) := cell_of_one h
theorem Ctr.free {w : World} {g : Nat} {n : Int} (h : Ctr w g n) : w.frozen? ⟨g, 0, none⟩ = false := free_of_one h
theorem Ctr.lt {w : World} {g : Nat} {n : Int} (h : Ctr w g n) : g < w.heap.size := lt_of_block h
theorem Ctr.below {w w' : World} {g : Nat} {n : Int} (h : Ctr w g n) (hb : Below w.heap.size w w') : Ctr w' g n := (hb.block g h.lt).trans h
theorem Ctr.made (w : World) (n : Int) : Ctr (w.alloc (.cells #[.int .i64 n] 122)) w.heap.size n := heap_alloc_new w _
theorem Ctr.set {w : World} {g : Nat} {n : Int} (h : Ctr w g n) (m : Int) : Ctr (w.setCell ⟨g, 0, none⟩ (.int .i64 m)) g m := one_setCell h
/-- what a step of a counter comes to -/
def Stepped (g : Nat) (n er : Int) (w : World) (e : Ending) (w' : World) : Prop := e = .returned (.int .i64 er) ∧ Ctr w' g n ∧ Below g w w'

set_option maxHeartbeats 400000 in
theorem become_ok (g : Nat) (n m : Int) (w : World) (hC : Ctr w g m) : Calls Try.prog 93 #[.pointer (some ⟨g, 0, none⟩), .int .i64 n, .int .i64 0] w (Stepped g n 0 w) := by
  have h1 := hC.cell
  have h2 := hC.free
  have HC := Lib.hid hC; clear hC
  go_enter Try.func93, Try.ntmps93
  go_wp2
  go_ret
  exact ⟨rfl, HC.out.set n, Below.setCell (p := ⟨g, 0, none⟩) (Below.refl _ _) (Nat.le_refl g) _⟩
set_option maxHeartbeats 400000 in
theorem become_err (g : Nat) (n m er : Int) (w : World) (hC : Ctr w g m) (he : (er == 0) = false) : Calls Try.prog 93 #[.pointer (some ⟨g, 0, none⟩), .int .i64 n, .int .i64 er] w (Stepped g m er w) := by
  have HC := Lib.hid hC; clear hC
  go_enter Try.func93, Try.ntmps93
  go_wp2
  go_ret
  exact ⟨rfl, HC.out, Below.refl _ _⟩

theorem add_fit (a b n e : Int) (w : World) (hn : addN a b = n) (he : addE a b = e) : Calls Try.prog 95 #[.int .i64 a, .int .i64 b] w (TwoB n e w) := by
  subst hn he; exact add_any a b w
theorem mul_fit (a b n e : Int) (w : World) (hn : mulN a b = n) (he : mulE a b = e) : Calls Try.prog 94 #[.int .i64 a, .int .i64 b] w (TwoB n e w) := by
  subst hn he; exact mul_any a b w
theorem div_fit (a b n e : Int) (w : World) (hn : divN a b = n) (he : divE a b = e) : Calls Try.prog 92 #[.int .i64 a, .int .i64 b] w (TwoB n e w) := by
  subst hn he; exact div_any a b w
theorem gcd_fit (a b n e : Int) (w : World) (hn : gcdN a b = n) (he : gcdE a b = e) : Calls Try.prog 47 #[.int .i64 a, .int .i64 b] w (TwoB n e w) := by
  subst hn he; exact gcd_any a b w

set_option maxHeartbeats 400000 in
theorem cadd_ok (g : Nat) (n x : Int) (w : World) (hC : Ctr w g n) (hn : tk n = true) (hx : tk x = true) (hs : n + x ≤ 1099511627776) :
    Calls Try.prog 81 #[.pointer (some ⟨g, 0, none⟩), .int .i64 x] w (Stepped g (n + x) 0 w) := by
  have h1 := hC.cell
  have HC := Lib.hid hC; clear hC
  have HN := Lib.hid (addN_ok hn hx hs)
  have HE := Lib.hid (addE_ok hn hx hs)
  clear hn hx hs
  go_enter Try.func81, Try.ntmps81
  go_wp2_with fail
  refine (add_fit _ _ _ _ _ HN.out HE.out).mono ?_
  rintro e w1 ⟨rfl, hb⟩
  go_wp2_with fail
  refine (become_ok _ _ _ _ (HC.out.below hb)).mono ?_
  rintro e w2 ⟨rfl, hC2, hb2⟩
  go_wp2_with fail
  go_ret
  exact ⟨rfl, hC2, (hb.mono (Nat.le_of_lt HC.out.lt)).trans hb2⟩
set_option maxHeartbeats 400000 in
theorem cadd_over (g : Nat) (n x : Int) (w : World) (hC : Ctr w g n) (hn : tk n = true) (hx : tk x = true) (hs : 1099511627776 < n + x) :
    Calls Try.prog 81 #[.pointer (some ⟨g, 0, none⟩), .int .i64 x] w (Stepped g n 10 w) := by
  have h1 := hC.cell
  have HC := Lib.hid hC; clear hC
  have HN := Lib.hid (addN_over hs)
  have HE := Lib.hid (addE_over hn hx hs)
  clear hn hx hs
  go_enter Try.func81, Try.ntmps81
  go_wp2_with fail
  refine (add_fit _ _ _ _ _ HN.out HE.out).mono ?_
  rintro e w1 ⟨rfl, hb⟩
  go_wp2_with fail
  refine (become_err _ _ _ _ _ (HC.out.below hb) rfl).mono ?_
  rintro e w2 ⟨rfl, hC2, hb2⟩
  go_wp2_with fail
  go_ret
  exact ⟨rfl, hC2, (hb.mono (Nat.le_of_lt HC.out.lt)).trans hb2⟩

/-- one step of a product: the divisor, the quotient, the product -/
theorem gcd_ok_pos {n x : Int} (hn : ok1 n = true) (hx : ok1 x = true) : gcdN n x = (Nat.gcd n.toNat x.toNat : Nat) ∧ gcdE n x = 0 ∧
    divN x (Nat.gcd n.toNat x.toNat : Nat) = x / (Nat.gcd n.toNat x.toNat : Nat) ∧ divE x (Nat.gcd n.toNat x.toNat : Nat) = 0 ∧ tk (x / (Nat.gcd n.toNat x.toNat : Nat)) = true ∧ tk n = true ∧ 1 ≤ lcm2 n x := by
  rw [ok1_iff] at hn hx
  have h1 := gcd_bd hn.1 hn.2 hx.1 hx.2
  have h2 := quo_bd hn.1 hn.2 hx.1 hx.2
  have tn := tk_yes (n := n) (by omega) hn.2
  have tx := tk_yes (n := x) (by omega) hx.2
  have tg := tk_yes (n := ((Nat.gcd n.toNat x.toNat : Nat) : Int)) (by omega) h1.2
  exact ⟨gcdN_ok tn tx, gcdE_ok tn tx, divN_ok tx tg (by omega), divE_ok tx tg (by omega), tk_yes (by omega) h2.2, tn, lcm2_pos hn.1 hn.2 hx.1 hx.2⟩

set_option maxHeartbeats 400000 in
theorem cmul_ok (g : Nat) (n x : Int) (w : World) (hC : Ctr w g n) (hn : ok1 n = true) (hx : ok1 x = true) (hs : lcm2 n x ≤ 1099511627776) :
    Calls Try.prog 80 #[.pointer (some ⟨g, 0, none⟩), .int .i64 x] w (Stepped g (lcm2 n x) 0 w) := by
  have h1 := hC.cell
  have HC := Lib.hid hC; clear hC
  obtain ⟨g1, g2, d1, d2, tq, tn, _⟩ := gcd_ok_pos hn hx
  have m1 := mulN_ok tn tq hs
  have m2 := mulE_ok tn tq hs
  have HG1 := Lib.hid g1; have HG2 := Lib.hid g2; have HD1 := Lib.hid d1; have HD2 := Lib.hid d2; have HM1 := Lib.hid m1; have HM2 := Lib.hid m2
  clear g1 g2 d1 d2 tq tn m1 m2 hn hx hs
  go_enter Try.func80, Try.ntmps80
  go_wp2_with fail
  refine (gcd_fit _ _ _ _ _ HG1.out HG2.out).mono ?_
  rintro e w1 ⟨rfl, hb⟩
  go_wp2_with fail
  refine (div_fit _ _ _ _ _ HD1.out HD2.out).mono ?_
  rintro e w2 ⟨rfl, hb2⟩
  have h2 := ((HC.out.below hb).below hb2).cell
  go_wp2_with fail
  refine (mul_fit _ _ _ _ _ HM1.out HM2.out).mono ?_
  rintro e w3 ⟨rfl, hb3⟩
  go_wp2_with fail
  refine (become_ok _ _ _ _ (((HC.out.below hb).below hb2).below hb3)).mono ?_
  rintro e w4 ⟨rfl, hC4, hb4⟩
  go_wp2_with fail
  go_ret
  exact ⟨rfl, hC4, (((hb.mono (Nat.le_of_lt HC.out.lt)).trans (hb2.mono (Nat.le_of_lt (HC.out.below hb).lt))).trans (hb3.mono (Nat.le_of_lt ((HC.out.below hb).below hb2).lt))).trans hb4⟩
set_option maxHeartbeats 400000 in
theorem cmul_over (g : Nat) (n x : Int) (w : World) (hC : Ctr w g n) (hn : ok1 n = true) (hx : ok1 x = true) (hs : 1099511627776 < lcm2 n x) :
    Calls Try.prog 80 #[.pointer (some ⟨g, 0, none⟩), .int .i64 x] w (Stepped g n 10 w) := by
  have h1 := hC.cell
  have HC := Lib.hid hC; clear hC
  obtain ⟨g1, g2, d1, d2, tq, tn, _⟩ := gcd_ok_pos hn hx
  have m1 := mulN_over hs
  have m2 := mulE_over tn tq hs
  have HG1 := Lib.hid g1; have HG2 := Lib.hid g2; have HD1 := Lib.hid d1; have HD2 := Lib.hid d2; have HM1 := Lib.hid m1; have HM2 := Lib.hid m2
  clear g1 g2 d1 d2 tq tn m1 m2 hn hx hs
  go_enter Try.func80, Try.ntmps80
  go_wp2_with fail
  refine (gcd_fit _ _ _ _ _ HG1.out HG2.out).mono ?_
  rintro e w1 ⟨rfl, hb⟩
  go_wp2_with fail
  refine (div_fit _ _ _ _ _ HD1.out HD2.out).mono ?_
  rintro e w2 ⟨rfl, hb2⟩
  have h2 := ((HC.out.below hb).below hb2).cell
  go_wp2_with fail
  refine (mul_fit _ _ _ _ _ HM1.out HM2.out).mono ?_
  rintro e w3 ⟨rfl, hb3⟩
  go_wp2_with fail
  refine (become_err _ _ _ _ _ (((HC.out.below hb).below hb2).below hb3) rfl).mono ?_
  rintro e w4 ⟨rfl, hC4, hb4⟩
  go_wp2_with fail
  go_ret
  exact ⟨rfl, hC4, (((hb.mono (Nat.le_of_lt HC.out.lt)).trans (hb2.mono (Nat.le_of_lt (HC.out.below hb).lt))).trans (hb3.mono (Nat.le_of_lt ((HC.out.below hb).below hb2).lt))).trans hb4⟩

/-- where a slice's row lies: below a block -/
def Under (B : Nat) (w : World) (a : Option Addr) (zs : List Int) : Prop :=
  zs = [] ∨ ∃ b off, a = some ⟨b, off, none⟩ ∧ b < B ∧ ∀ i, i < zs.length → w.cell? ⟨b, off + i, none⟩ = some (.int .i64 (zs.getD i 0))
theorem Under.row {B : Nat} {w : World} {a : Option Addr} {zs : List Int} (h : Under B w a zs) : Row w a zs := by
  rcases h with h | ⟨b, off, h1, _, h2⟩
  · exact Or.inl h
  · exact Or.inr ⟨b, off, h1, h2⟩
theorem Row.under {w : World} {a : Option Addr} {zs : List Int} (h : Row w a zs) : Under w.heap.size w a zs := by
  rcases h with rfl | ⟨b, off, rfl, hc⟩
  · exact Or.inl rfl
  · rcases zs with _ | ⟨z, r⟩
    · exact Or.inl rfl
    · exact Or.inr ⟨b, off, rfl, lt_of_cell (hc 0 (by simp)), hc⟩
theorem Under.below {B : Nat} {w w' : World} {a : Option Addr} {zs : List Int} (h : Under B w a zs) (hb : Below B w w') : Under B w' a zs := by
  rcases h with h | ⟨b, off, h1, h2, h3⟩
  · exact Or.inl h
  · exact Or.inr ⟨b, off, h1, h2, fun i hi => (hb.cell (p := ⟨b, off + i, none⟩) h2).trans (h3 i hi)⟩

end Go.Proofs.Ytbdiekolkniajaa

namespace Go.Proofs.Ytbdiekolkniajaa
open Go.RowKit Tk
set_option linter.unusedVariables false

/-- what reckoning with all of a list comes to: the error's number; the counter, if there is none -/
def Reck (g : Nat) (R : Int × Int) (w : World) (e : Ending) (w' : World) : Prop := e = .returned (.int .i64 R.2) ∧ (R.2 = 0 → Ctr w' g R.1) ∧ Below g w w'

set_option maxHeartbeats 400000 in
theorem reckon_add_nil (g : Nat) (n0 : Int) (a : Option Addr) (cap : Nat) (w : World) (hC : Ctr w g n0) :
    Calls Try.prog 79 #[.func (Fn.func 81) #[.pointer (some ⟨g, 0, none⟩)] #[], .slice a 0 cap] w (Reck g (n0, 0) w) := by
  have HC := Lib.hid hC; clear hC
  go_enter Try.func79, Try.ntmps79
  go_wp2
  go_loop [10] (fun i => i = .int .i64 0) (fun _ => 0)
  case atStart => rfl
  case round =>
    subst hrel
    go_wp2
    go_ret
    exact ⟨rfl, fun _ => HC.out, Below.refl _ _⟩

set_option maxHeartbeats 1000000 in
theorem reckon_add_some (g : Nat) (n0 : Int) (b off cap n : Nat) (zs : List Int) (w : World) (hn : n = zs.length) (hl : n ≤ 9223372036854775807) (hbg : b < g) (hc : ∀ i, i < zs.length → w.cell? ⟨b, off + i, none⟩ = some (.int .i64 (zs.getD i 0)))
    (hC : Ctr w g n0) (h0 : tk n0 = true) (hall : zs.all tk = true) :
    Calls Try.prog 79 #[.func (Fn.func 81) #[.pointer (some ⟨g, 0, none⟩)] #[], .slice (some ⟨b, off, none⟩) n cap] w (Reck g (sumAll n0 zs) w) := by
  obtain ⟨R, HR⟩ : ∃ R : Int × Int, Hid (R = sumAll n0 zs) := ⟨_, rfl⟩
  rw [← HR.out]
  have HCC := Lib.hid hc; clear hc
  have HN := Lib.hid hn; clear hn
  have HC := Lib.hid hC; clear hC
  have H0 := Lib.hid h0; clear h0
  have HALL := Lib.hid hall; clear hall
  go_enter Try.func79, Try.ntmps79
  go_wp2
  go_loopw [10] (fun i wr => ∃ (k : Nat) (m : Int), k ≤ n ∧ i = .int .i64 k ∧ Hid (tk m = true) ∧ Hid (Ctr wr g m) ∧ Below g w wr ∧ Hid (R = sumAll m (zs.drop k))) (fun i _ => n - (intOf i).toNat)
  case atStart => exact ⟨0, n0, Nat.zero_le _, rfl, H0, HC, Below.refl _ _, HR⟩
  case round =>
    clear HC H0 HR
    obtain ⟨k, m, hk, rfl, HT, HC, HB, HR⟩ := hrel
    by_cases hlt : k < n
    · have hkz : k < zs.length := by have := HN.out; omega
      have hcell := (HB.cell (p := ⟨b, off + k, none⟩) hbg).trans (HCC.out k hkz)
      have HX := Lib.hid (all_at HALL.out hkz)
      by_cases hs : m + zs.getD k 0 ≤ 1099511627776
      · have HG : Hid (R = _) := HR.out.trans (sum_go hkz hs)
        have HS := Lib.hid hs
        clear HR hs hkz
        generalize zs.getD k 0 = z at *
        have HNEW : Hid (tk (m + z) = true) := by
          have a1 := (tk_iff _).1 HT.out
          have a2 := (tk_iff _).1 HX.out
          exact tk_yes (by omega) HS.out
        go_wp2_with fail
        refine (cadd_ok _ _ _ _ HC.out (HT.out) HX.out HS.out).mono ?_
        rintro e w1 ⟨rfl, hC1, hb1⟩
        have HC1 := Lib.hid hC1; clear hC1 HC
        go_wp2_with fail
        go_roundw
        case rel => exact ⟨k + 1, _, by omega, by go_num, HNEW, HC1, HB.trans hb1, HG⟩
        case measure => simp [intOf]; omega
      · have hs' : 1099511627776 < m + zs.getD k 0 := by omega
        have HG : Hid (R = _) := HR.out.trans (sum_halt hkz hs')
        have HS := Lib.hid hs'
        clear HR hs hs' hkz
        generalize zs.getD k 0 = z at *
        go_wp2_with fail
        refine (cadd_over _ _ _ _ HC.out HT.out HX.out HS.out).mono ?_
        rintro e w1 ⟨rfl, hC1, hb1⟩
        have HC1 := Lib.hid hC1; clear hC1 HC
        go_wp2_with fail
        go_ret
        exact ⟨by rw [HG.out]; rfl, fun h => by rw [HG.out] at h; exact absurd h (by decide), HB.trans hb1⟩
    · have HG : Hid (R = _) := HR.out.trans (sum_end (by have := HN.out; omega))
      go_wp2
      go_ret
      exact ⟨by rw [HG.out]; rfl, fun _ => by rw [HG.out]; exact HC.out, HB⟩

theorem reckon_add_any (g : Nat) (n0 : Int) (a : Option Addr) (cap n : Nat) (zs : List Int) (w : World) (hn : n = zs.length) (hl : n ≤ 9223372036854775807) (hr : Under g w a zs)
    (hC : Ctr w g n0) (h0 : tk n0 = true) (hall : zs.all tk = true) :
    Calls Try.prog 79 #[.func (Fn.func 81) #[.pointer (some ⟨g, 0, none⟩)] #[], .slice a n cap] w (Reck g (sumAll n0 zs) w) := by
  rcases hr with rfl | ⟨b, off, rfl, hb, hc⟩
  · obtain rfl : n = 0 := by simpa using hn
    exact reckon_add_nil g n0 a cap w hC
  · exact reckon_add_some g n0 b off cap n zs w hn hl hb hc hC h0 hall

set_option maxHeartbeats 400000 in
theorem reckon_mul_nil (g : Nat) (n0 : Int) (a : Option Addr) (cap : Nat) (w : World) (hC : Ctr w g n0) :
    Calls Try.prog 79 #[.func (Fn.func 80) #[.pointer (some ⟨g, 0, none⟩)] #[], .slice a 0 cap] w (Reck g (n0, 0) w) := by
  have HC := Lib.hid hC; clear hC
  go_enter Try.func79, Try.ntmps79
  go_wp2
  go_loop [10] (fun i => i = .int .i64 0) (fun _ => 0)
  case atStart => rfl
  case round =>
    subst hrel
    go_wp2
    go_ret
    exact ⟨rfl, fun _ => HC.out, Below.refl _ _⟩

set_option maxHeartbeats 1000000 in
theorem reckon_mul_some (g : Nat) (n0 : Int) (b off cap n : Nat) (zs : List Int) (w : World) (hn : n = zs.length) (hl : n ≤ 9223372036854775807) (hbg : b < g) (hc : ∀ i, i < zs.length → w.cell? ⟨b, off + i, none⟩ = some (.int .i64 (zs.getD i 0)))
    (hC : Ctr w g n0) (h0 : ok1 n0 = true) (hall : zs.all ok1 = true) :
    Calls Try.prog 79 #[.func (Fn.func 80) #[.pointer (some ⟨g, 0, none⟩)] #[], .slice (some ⟨b, off, none⟩) n cap] w (Reck g (lcmAll n0 zs) w) := by
  obtain ⟨R, HR⟩ : ∃ R : Int × Int, Hid (R = lcmAll n0 zs) := ⟨_, rfl⟩
  rw [← HR.out]
  have HCC := Lib.hid hc; clear hc
  have HN := Lib.hid hn; clear hn
  have HC := Lib.hid hC; clear hC
  have H0 := Lib.hid h0; clear h0
  have HALL := Lib.hid hall; clear hall
  go_enter Try.func79, Try.ntmps79
  go_wp2
  go_loopw [10] (fun i wr => ∃ (k : Nat) (m : Int), k ≤ n ∧ i = .int .i64 k ∧ Hid (ok1 m = true) ∧ Hid (Ctr wr g m) ∧ Below g w wr ∧ Hid (R = lcmAll m (zs.drop k))) (fun i _ => n - (intOf i).toNat)
  case atStart => exact ⟨0, n0, Nat.zero_le _, rfl, H0, HC, Below.refl _ _, HR⟩
  case round =>
    clear HC H0 HR
    obtain ⟨k, m, hk, rfl, HT, HC, HB, HR⟩ := hrel
    by_cases hlt : k < n
    · have hkz : k < zs.length := by have := HN.out; omega
      have hcell := (HB.cell (p := ⟨b, off + k, none⟩) hbg).trans (HCC.out k hkz)
      have HX := Lib.hid (all_at HALL.out hkz)
      by_cases hs : lcm2 m (zs.getD k 0) ≤ 1099511627776
      · have HG : Hid (R = _) := HR.out.trans (lcm_go hkz hs)
        have HS := Lib.hid hs
        clear HR hs hkz
        generalize zs.getD k 0 = z at *
        have HNEW : Hid (ok1 (lcm2 m z) = true) := (ok1_iff _).2 ⟨(gcd_ok_pos HT.out HX.out).2.2.2.2.2.2, HS.out⟩
        go_wp2_with fail
        refine (cmul_ok _ _ _ _ HC.out (HT.out) HX.out HS.out).mono ?_
        rintro e w1 ⟨rfl, hC1, hb1⟩
        have HC1 := Lib.hid hC1; clear hC1 HC
        go_wp2_with fail
        go_roundw
        case rel => exact ⟨k + 1, _, by omega, by go_num, HNEW, HC1, HB.trans hb1, HG⟩
        case measure => simp [intOf]; omega
      · have hs' : 1099511627776 < lcm2 m (zs.getD k 0) := by omega
        have HG : Hid (R = _) := HR.out.trans (lcm_halt hkz hs')
        have HS := Lib.hid hs'
        clear HR hs hs' hkz
        generalize zs.getD k 0 = z at *
        go_wp2_with fail
        refine (cmul_over _ _ _ _ HC.out HT.out HX.out HS.out).mono ?_
        rintro e w1 ⟨rfl, hC1, hb1⟩
        have HC1 := Lib.hid hC1; clear hC1 HC
        go_wp2_with fail
        go_ret
        exact ⟨by rw [HG.out]; rfl, fun h => by rw [HG.out] at h; exact absurd h (by decide), HB.trans hb1⟩
    · have HG : Hid (R = _) := HR.out.trans (lcm_end (by have := HN.out; omega))
      go_wp2
      go_ret
      exact ⟨by rw [HG.out]; rfl, fun _ => by rw [HG.out]; exact HC.out, HB⟩

theorem reckon_mul_any (g : Nat) (n0 : Int) (a : Option Addr) (cap n : Nat) (zs : List Int) (w : World) (hn : n = zs.length) (hl : n ≤ 9223372036854775807) (hr : Under g w a zs)
    (hC : Ctr w g n0) (h0 : ok1 n0 = true) (hall : zs.all ok1 = true) :
    Calls Try.prog 79 #[.func (Fn.func 80) #[.pointer (some ⟨g, 0, none⟩)] #[], .slice a n cap] w (Reck g (lcmAll n0 zs) w) := by
  rcases hr with rfl | ⟨b, off, rfl, hb, hc⟩
  · obtain rfl : n = 0 := by simpa using hn
    exact reckon_mul_nil g n0 a cap w hC
  · exact reckon_mul_some g n0 b off cap n zs w hn hl hb hc hC h0 hall

end Go.Proofs.Ytbdiekolkniajaa

namespace Go.Proofs.Ytbdiekolkniajaa
open Go.RowKit Tk
set_option linter.unusedVariables false

def has (v : Int) (zs : List Int) : Bool := zs.contains v
/-- a place in a list, or none -/
def IdxP (zs : List Int) (v : Int) (w : World) (e : Ending) (w' : World) : Prop := ∃ r : Int, e = .returned (.int .i64 r) ∧ decide (0 ≤ r) = zs.contains v ∧ w = w'

set_option maxHeartbeats 400000 in
theorem index_nil (v : Int) (a : Option Addr) (cap : Nat) (w : World) : Calls Try.prog 91 #[.slice a 0 cap, .int .i64 v] w (IdxP [] v w) := by
  go_enter Try.func91, Try.ntmps91
  go_wp2
  go_loop [8] (fun i => i = .int .i64 0) (fun _ => 0)
  case atStart => rfl
  case round =>
    subst hrel
    go_wp2
    go_ret
    exact ⟨-1, rfl, by simp, rfl⟩
set_option maxHeartbeats 400000 in
theorem index_some (v : Int) (b off cap n : Nat) (zs : List Int) (w : World) (hn : n = zs.length) (hl : n ≤ 9223372036854775807) (hc : ∀ i, i < zs.length → w.cell? ⟨b, off + i, none⟩ = some (.int .i64 (zs.getD i 0))) :
    Calls Try.prog 91 #[.slice (some ⟨b, off, none⟩) n cap, .int .i64 v] w (IdxP zs v w) := by
  have HCC := Lib.hid hc; clear hc
  have HN := Lib.hid hn; clear hn
  go_enter Try.func91, Try.ntmps91
  go_wp2
  go_loop [8] (fun i => ∃ k : Nat, k ≤ n ∧ i = .int .i64 k ∧ Hid ((zs.take k).contains v = false)) (fun i => n - (intOf i).toNat)
  case atStart => exact ⟨0, Nat.zero_le _, rfl, by simp [Hid]⟩
  case round =>
    obtain ⟨k, hk, rfl, HT⟩ := hrel
    by_cases hlt : k < n
    · have hkz : k < zs.length := by have := HN.out; omega
      have hcell := HCC.out k hkz
      cases hv : (v == zs.getD k 0) with
      | true =>
        have HF := Lib.hid (has_at hkz hv)
        clear hkz
        generalize zs.getD k 0 = z at *
        go_wp2
        go_ret
        exact ⟨k, rfl, by rw [HF.out]; simp, rfl⟩
      | false =>
        have HF := Lib.hid (take_has_step hkz HT.out hv)
        clear hkz
        generalize zs.getD k 0 = z at *
        go_wp2
        go_round
        case rel => exact ⟨k + 1, by omega, by go_num, HF⟩
        case measure => simp [intOf]; omega
    · have HF : Hid (zs.contains v = false) := by
        have := HT.out; rw [List.take_of_length_le (by have := HN.out; omega)] at this; exact this
      go_wp2
      go_ret
      exact ⟨-1, rfl, by rw [HF.out]; decide, rfl⟩
theorem index_any (v : Int) (a : Option Addr) (cap n : Nat) (zs : List Int) (w : World) (hn : n = zs.length) (hl : n ≤ 9223372036854775807) (hr : Row w a zs) : Calls Try.prog 91 #[.slice a n cap, .int .i64 v] w (IdxP zs v w) := by
  rcases hr with rfl | ⟨b, off, rfl, hc⟩
  · obtain rfl : n = 0 := by simpa using hn
    exact index_nil v a cap w
  · exact index_some v b off cap n zs w hn hl hc

set_option maxHeartbeats 400000 in
theorem contains_any (v : Int) (a : Option Addr) (cap n : Nat) (zs : List Int) (w : World) (hn : n = zs.length) (hl : n ≤ 9223372036854775807) (hr : Row w a zs) : Calls Try.prog 78 #[.slice a n cap, .int .i64 v] w (IsB (has v zs) w) := by
  have H := Lib.hid (index_any v a cap n zs w hn hl hr)
  clear hn hr
  go_enter Try.func78, Try.ntmps78
  go_wp2_with fail
  refine H.out.mono ?_
  rintro e w1 ⟨r, rfl, hd, rfl⟩
  have HD := Lib.hid hd; clear hd
  go_wp2_with fail
  go_ret
  exact ⟨by rw [has, ← HD.out]; rfl, rfl⟩

set_option maxHeartbeats 400000 in
theorem sum_any (a : Option Addr) (cap n : Nat) (zs : List Int) (w : World) (hn : n = zs.length) (hl : n ≤ 9223372036854775807) (hr : Row w a zs) : Calls Try.prog 70 #[.slice a n cap] w (TwoB (sumR zs).1 (sumR zs).2 w) := by
  have HN := Lib.hid hn; clear hn
  have HR := Lib.hid hr; clear hr
  cases ht : zs.all tk with
  | false =>
    rw [sumR_no ht]
    go_enter Try.func70, Try.ntmps70
    go_wp2_with fail
    refine (areTicks_any _ _ _ zs _ HN.out hl HR.out).mono ?_
    rintro e w1 ⟨rfl, rfl⟩
    go_wp2_with fail
    go_ret2
    exact ⟨rfl, Below.refl _ _⟩
  | true =>
    rw [sumR_yes ht]
    have HK := Lib.hid (reckon_add_any w.heap.size 0 a cap n zs (w.alloc (.cells #[.int .i64 0] 122)) HN.out hl (HR.out.under.below (below_alloc _ _)) (Ctr.made w 0) (tk_yes (by decide) (by decide)) ht)
    rcases sumAll_or zs 0 with ⟨m, hm⟩ | hm
    · rw [hm] at HK ⊢
      clear hm
      go_enter Try.func70, Try.ntmps70
      go_wp2_with fail
      refine (areTicks_any _ _ _ zs _ HN.out hl HR.out).mono ?_
      rintro e w1 ⟨rfl, rfl⟩
      go_wp2_with fail
      refine HK.out.mono ?_
      rintro e w2 ⟨rfl, hC, hb⟩
      have hcell := (hC rfl).cell
      clear hC
      go_wp2_with fail
      go_ret2
      exact ⟨rfl, (below_alloc _ _).trans hb⟩
    · rw [hm] at HK ⊢
      clear hm
      go_enter Try.func70, Try.ntmps70
      go_wp2_with fail
      refine (areTicks_any _ _ _ zs _ HN.out hl HR.out).mono ?_
      rintro e w1 ⟨rfl, rfl⟩
      go_wp2_with fail
      refine HK.out.mono ?_
      rintro e w2 ⟨rfl, hC, hb⟩
      clear hC
      go_wp2_with fail
      go_ret2
      exact ⟨rfl, (below_alloc _ _).trans hb⟩

set_option maxHeartbeats 1000000 in
theorem lcm_any (limit : Int) (a : Option Addr) (cap n : Nat) (zs : List Int) (w : World) (hn : n = zs.length) (hl : n ≤ 9223372036854775807) (hr : Row w a zs) :
    Calls Try.prog 68 #[.int .i64 limit, .slice a n cap] w (TwoB (lcmR limit zs).1 (lcmR limit zs).2 w) := by
  have HN := Lib.hid hn; clear hn
  have HR := Lib.hid hr; clear hr
  cases hlim : tk limit with
  | false =>
    rw [lcmR_no1 hlim]
    go_enter Try.func68, Try.ntmps68
    go_wp2_with fail
    refine (areTicks_one _ _).mono ?_
    rintro e w1 ⟨rfl, rfl⟩
    go_wp2_with fail
    go_ret2
    exact ⟨rfl, below_alloc _ _⟩
  | true =>
    cases ht : zs.all tk with
    | false =>
      rw [lcmR_no2 (by rw [all_ok1, ht]; rfl)]
      go_enter Try.func68, Try.ntmps68
      go_wp2_with fail
      refine (areTicks_one _ _).mono ?_
      rintro e w1 ⟨rfl, rfl⟩
      go_wp2_with fail
      refine (areTicks_any _ _ _ zs _ HN.out hl (HR.out.below (below_alloc _ _))).mono ?_
      rintro e w1 ⟨rfl, rfl⟩
      go_wp2_with fail
      go_ret2
      exact ⟨rfl, below_alloc _ _⟩
    | true =>
      cases hz : has 0 zs with
      | true =>
        rw [lcmR_no2 (by rw [all_ok1, ht, show zs.contains 0 = _ from hz]; rfl)]
        go_enter Try.func68, Try.ntmps68
        go_wp2_with fail
        refine (areTicks_one _ _).mono ?_
        rintro e w1 ⟨rfl, rfl⟩
        go_wp2_with fail
        refine (areTicks_any _ _ _ zs _ HN.out hl (HR.out.below (below_alloc _ _))).mono ?_
        rintro e w1 ⟨rfl, rfl⟩
        go_wp2_with fail
        refine (contains_any 0 _ _ _ zs _ HN.out hl (HR.out.below (below_alloc _ _))).mono ?_
        rintro e w1 ⟨rfl, rfl⟩
        go_wp2_with fail
        go_ret2
        exact ⟨rfl, below_alloc _ _⟩
      | false =>
        have hall : zs.all ok1 = true := by rw [all_ok1, ht, show zs.contains 0 = _ from hz]; rfl
        rw [lcmR_yes hlim hall]
        have HK : Hid (Calls Try.prog 79 #[.func (Fn.func 80) #[.pointer (some ⟨w.heap.size + 1, 0, none⟩)] #[], .slice a n cap] ((w.alloc (.cells #[.int .i64 limit] 3)).alloc (.cells #[.int .i64 1] 122)) (Reck (w.heap.size + 1) (lcmAll 1 zs) ((w.alloc (.cells #[.int .i64 limit] 3)).alloc (.cells #[.int .i64 1] 122)))) := by
          have h := reckon_mul_any (w.alloc (.cells #[.int .i64 limit] 3)).heap.size 1 a cap n zs ((w.alloc (.cells #[.int .i64 limit] 3)).alloc (.cells #[.int .i64 1] 122)) HN.out hl ((HR.out.below (below_alloc _ _)).under.below (below_alloc _ _)) (Ctr.made _ 1) (by decide) hall
          rw [show (w.alloc (.cells #[.int .i64 limit] 3)).heap.size = w.heap.size + 1 from by simp] at h
          exact h
        have HB := Lib.hid ((below_alloc w (.cells #[.int .i64 limit] 3)).alloc (by simp) (.cells #[.int .i64 1] 122))
        clear hall
        rcases lcmAll_or zs 1 with ⟨m, hm⟩ | hm
        · rw [hm] at HK ⊢
          clear hm
          by_cases hlm : m ≤ limit
          · rw [show cutTo limit (m, 0) = (m, 0) from by simp [cutTo, hlm]]
            have hd : decide (limit < m) = false := by simp; omega
            go_enter Try.func68, Try.ntmps68
            go_wp2_with fail
            refine (areTicks_one _ _).mono ?_
            rintro e w1 ⟨rfl, rfl⟩
            go_wp2_with fail
            refine (areTicks_any _ _ _ zs _ HN.out hl (HR.out.below (below_alloc _ _))).mono ?_
            rintro e w1 ⟨rfl, rfl⟩
            go_wp2_with fail
            refine (contains_any 0 _ _ _ zs _ HN.out hl (HR.out.below (below_alloc _ _))).mono ?_
            rintro e w1 ⟨rfl, rfl⟩
            go_wp2_with fail
            refine HK.out.mono ?_
            rintro e w2 ⟨rfl, hC, hb⟩
            have hcell := (hC rfl).cell
            clear hC
            go_wp2_with fail
            go_ret2
            exact ⟨rfl, HB.out.trans (hb.mono (Nat.le_succ _))⟩
          · rw [show cutTo limit (m, 0) = (0, 10) from by simp [cutTo, hlm]]
            have hlm' : limit < m := by omega
            clear hlm
            go_enter Try.func68, Try.ntmps68
            go_wp2_with fail
            refine (areTicks_one _ _).mono ?_
            rintro e w1 ⟨rfl, rfl⟩
            go_wp2_with fail
            refine (areTicks_any _ _ _ zs _ HN.out hl (HR.out.below (below_alloc _ _))).mono ?_
            rintro e w1 ⟨rfl, rfl⟩
            go_wp2_with fail
            refine (contains_any 0 _ _ _ zs _ HN.out hl (HR.out.below (below_alloc _ _))).mono ?_
            rintro e w1 ⟨rfl, rfl⟩
            go_wp2_with fail
            refine HK.out.mono ?_
            rintro e w2 ⟨rfl, hC, hb⟩
            have hcell := (hC rfl).cell
            clear hC
            go_wp2_with fail
            go_ret2
            exact ⟨rfl, HB.out.trans (hb.mono (Nat.le_succ _))⟩
        · rw [hm] at HK ⊢
          clear hm
          rw [show cutTo limit (0, 10) = (0, 10) from rfl]
          go_enter Try.func68, Try.ntmps68
          go_wp2_with fail
          refine (areTicks_one _ _).mono ?_
          rintro e w1 ⟨rfl, rfl⟩
          go_wp2_with fail
          refine (areTicks_any _ _ _ zs _ HN.out hl (HR.out.below (below_alloc _ _))).mono ?_
          rintro e w1 ⟨rfl, rfl⟩
          go_wp2_with fail
          refine (contains_any 0 _ _ _ zs _ HN.out hl (HR.out.below (below_alloc _ _))).mono ?_
          rintro e w1 ⟨rfl, rfl⟩
          go_wp2_with fail
          refine HK.out.mono ?_
          rintro e w2 ⟨rfl, hC, hb⟩
          clear hC
          go_wp2_with fail
          go_ret2
          exact ⟨rfl, HB.out.trans (hb.mono (Nat.le_succ _))⟩

end Go.Proofs.Ytbdiekolkniajaa

namespace Go.Proofs.Ytbdiekolkniajaa
open Go.RowKit Tk
set_option linter.unusedVariables false

theorem allp_step (p : Int → Bool) (zs : List Int) (k : Nat) (h : k < zs.length) (e : p (zs.getD k 0) = true) (ht : (zs.take k).all p = true) : (zs.take (k + 1)).all p = true := by
  rw [List.take_add_one, List.all_append, ht]
  simp only [List.getD, List.getElem?_eq_getElem h, Option.getD_some] at e
  simp [List.getElem?_eq_getElem h, e]
theorem allp_no (p : Int → Bool) (zs : List Int) (k : Nat) (h : k < zs.length) (e : p (zs.getD k 0) = false) : zs.all p = false := by
  simp only [List.getD, List.getElem?_eq_getElem h, Option.getD_some] at e
  rw [List.all_eq_false]
  exact ⟨zs[k], List.getElem_mem h, by simp [e]⟩

theorem step_parts {n x : Int} (hn : ok1 n = true) (hx : ok1 x = true) : ∃ G : Int, 1 ≤ G ∧ 1 ≤ x ∧ x ≤ 1099511627776 ∧ 0 ≤ x / G ∧ x / G ≤ 1099511627776 ∧ gcdN n x = G ∧ gcdE n x = 0 ∧ lcm2 n x = n * (x / G) ∧ tk n = true ∧ tk (x / G) = true ∧ 1 ≤ lcm2 n x := by
  obtain ⟨g1, g2, d1, d2, tq, tn, l1⟩ := gcd_ok_pos hn hx
  rw [ok1_iff] at hn hx
  have h1 := gcd_bd hn.1 hn.2 hx.1 hx.2
  have h2 := quo_bd hn.1 hn.2 hx.1 hx.2
  exact ⟨_, h1.1, hx.1, hx.2, by omega, h2.2, g1, g2, rfl, tn, tq, l1⟩

end Go.Proofs.Ytbdiekolkniajaa

namespace Go.Proofs.Ytbdiekolkniajaa
open Go.RowKit Tk
set_option linter.unusedVariables false

def TrueB (w : World) (e : Ending) (w' : World) : Prop := e = .returned (.bool true) ∧ Below w.heap.size w w'
theorem chain {w w1 w2 : World} (h : Below w.heap.size w w1) (k : Below w1.heap.size w1 w2) : Below w.heap.size w w2 := h.trans (k.mono h.size)
theorem chainA {w w1 w2 : World} {o : Obj} (h : Below w.heap.size w w1) (k : Below (w1.alloc o).heap.size (w1.alloc o) w2) : Below w.heap.size w w2 := chain (chain h (below_alloc w1 o)) k

theorem lcm3 (limit x y z n e : Int) (w : World) (h : lcmR limit [x, y, z] = (n, e)) : Calls Try.prog 68 #[.int .i64 limit, .slice (some ⟨w.heap.size, 0, none⟩) 3 3] (w.alloc (.cells #[.int .i64 x, .int .i64 y, .int .i64 z] 3)) (TwoB n e (w.alloc (.cells #[.int .i64 x, .int .i64 y, .int .i64 z] 3))) := by
  have k := lcm_any limit (some ⟨w.heap.size, 0, none⟩) 3 3 [x, y, z] _ rfl (by omega) (Row.made w [x, y, z])
  rw [h] at k; exact k
theorem lcm0 (limit n e : Int) (w : World) (h : lcmR limit [] = (n, e)) : Calls Try.prog 68 #[.int .i64 limit, .slice none 0 0] w (TwoB n e w) := by
  have k := lcm_any limit none 0 0 [] w rfl (by omega) (Or.inl rfl)
  rw [h] at k; exact k
theorem sum3 (x y z n e : Int) (w : World) (h : sumR [x, y, z] = (n, e)) : Calls Try.prog 70 #[.slice (some ⟨w.heap.size, 0, none⟩) 3 3] (w.alloc (.cells #[.int .i64 x, .int .i64 y, .int .i64 z] 3)) (TwoB n e (w.alloc (.cells #[.int .i64 x, .int .i64 y, .int .i64 z] 3))) := by
  have k := sum_any (some ⟨w.heap.size, 0, none⟩) 3 3 [x, y, z] _ rfl (by omega) (Row.made w [x, y, z])
  rw [h] at k; exact k
theorem sum1 (x n e : Int) (w : World) (h : sumR [x] = (n, e)) : Calls Try.prog 70 #[.slice (some ⟨w.heap.size, 0, none⟩) 1 1] (w.alloc (.cells #[.int .i64 x] 3)) (TwoB n e (w.alloc (.cells #[.int .i64 x] 3))) := by
  have k := sum_any (some ⟨w.heap.size, 0, none⟩) 1 1 [x] _ rfl (by omega) (Row.made w [x])
  rw [h] at k; exact k
theorem known1a : addN 1099511627776 0 = 1099511627776 := by decide +kernel
theorem known1b : addE 1099511627776 0 = 0 := by decide +kernel
theorem known2a : addN 1099511627776 1 = 0 := by decide +kernel
theorem known2b : addE 1099511627776 1 = 10 := by decide +kernel
theorem known3a : subN 3 4 = 0 := by decide +kernel
theorem known3b : subE 3 4 = 2 := by decide +kernel
theorem known4a : mulN 1048576 1048576 = 1099511627776 := by decide +kernel
theorem known4b : mulE 1048576 1048576 = 0 := by decide +kernel
theorem known5a : mulN 1048577 1048576 = 0 := by decide +kernel
theorem known5b : mulE 1048577 1048576 = 10 := by decide +kernel
theorem known6a : divN 7 2 = 3 := by decide +kernel
theorem known6b : divE 7 2 = 0 := by decide +kernel
theorem known7a : divN 7 0 = 0 := by decide +kernel
theorem known7b : divE 7 0 = 2 := by decide +kernel
theorem known8a : gcdN 12 18 = 6 := by decide +kernel
theorem known8b : gcdE 12 18 = 0 := by decide +kernel
theorem known9a : gcdN 0 5 = 5 := by decide +kernel
theorem known9b : gcdE 0 5 = 0 := by decide +kernel
theorem known10 : lcmR 100 [4, 6, 10] = (60, 0) := by decide +kernel
theorem known11 : lcmR 59 [4, 6, 10] = (0, 10) := by decide +kernel
theorem known12 : lcmR 1 [] = (1, 0) := by decide +kernel
theorem known13 : sumR [1, 2, 3] = (6, 0) := by decide +kernel
theorem known14 : sumR [(-1)] = (0, 2) := by decide +kernel

end Go.Proofs.Ytbdiekolkniajaa

namespace Go.Proofs.Ytbdiekolkniajaa
open Go.RowKit Tk
set_option linter.unusedVariables false

theorem info3 : (Try.prog.info? 3).map (fun i => (i.zero, i.size, i.bytes)) = some (some (.int .i64 0), 1, 8) := by kernel_rfl

/-- a slice of these numbers is answered; what was there is as it was -/
def Rowed (n : Nat) (zs : List Int) (w : World) (e : Ending) (w' : World) : Prop :=
  ∃ a c, e = .returned (.slice a n c) ∧ Row w' a zs ∧ (a = none → n = 0 ∧ c = 0) ∧ Below w.heap.size w w'

theorem rowed_of {n : Nat} {zs : List Int} {w' : World} {base : Nat} {v : Value} (hn : n = zs.length) (h : w'.ownsRow base 3 1 v n (zs.map (Value.int .i64))) : ∃ a c, v = .slice a n c ∧ Row w' a zs ∧ (a = none → n = 0 ∧ c = 0) := by
  have hc := h
  rcases h.2 with ⟨rfl, rfl⟩ | ⟨g, cap, cur, rfl, hg, hh, hnc, _⟩
  · obtain rfl : zs = [] := List.eq_nil_of_length_eq_zero hn.symm
    exact ⟨none, 0, rfl, Or.inl rfl, fun _ => ⟨rfl, rfl⟩⟩
  · refine ⟨some ⟨g, 0, none⟩, cap, rfl, Or.inr ⟨g, 0, rfl, fun i hi => ?_⟩, fun h => by cases h⟩
    have := hc.cells (g := g) rfl i (.int .i64 (zs.getD i 0)) (by simp [List.getElem?_eq_getElem hi, List.getD])
    rw [Addr.add_lit] at this; exact this

/-! EqInts of two rows that hold the same -/
/-! The laws TicksTwo and TicksMany, as calls -/
end Go.Proofs.Ytbdiekolkniajaa
