/- The contracts of package ticks for two numbers: each answers what Plain says; what was there is as it was. -/
import Derived.Test.YtfjeoefnpcgnnaaWalksA
namespace Go.Proofs.Ytfjeoefnpcgnnaa
open Go.RowKit Tk
set_option linter.unusedVariables false

/-- a slice's address in a world: its cells are these numbers -/
def Row (w : World) (a : Option Addr) (zs : List Int) : Prop :=
  zs = [] ∨ ∃ b off, a = some ⟨b, off, none⟩ ∧ ∀ i, i < zs.length → w.cell? ⟨b, off + i, none⟩ = some (.int .i64 (zs.getD i 0))

theorem lt_of_cell {w : World} {b off : Nat} {v : Value} (h : w.cell? ⟨b, off, none⟩ = some v) : b < w.heap.size := by
  rcases Nat.lt_or_ge b w.heap.size with hl | hl
  · exact hl
  · simp [World.cell?, Array.getElem?_eq_none hl] at h
theorem Row.below {w w' : World} {a : Option Addr} {zs : List Int} (h : Row w a zs) (hb : Below w.heap.size w w') : Row w' a zs := by
  rcases h with rfl | ⟨b, off, rfl, hc⟩
  · exact Or.inl rfl
  · refine Or.inr ⟨b, off, rfl, fun i hi => ?_⟩
    have := hc i hi
    rw [hb.cell (p := ⟨b, off + i, none⟩) (lt_of_cell this)]
    exact this
theorem Row.made (w : World) (zs : List Int) : Row (w.alloc (.cells (zs.map (Value.int .i64)).toArray 3)) (some ⟨w.heap.size, 0, none⟩) zs := by
  refine Or.inr ⟨w.heap.size, 0, rfl, fun i hi => ?_⟩
  have e : (w.alloc (.cells (zs.map (Value.int .i64)).toArray 3)).heap[w.heap.size]? = some (.cells (zs.map (Value.int .i64)).toArray 3) := by
    show (w.heap.push _)[w.heap.size]? = _
    simp
  simp only [World.cell?, e]
  simp [List.getElem?_eq_getElem hi, List.getD]
theorem below_alloc (w : World) (o : Obj) : Below w.heap.size w (w.alloc o) := (Below.refl _ _).alloc (Nat.le_refl _) o

/-- all of a list are ticks, as the loop finds it -/
theorem all_step (zs : List Int) (k : Nat) (h : k < zs.length) (e : tk (zs.getD k 0) = true) (ht : (zs.take k).all tk = true) : (zs.take (k + 1)).all tk = true := by
  rw [List.take_add_one, List.all_append, ht]
  simp only [List.getD, List.getElem?_eq_getElem h, Option.getD_some] at e
  simp [List.getElem?_eq_getElem h, e]
theorem all_no (zs : List Int) (k : Nat) (h : k < zs.length) (e : tk (zs.getD k 0) = false) : zs.all tk = false := by
  simp only [List.getD, List.getElem?_eq_getElem h, Option.getD_some] at e
  rw [List.all_eq_false]
  exact ⟨zs[k], List.getElem_mem h, by simp [e]⟩

set_option maxHeartbeats 400000 in
theorem areTicks_nil (a : Option Addr) (cap : Nat) (w : World) : Calls Try.prog 46 #[.slice a 0 cap] w (IsB true w) := by
  go_enter Try.func46, Try.ntmps46
  go_wp2
  go_loop [7] (fun i => i = .int .i64 0) (fun _ => 0)
  case atStart => rfl
  case round =>
    subst hrel
    go_wp2
    go_ret
    exact ⟨rfl, rfl⟩

set_option maxHeartbeats 400000 in
theorem areTicks_some (b off cap n : Nat) (zs : List Int) (w : World) (hn : n = zs.length) (hl : n ≤ 9223372036854775807) (hc : ∀ i, i < zs.length → w.cell? ⟨b, off + i, none⟩ = some (.int .i64 (zs.getD i 0))) :
    Calls Try.prog 46 #[.slice (some ⟨b, off, none⟩) n cap] w (IsB (zs.all tk) w) := by
  obtain ⟨A, HA⟩ : ∃ A : Bool, Hid (A = zs.all tk) := ⟨_, rfl⟩
  rw [← HA.out]
  have HC := Lib.hid hc; clear hc
  have HN := Lib.hid hn; clear hn
  go_enter Try.func46, Try.ntmps46
  go_wp2
  go_loop [7] (fun i => ∃ k : Nat, k ≤ n ∧ i = .int .i64 k ∧ Hid ((zs.take k).all tk = true)) (fun i => n - (intOf i).toNat)
  case atStart => exact ⟨0, Nat.zero_le _, rfl, by simp [Hid]⟩
  case round =>
    obtain ⟨k, hk, rfl, HT⟩ := hrel
    by_cases hlt : k < n
    · have hcell := HC.out k (by rw [← HN.out]; exact hlt)
      rcases tk_cases (zs.getD k 0) with ⟨h, ea⟩ | ⟨h, ea⟩ | ⟨h, h', ea⟩
      · have HF : Hid (A = false) := by rw [Hid, HA.out]; exact all_no zs k (by rw [← HN.out]; exact hlt) ea
        generalize zs.getD k 0 = z at *
        clear ea
        go_wp2
        go_ret
        exact ⟨by rw [HF.out]; rfl, rfl⟩
      · have HF : Hid (A = false) := by rw [Hid, HA.out]; exact all_no zs k (by rw [← HN.out]; exact hlt) ea
        generalize zs.getD k 0 = z at *
        clear ea
        go_wp2
        go_ret
        exact ⟨by rw [HF.out]; rfl, rfl⟩
      · have HF : Hid ((zs.take (k + 1)).all tk = true) := all_step zs k (by rw [← HN.out]; exact hlt) ea HT.out
        have hd : decide (1099511627776 < zs.getD k 0) = false := by simp; simp at h'; omega
        generalize zs.getD k 0 = z at *
        clear ea
        go_wp2
        go_round
        case rel => exact ⟨k + 1, by omega, by go_num, HF⟩
        case measure => simp [intOf]; omega
    · obtain rfl : k = n := by omega
      have HF : Hid (A = true) := by
        have := HT.out; rw [HN.out, List.take_length] at this
        rw [Hid, HA.out, this]
      go_wp2
      go_ret
      exact ⟨by rw [HF.out]; rfl, rfl⟩

theorem areTicks_any (a : Option Addr) (cap n : Nat) (zs : List Int) (w : World) (hn : n = zs.length) (hl : n ≤ 9223372036854775807) (hr : Row w a zs) : Calls Try.prog 46 #[.slice a n cap] w (IsB (zs.all tk) w) := by
  rcases hr with rfl | ⟨b, off, rfl, hc⟩
  · obtain rfl : n = 0 := by simpa using hn
    exact areTicks_nil a cap w
  · exact areTicks_some b off cap n zs w hn hl hc

theorem areTicks_two (a b : Int) (w : World) : Calls Try.prog 46 #[.slice (some ⟨w.heap.size, 0, none⟩) 2 2] (w.alloc (.cells #[.int .i64 a, .int .i64 b] 3)) (IsB (tk a && tk b) (w.alloc (.cells #[.int .i64 a, .int .i64 b] 3))) := by
  have h := areTicks_any (some ⟨w.heap.size, 0, none⟩) 2 2 [a, b] _ rfl (by omega) (Row.made w [a, b])
  simpa using h
theorem areTicks_one (a : Int) (w : World) : Calls Try.prog 46 #[.slice (some ⟨w.heap.size, 0, none⟩) 1 1] (w.alloc (.cells #[.int .i64 a] 3)) (IsB (tk a) (w.alloc (.cells #[.int .i64 a] 3))) := by
  have h := areTicks_any (some ⟨w.heap.size, 0, none⟩) 1 1 [a] _ rfl (by omega) (Row.made w [a])
  simpa using h


set_option maxHeartbeats 400000 in
theorem gcd_ok (a b : Int) (w : World) (h : 0 ≤ a) (k : a ≤ 1099511627776) (h' : 0 ≤ b) (k' : b ≤ 1099511627776) (ea : tk a = true) (eb : tk b = true) :
    Calls Try.prog 53 #[.int .i64 a, .int .i64 b] w (TwoB (Nat.gcd a.toNat b.toNat : Nat) 0 w) := by
  obtain ⟨G, H⟩ : ∃ G : Int, Hid (G = (Nat.gcd a.toNat b.toNat : Nat)) := ⟨_, rfl⟩
  rw [← H.out]
  go_enter Try.func53, Try.ntmps53
  go_wp2_with (go_at_call 46; refine (areTicks_two _ _ _).mono ?_; rintro e w' ⟨rfl, rfl⟩)
  go_loopw [0, 1] (fun u v wr => ∃ x y : Int, 0 ≤ x ∧ 0 ≤ y ∧ x ≤ 1099511627776 ∧ y ≤ 1099511627776 ∧ u = .int .i64 x ∧ v = .int .i64 y ∧ Hid (G = (Nat.gcd x.toNat y.toNat : Nat)) ∧ Below w.heap.size w wr) (fun _ v _ => (intOf v).toNat)
  case atStart => exact ⟨a, b, h, h', k, k', rfl, rfl, H, below_alloc _ _⟩
  case round =>
    clear H ea eb h k h' k'
    obtain ⟨x, y, hx, hy, hx', hy', rfl, rfl, HG, HB⟩ := hrel
    by_cases hz : 0 < y
    · have hm0 : 0 ≤ x % y := Int.emod_nonneg _ (by omega)
      have hm1 : x % y < y := Int.emod_lt_of_pos _ hz
      have hyb : (y == 0) = false := by simp; omega
      have hyc : (y != 0) = true := by simp; omega
      have HS : Hid (G = (Nat.gcd y.toNat (x % y).toNat : Nat)) := by have := HG.out; rw [gcd_step x y hx hz] at this; exact this
      clear HG
      go_wp2
      go_quiet (fail)
      go_wp2
      go_roundw
      case rel => exact ⟨y, x % y, hy, hm0, hy', by omega, rfl, rfl, HS, below_drewN HB _⟩
      case measure => simp [intOf]; omega
    · obtain rfl : y = 0 := by omega
      have e := HG.out; rw [gcd_end x hx] at e; subst e; clear HG
      go_wp2
      go_ret2
      exact ⟨rfl, HB⟩

set_option maxHeartbeats 400000 in
theorem add_any (a b : Int) (w : World) : Calls Try.prog 56 #[.int .i64 a, .int .i64 b] w (TwoB (addN a b) (addE a b) w) := by
  rcases tk_cases a with ⟨h, ea⟩ | ⟨h, ea⟩ | ⟨h, k, ea⟩
  · rw [addN_no1 ea, addE_no1 ea]
    have et : (tk a && tk b) = false := by simp [ea]
    go_enter Try.func56, Try.ntmps56
    go_wp2_with (go_at_call 46; refine (areTicks_two _ _ _).mono ?_; rintro e w' ⟨rfl, rfl⟩)
    go_ret2
    exact ⟨rfl, below_alloc _ _⟩
  · rw [addN_no1 ea, addE_no1 ea]
    have et : (tk a && tk b) = false := by simp [ea]
    go_enter Try.func56, Try.ntmps56
    go_wp2_with (go_at_call 46; refine (areTicks_two _ _ _).mono ?_; rintro e w' ⟨rfl, rfl⟩)
    go_ret2
    exact ⟨rfl, below_alloc _ _⟩
  · rcases tk_cases b with ⟨h', eb⟩ | ⟨h', eb⟩ | ⟨h', k', eb⟩
    · rw [addN_no2 eb, addE_no2 eb]
      go_enter Try.func56, Try.ntmps56
      go_wp2_with (go_at_call 46; refine (areTicks_two _ _ _).mono ?_; rintro e w' ⟨rfl, rfl⟩)
      go_ret2
      exact ⟨rfl, below_alloc _ _⟩
    · rw [addN_no2 eb, addE_no2 eb]
      go_enter Try.func56, Try.ntmps56
      go_wp2_with (go_at_call 46; refine (areTicks_two _ _ _).mono ?_; rintro e w' ⟨rfl, rfl⟩)
      go_ret2
      exact ⟨rfl, below_alloc _ _⟩
    · by_cases hs : a + b ≤ 1099511627776
      · rw [addN_ok ea eb hs, addE_ok ea eb hs]
        have hd : decide (1099511627776 - b < a) = false := by simp; omega
        go_enter Try.func56, Try.ntmps56
        go_wp2_with (go_at_call 46; refine (areTicks_two _ _ _).mono ?_; rintro e w' ⟨rfl, rfl⟩)
        go_ret2
        exact ⟨rfl, below_alloc _ _⟩
      · have hs' : 1099511627776 < a + b := by omega
        rw [addN_over hs', addE_over ea eb hs']; clear hs
        have hd : decide (1099511627776 - b < a) = true := by simp; omega
        go_enter Try.func56, Try.ntmps56
        go_wp2_with (go_at_call 46; refine (areTicks_two _ _ _).mono ?_; rintro e w' ⟨rfl, rfl⟩)
        go_ret2
        exact ⟨rfl, below_alloc _ _⟩

set_option maxHeartbeats 400000 in
theorem sub_any (a b : Int) (w : World) : Calls Try.prog 35 #[.int .i64 a, .int .i64 b] w (TwoB (subN a b) (subE a b) w) := by
  rcases tk_cases a with ⟨h, ea⟩ | ⟨h, ea⟩ | ⟨h, k, ea⟩
  · rw [subN_no1 ea, subE_no1 ea]
    have et : (tk a && tk b) = false := by simp [ea]
    go_enter Try.func35, Try.ntmps35
    go_wp2_with (go_at_call 46; refine (areTicks_two _ _ _).mono ?_; rintro e w' ⟨rfl, rfl⟩)
    go_ret2
    exact ⟨rfl, below_alloc _ _⟩
  · rw [subN_no1 ea, subE_no1 ea]
    have et : (tk a && tk b) = false := by simp [ea]
    go_enter Try.func35, Try.ntmps35
    go_wp2_with (go_at_call 46; refine (areTicks_two _ _ _).mono ?_; rintro e w' ⟨rfl, rfl⟩)
    go_ret2
    exact ⟨rfl, below_alloc _ _⟩
  · rcases tk_cases b with ⟨h', eb⟩ | ⟨h', eb⟩ | ⟨h', k', eb⟩
    · rw [subN_no2 eb, subE_no2 eb]
      go_enter Try.func35, Try.ntmps35
      go_wp2_with (go_at_call 46; refine (areTicks_two _ _ _).mono ?_; rintro e w' ⟨rfl, rfl⟩)
      go_ret2
      exact ⟨rfl, below_alloc _ _⟩
    · rw [subN_no2 eb, subE_no2 eb]
      go_enter Try.func35, Try.ntmps35
      go_wp2_with (go_at_call 46; refine (areTicks_two _ _ _).mono ?_; rintro e w' ⟨rfl, rfl⟩)
      go_ret2
      exact ⟨rfl, below_alloc _ _⟩
    · by_cases hs : b ≤ a
      · rw [subN_ok ea eb hs, subE_ok ea eb hs]
        have hd : decide (a < b) = false := by simp; omega
        go_enter Try.func35, Try.ntmps35
        go_wp2_with (go_at_call 46; refine (areTicks_two _ _ _).mono ?_; rintro e w' ⟨rfl, rfl⟩)
        go_ret2
        exact ⟨rfl, below_alloc _ _⟩
      · have hs' : a < b := by omega
        rw [subN_no3 hs', subE_no3 hs']; clear hs
        go_enter Try.func35, Try.ntmps35
        go_wp2_with (go_at_call 46; refine (areTicks_two _ _ _).mono ?_; rintro e w' ⟨rfl, rfl⟩)
        go_ret2
        exact ⟨rfl, below_alloc _ _⟩

set_option maxHeartbeats 400000 in
theorem gcd_any (a b : Int) (w : World) : Calls Try.prog 53 #[.int .i64 a, .int .i64 b] w (TwoB (gcdN a b) (gcdE a b) w) := by
  rcases tk_cases a with ⟨h, ea⟩ | ⟨h, ea⟩ | ⟨h, k, ea⟩
  · rw [gcdN_no1 ea, gcdE_no1 ea]
    have et : (tk a && tk b) = false := by simp [ea]
    go_enter Try.func53, Try.ntmps53
    go_wp2_with (go_at_call 46; refine (areTicks_two _ _ _).mono ?_; rintro e w' ⟨rfl, rfl⟩)
    go_ret2
    exact ⟨rfl, below_alloc _ _⟩
  · rw [gcdN_no1 ea, gcdE_no1 ea]
    have et : (tk a && tk b) = false := by simp [ea]
    go_enter Try.func53, Try.ntmps53
    go_wp2_with (go_at_call 46; refine (areTicks_two _ _ _).mono ?_; rintro e w' ⟨rfl, rfl⟩)
    go_ret2
    exact ⟨rfl, below_alloc _ _⟩
  · rcases tk_cases b with ⟨h', eb⟩ | ⟨h', eb⟩ | ⟨h', k', eb⟩
    · rw [gcdN_no2 eb, gcdE_no2 eb]
      go_enter Try.func53, Try.ntmps53
      go_wp2_with (go_at_call 46; refine (areTicks_two _ _ _).mono ?_; rintro e w' ⟨rfl, rfl⟩)
      go_ret2
      exact ⟨rfl, below_alloc _ _⟩
    · rw [gcdN_no2 eb, gcdE_no2 eb]
      go_enter Try.func53, Try.ntmps53
      go_wp2_with (go_at_call 46; refine (areTicks_two _ _ _).mono ?_; rintro e w' ⟨rfl, rfl⟩)
      go_ret2
      exact ⟨rfl, below_alloc _ _⟩
    · rw [gcdN_ok ea eb, gcdE_ok ea eb]
      exact gcd_ok a b w h k h' k' ea eb

end Go.Proofs.Ytfjeoefnpcgnnaa
