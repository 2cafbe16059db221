/- The counter of package ticks, and what is reckoned of many numbers. -/
import Derived.Test.YtfjeoefnpcgnnaaWalksB
import Derived.OneCell
namespace Go.Proofs.Ytfjeoefnpcgnnaa
open Go.RowKit Tk
set_option linter.unusedVariables false

theorem add_fit (a b n e : Int) (w : World) (hn : addN a b = n) (he : addE a b = e) : Calls Try.prog 56 #[.int .i64 a, .int .i64 b] w (TwoB n e w) := by
  subst hn he; exact add_any a b w
theorem sub_fit (a b n e : Int) (w : World) (hn : subN a b = n) (he : subE a b = e) : Calls Try.prog 35 #[.int .i64 a, .int .i64 b] w (TwoB n e w) := by
  subst hn he; exact sub_any a b w
theorem gcd_fit (a b n e : Int) (w : World) (hn : gcdN a b = n) (he : gcdE a b = e) : Calls Try.prog 53 #[.int .i64 a, .int .i64 b] w (TwoB n e w) := by
  subst hn he; exact gcd_any a b w

/-- one step of a product: the divisor, the quotient, the product -/
theorem gcd_ok_pos {n x : Int} (hn : ok1 n = true) (hx : ok1 x = true) : gcdN n x = (Nat.gcd n.toNat x.toNat : Nat) ∧ gcdE n x = 0 ∧
    divN x (Nat.gcd n.toNat x.toNat : Nat) = x / (Nat.gcd n.toNat x.toNat : Nat) ∧ divE x (Nat.gcd n.toNat x.toNat : Nat) = 0 ∧ tk (x / (Nat.gcd n.toNat x.toNat : Nat)) = true ∧ tk n = true ∧ 1 ≤ lcm2 n x := by
  rw [ok1_iff] at hn hx
  have h1 := gcd_bd hn.1 hn.2 hx.1 hx.2
  have h2 := quo_bd hn.1 hn.2 hx.1 hx.2
  have tn := tk_yes (n := n) (by omega) hn.2
  have tx := tk_yes (n := x) (by omega) hx.2
  have tg := tk_yes (n := ((Nat.gcd n.toNat x.toNat : Nat) : Int)) (by omega) h1.2
  exact ⟨gcdN_ok tn tx, gcdE_ok tn tx, divN_ok tx tg (by omega), divE_ok tx tg (by omega), tk_yes (by omega) h2.2, tn, lcm2_pos hn.1 hn.2 hx.1 hx.2⟩

/-- where a slice's row lies: below a block -/
def Under (B : Nat) (w : World) (a : Option Addr) (zs : List Int) : Prop :=
  zs = [] ∨ ∃ b off, a = some ⟨b, off, none⟩ ∧ b < B ∧ ∀ i, i < zs.length → w.cell? ⟨b, off + i, none⟩ = some (.int .i64 (zs.getD i 0))
theorem Under.row {B : Nat} {w : World} {a : Option Addr} {zs : List Int} (h : Under B w a zs) : Row w a zs := by
  rcases h with h | ⟨b, off, h1, _, h2⟩
  · exact Or.inl h
  · exact Or.inr ⟨b, off, h1, h2⟩
theorem Row.under {w : World} {a : Option Addr} {zs : List Int} (h : Row w a zs) : Under w.heap.size w a zs := by
  rcases h with rfl | ⟨b, off, rfl, hc⟩
  · exact Or.inl rfl
  · rcases zs with _ | ⟨z, r⟩
    · exact Or.inl rfl
    · exact Or.inr ⟨b, off, rfl, lt_of_cell (hc 0 (by simp)), hc⟩
theorem Under.below {B : Nat} {w w' : World} {a : Option Addr} {zs : List Int} (h : Under B w a zs) (hb : Below B w w') : Under B w' a zs := by
  rcases h with h | ⟨b, off, h1, h2, h3⟩
  · exact Or.inl h
  · exact Or.inr ⟨b, off, h1, h2, fun i hi => (hb.cell (p := ⟨b, off + i, none⟩) h2).trans (h3 i hi)⟩

end Go.Proofs.Ytfjeoefnpcgnnaa

namespace Go.Proofs.Ytfjeoefnpcgnnaa
open Go.RowKit Tk
set_option linter.unusedVariables false

end Go.Proofs.Ytfjeoefnpcgnnaa

namespace Go.Proofs.Ytfjeoefnpcgnnaa
open Go.RowKit Tk
set_option linter.unusedVariables false

def has (v : Int) (zs : List Int) : Bool := zs.contains v
/-- a place in a list, or none -/
def IdxP (zs : List Int) (v : Int) (w : World) (e : Ending) (w' : World) : Prop := ∃ r : Int, e = .returned (.int .i64 r) ∧ decide (0 ≤ r) = zs.contains v ∧ w = w'

end Go.Proofs.Ytfjeoefnpcgnnaa

namespace Go.Proofs.Ytfjeoefnpcgnnaa
open Go.RowKit Tk
set_option linter.unusedVariables false

theorem allp_step (p : Int → Bool) (zs : List Int) (k : Nat) (h : k < zs.length) (e : p (zs.getD k 0) = true) (ht : (zs.take k).all p = true) : (zs.take (k + 1)).all p = true := by
  rw [List.take_add_one, List.all_append, ht]
  simp only [List.getD, List.getElem?_eq_getElem h, Option.getD_some] at e
  simp [List.getElem?_eq_getElem h, e]
theorem allp_no (p : Int → Bool) (zs : List Int) (k : Nat) (h : k < zs.length) (e : p (zs.getD k 0) = false) : zs.all p = false := by
  simp only [List.getD, List.getElem?_eq_getElem h, Option.getD_some] at e
  rw [List.all_eq_false]
  exact ⟨zs[k], List.getElem_mem h, by simp [e]⟩

theorem step_parts {n x : Int} (hn : ok1 n = true) (hx : ok1 x = true) : ∃ G : Int, 1 ≤ G ∧ 1 ≤ x ∧ x ≤ 1099511627776 ∧ 0 ≤ x / G ∧ x / G ≤ 1099511627776 ∧ gcdN n x = G ∧ gcdE n x = 0 ∧ lcm2 n x = n * (x / G) ∧ tk n = true ∧ tk (x / G) = true ∧ 1 ≤ lcm2 n x := by
  obtain ⟨g1, g2, d1, d2, tq, tn, l1⟩ := gcd_ok_pos hn hx
  rw [ok1_iff] at hn hx
  have h1 := gcd_bd hn.1 hn.2 hx.1 hx.2
  have h2 := quo_bd hn.1 hn.2 hx.1 hx.2
  exact ⟨_, h1.1, hx.1, hx.2, by omega, h2.2, g1, g2, rfl, tn, tq, l1⟩

end Go.Proofs.Ytfjeoefnpcgnnaa

namespace Go.Proofs.Ytfjeoefnpcgnnaa
open Go.RowKit Tk
set_option linter.unusedVariables false

def TrueB (w : World) (e : Ending) (w' : World) : Prop := e = .returned (.bool true) ∧ Below w.heap.size w w'
theorem chain {w w1 w2 : World} (h : Below w.heap.size w w1) (k : Below w1.heap.size w1 w2) : Below w.heap.size w w2 := h.trans (k.mono h.size)
theorem chainA {w w1 w2 : World} {o : Obj} (h : Below w.heap.size w w1) (k : Below (w1.alloc o).heap.size (w1.alloc o) w2) : Below w.heap.size w w2 := chain (chain h (below_alloc w1 o)) k

theorem known1a : addN 1099511627776 0 = 1099511627776 := by decide +kernel
theorem known1b : addE 1099511627776 0 = 0 := by decide +kernel
theorem known2a : addN 1099511627776 1 = 0 := by decide +kernel
theorem known2b : addE 1099511627776 1 = 10 := by decide +kernel
theorem known3a : subN 3 4 = 0 := by decide +kernel
theorem known3b : subE 3 4 = 2 := by decide +kernel
theorem known4a : mulN 1048576 1048576 = 1099511627776 := by decide +kernel
theorem known4b : mulE 1048576 1048576 = 0 := by decide +kernel
theorem known5a : mulN 1048577 1048576 = 0 := by decide +kernel
theorem known5b : mulE 1048577 1048576 = 10 := by decide +kernel
theorem known6a : divN 7 2 = 3 := by decide +kernel
theorem known6b : divE 7 2 = 0 := by decide +kernel
theorem known7a : divN 7 0 = 0 := by decide +kernel
theorem known7b : divE 7 0 = 2 := by decide +kernel
theorem known8a : gcdN 12 18 = 6 := by decide +kernel
theorem known8b : gcdE 12 18 = 0 := by decide +kernel
theorem known9a : gcdN 0 5 = 5 := by decide +kernel
theorem known9b : gcdE 0 5 = 0 := by decide +kernel
theorem known10 : lcmR 100 [4, 6, 10] = (60, 0) := by decide +kernel
theorem known11 : lcmR 59 [4, 6, 10] = (0, 10) := by decide +kernel
theorem known12 : lcmR 1 [] = (1, 0) := by decide +kernel
theorem known13 : sumR [1, 2, 3] = (6, 0) := by decide +kernel
theorem known14 : sumR [(-1)] = (0, 2) := by decide +kernel

end Go.Proofs.Ytfjeoefnpcgnnaa

namespace Go.Proofs.Ytfjeoefnpcgnnaa
open Go.RowKit Tk
set_option linter.unusedVariables false

theorem info3 : (Try.prog.info? 3).map (fun i => (i.zero, i.size, i.bytes)) = some (some (.int .i64 0), 1, 8) := by kernel_rfl

/-- a slice of these numbers is answered; what was there is as it was -/
def Rowed (n : Nat) (zs : List Int) (w : World) (e : Ending) (w' : World) : Prop :=
  ∃ a c, e = .returned (.slice a n c) ∧ Row w' a zs ∧ (a = none → n = 0 ∧ c = 0) ∧ Below w.heap.size w w'

theorem rowed_of {n : Nat} {zs : List Int} {w' : World} {base : Nat} {v : Value} (hn : n = zs.length) (h : w'.ownsRow base 3 1 v n (zs.map (Value.int .i64))) : ∃ a c, v = .slice a n c ∧ Row w' a zs ∧ (a = none → n = 0 ∧ c = 0) := by
  have hc := h
  rcases h.2 with ⟨rfl, rfl⟩ | ⟨g, cap, cur, rfl, hg, hh, hnc, _⟩
  · obtain rfl : zs = [] := List.eq_nil_of_length_eq_zero hn.symm
    exact ⟨none, 0, rfl, Or.inl rfl, fun _ => ⟨rfl, rfl⟩⟩
  · refine ⟨some ⟨g, 0, none⟩, cap, rfl, Or.inr ⟨g, 0, rfl, fun i hi => ?_⟩, fun h => by cases h⟩
    have := hc.cells (g := g) rfl i (.int .i64 (zs.getD i 0)) (by simp [List.getElem?_eq_getElem hi, List.getD])
    rw [Addr.add_lit] at this; exact this

set_option maxHeartbeats 400000 in
theorem copy_none (w : World) : Calls Try.prog 8 #[.slice none 0 0] w (Rowed 0 [] w) := by
  obtain ⟨i0, hi, hz0, hz1, hz2⟩ := info_parts info3
  have h0 := World.ownsRow_nil w w.heap.size 3 1
  go_enter Try.func8, Try.ntmps8
  go_wp2
  go_ret
  exact ⟨none, 0, rfl, Or.inl rfl, fun _ => ⟨rfl, rfl⟩, Below.refl _ _⟩

set_option maxHeartbeats 400000 in
theorem copy_some (ad : Addr) (cap n : Nat) (zs : List Int) (w : World) (hn : n = zs.length) (hl : n * 8 ≤ 140737488351232) (hc : ∀ (j : Nat) (u : Value), (zs.map (Value.int .i64))[j]? = some u → w.cell? (ad.add j) = some u) :
    Calls Try.prog 8 #[.slice (some ad) n cap] w (Rowed n zs w) := by
  obtain ⟨i0, hi, hz0, hz1, hz2⟩ := info_parts info3
  have h0 := World.ownsRow_nil w w.heap.size 3 1
  have HN := Lib.hid hn; clear hn
  have HC := Lib.hid hc; clear hc
  go_enter Try.func8, Try.ntmps8
  go_wp2_with (at_builtin; refine wpList_append_own _ rfl _ _ 23 rfl w.heap.size 3 i0 (.int .i64 0) 1 8 Try.underlying23 hi hz0 hz1 hz2 rfl (by decide) (.slice none 0 0) 0 [] rfl h0 ad n cap (zs.map (Value.int .i64)) rfl ?c0 ?c1 ?c2 ?c3 ?c4 ?c5 ?_)
  case c0 => simp [HN.out]
  case c1 => exact HC.out
  case c2 => intro u hu; obtain ⟨z, _, rfl⟩ := List.mem_map.1 hu; rfl
  case c3 => unfold maxLen; omega
  case c4 => omega
  case c5 => exact Nat.le_refl _
  intro v' w1 hown hgrow _
  have hown' : w1.ownsRow w.heap.size 3 1 v' n (zs.map (Value.int .i64)) := by simpa using hown
  obtain ⟨a', c', hv, hr, hno⟩ := rowed_of HN.out hown'
  have hb := (Below.refl w.heap.size w).grown hgrow (Nat.le_refl _) (fun k hk => by simp [Value.ownBlock] at hk)
  have HRR := Lib.hid hr; have HNO := Lib.hid hno; have HB := Lib.hid hb
  clear hr hno hb hown hgrow h0 hown'
  rw [hv]
  clear hv
  go_wp2
  go_ret
  exact ⟨a', c', rfl, HRR.out, HNO.out, HB.out⟩

theorem copy_any (a : Option Addr) (cap n : Nat) (zs : List Int) (w : World) (hn : n = zs.length) (hl : n * 8 ≤ 140737488351232) (hr : Row w a zs) (hx : a = none → n = 0 ∧ cap = 0) : Calls Try.prog 8 #[.slice a n cap] w (Rowed n zs w) := by
  rcases a with _ | ad
  · obtain ⟨rfl, rfl⟩ := hx rfl
    obtain rfl : zs = [] := List.eq_nil_of_length_eq_zero hn.symm
    exact copy_none w
  · refine copy_some ad cap n zs w hn hl ?_
    intro j u hu
    have hj : j < zs.length := by have := (List.getElem?_eq_some_iff.1 hu).1; simpa using this
    rcases hr with rfl | ⟨b, off, he, hc⟩
    · simp at hj
    · obtain rfl := Option.some.inj he
      rw [Addr.add_lit, hc j hj, ← hu]; simp [List.getElem?_eq_getElem hj, List.getD]

/-! EqInts of two rows that hold the same -/
set_option maxHeartbeats 400000 in
theorem eq_nil (a a' : Option Addr) (c c' : Nat) (w : World) : Calls Try.prog 11 #[.slice a 0 c, .slice a' 0 c'] w (TrueB w) := by
  go_enter Try.func11, Try.ntmps11
  go_wp2
  go_loop [5] (fun i => i = .int .i64 0) (fun _ => 0)
  case atStart => rfl
  case round =>
    subst hrel
    go_wp2
    go_ret
    exact ⟨rfl, Below.refl _ _⟩

set_option maxHeartbeats 400000 in
theorem eq_some (b off b' off' c c' n : Nat) (zs : List Int) (w : World) (hn : n = zs.length) (hl : n ≤ 9223372036854775807) (hc : ∀ i, i < zs.length → w.cell? ⟨b, off + i, none⟩ = some (.int .i64 (zs.getD i 0))) (hc' : ∀ i, i < zs.length → w.cell? ⟨b', off' + i, none⟩ = some (.int .i64 (zs.getD i 0))) :
    Calls Try.prog 11 #[.slice (some ⟨b, off, none⟩) n c, .slice (some ⟨b', off', none⟩) n c'] w (TrueB w) := by
  have HN := Lib.hid hn; clear hn
  have HC := Lib.hid hc; clear hc
  have HC' := Lib.hid hc'; clear hc'
  go_enter Try.func11, Try.ntmps11
  go_wp2
  go_loopw [5] (fun i wr => ∃ k : Nat, k ≤ n ∧ i = .int .i64 k ∧ Below w.heap.size w wr) (fun i _ => n - (intOf i).toNat)
  case atStart => exact ⟨0, Nat.zero_le _, rfl, Below.refl _ _⟩
  case round =>
    obtain ⟨k, hk, rfl, HB⟩ := hrel
    by_cases hlt : k < n
    · have hkz : k < zs.length := by have := HN.out; omega
      have e1 := HC.out k hkz
      have e2 := HC'.out k hkz
      have hcell := (HB.cell (p := ⟨b, off + k, none⟩) (lt_of_cell e1)).trans e1
      have hcell' := (HB.cell (p := ⟨b', off' + k, none⟩) (lt_of_cell e2)).trans e2
      clear e1 e2 hkz
      generalize zs.getD k 0 = z at *
      go_wp2
      go_quiet (fail)
      go_wp2
      go_roundw
      case rel => exact ⟨k + 1, by omega, by go_num, below_drewN HB _⟩
      case measure => simp [intOf]; omega
    · go_wp2
      go_ret
      exact ⟨rfl, HB⟩
theorem eq_any (a a' : Option Addr) (c c' n : Nat) (zs : List Int) (w : World) (hn : n = zs.length) (hl : n ≤ 9223372036854775807) (hr : Row w a zs) (hr' : Row w a' zs) : Calls Try.prog 11 #[.slice a n c, .slice a' n c'] w (TrueB w) := by
  rcases hr with rfl | ⟨b, off, rfl, hc⟩
  · obtain rfl : n = 0 := by simpa using hn
    exact eq_nil a a' c c' w
  · rcases hr' with rfl | ⟨b', off', rfl, hc'⟩
    · obtain rfl : n = 0 := by simpa using hn
      exact eq_nil _ a' c c' w
    · exact eq_some b off b' off' c c' n zs w hn hl hc hc'

/-! The laws TicksTwo and TicksMany, as calls -/
end Go.Proofs.Ytfjeoefnpcgnnaa
