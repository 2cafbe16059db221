/- The counter of package ticks, and what is reckoned of many numbers. -/
import Derived.Test.YthhdfmpoebedcaaWalksB
import Derived.OneCell
namespace Go.Proofs.Ythhdfmpoebedcaa
open Go.RowKit Tk
set_option linter.unusedVariables false

/-- a counter in block g -/
def Ctr (w : World) (g : Nat) (n : Int) : Prop := w.heap[g]? = some (.cells #[.int .i64 n] 97 (0, 0))
theorem Ctr.cell {w : World} {g : Nat} {n : Int} (h : Ctr w g n) : w.cell? ⟨g, 0, none⟩ = some (.int .i64 n) := cell_of_one h
theorem Ctr.free {w : World} {g : Nat} {n : Int} (h : Ctr w g n) : w.frozen? ⟨g, 0, none⟩ = false := free_of_one h
theorem Ctr.lt {w : World} {g : Nat} {n : Int} (h : Ctr w g n) : g < w.heap.size := lt_of_block h
theorem Ctr.below {w w' : World} {g : Nat} {n : Int} (h : Ctr w g n) (hb : Below w.heap.size w w') : Ctr w' g n := (hb.block g h.lt).trans h
theorem Ctr.made (w : World) (n : Int) : Ctr (w.alloc (.cells #[.int .i64 n] 97)) w.heap.size n := heap_alloc_new w _
theorem Ctr.set {w : World} {g : Nat} {n : Int} (h : Ctr w g n) (m : Int) : Ctr (w.setCell ⟨g, 0, none⟩ (.int .i64 m)) g m := one_setCell h
/-- what a step of a counter comes to -/
def Stepped (g : Nat) (n er : Int) (w : World) (e : Ending) (w' : World) : Prop := e = .returned (.int .i64 er) ∧ Ctr w' g n ∧ Below g w w'

set_option maxHeartbeats 400000 in
theorem become_ok (g : Nat) (n m : Int) (w : World) (hC : Ctr w g m) : Calls Try.prog 69 #[.pointer (some ⟨g, 0, none⟩), .int .i64 n, .int .i64 0] w (Stepped g n 0 w) := by
  have h1 := hC.cell
  have h2 := hC.free
  have HC := Lib.hid hC; clear hC
  go_enter Try.func69, Try.ntmps69
  go_wp2
  go_ret
  exact ⟨rfl, HC.out.set n, Below.setCell (p := ⟨g, 0, none⟩) (Below.refl _ _) (Nat.le_refl g) _⟩
set_option maxHeartbeats 400000 in
theorem become_err (g : Nat) (n m er : Int) (w : World) (hC : Ctr w g m) (he : (er == 0) = false) : Calls Try.prog 69 #[.pointer (some ⟨g, 0, none⟩), .int .i64 n, .int .i64 er] w (Stepped g m er w) := by
  have HC := Lib.hid hC; clear hC
  go_enter Try.func69, Try.ntmps69
  go_wp2
  go_ret
  exact ⟨rfl, HC.out, Below.refl _ _⟩

theorem add_fit (a b n e : Int) (w : World) (hn : addN a b = n) (he : addE a b = e) : Calls Try.prog 71 #[.int .i64 a, .int .i64 b] w (TwoB n e w) := by
  subst hn he; exact add_any a b w
theorem mul_fit (a b n e : Int) (w : World) (hn : mulN a b = n) (he : mulE a b = e) : Calls Try.prog 70 #[.int .i64 a, .int .i64 b] w (TwoB n e w) := by
  subst hn he; exact mul_any a b w
theorem div_fit (a b n e : Int) (w : World) (hn : divN a b = n) (he : divE a b = e) : Calls Try.prog 68 #[.int .i64 a, .int .i64 b] w (TwoB n e w) := by
  subst hn he; exact div_any a b w
theorem gcd_fit (a b n e : Int) (w : World) (hn : gcdN a b = n) (he : gcdE a b = e) : Calls Try.prog 67 #[.int .i64 a, .int .i64 b] w (TwoB n e w) := by
  subst hn he; exact gcd_any a b w

set_option maxHeartbeats 400000 in
theorem cadd_ok (g : Nat) (n x : Int) (w : World) (hC : Ctr w g n) (hn : tk n = true) (hx : tk x = true) (hs : n + x ≤ 1099511627776) :
    Calls Try.prog 58 #[.pointer (some ⟨g, 0, none⟩), .int .i64 x] w (Stepped g (n + x) 0 w) := by
  have h1 := hC.cell
  have HC := Lib.hid hC; clear hC
  have HN := Lib.hid (addN_ok hn hx hs)
  have HE := Lib.hid (addE_ok hn hx hs)
  clear hn hx hs
  go_enter Try.func58, Try.ntmps58
  go_wp2_with fail
  refine (add_fit _ _ _ _ _ HN.out HE.out).mono ?_
  rintro e w1 ⟨rfl, hb⟩
  go_wp2_with fail
  refine (become_ok _ _ _ _ (HC.out.below hb)).mono ?_
  rintro e w2 ⟨rfl, hC2, hb2⟩
  go_wp2_with fail
  go_ret
  exact ⟨rfl, hC2, (hb.mono (Nat.le_of_lt HC.out.lt)).trans hb2⟩
set_option maxHeartbeats 400000 in
theorem cadd_over (g : Nat) (n x : Int) (w : World) (hC : Ctr w g n) (hn : tk n = true) (hx : tk x = true) (hs : 1099511627776 < n + x) :
    Calls Try.prog 58 #[.pointer (some ⟨g, 0, none⟩), .int .i64 x] w (Stepped g n 10 w) := by
  have h1 := hC.cell
  have HC := Lib.hid hC; clear hC
  have HN := Lib.hid (addN_over hs)
  have HE := Lib.hid (addE_over hn hx hs)
  clear hn hx hs
  go_enter Try.func58, Try.ntmps58
  go_wp2_with fail
  refine (add_fit _ _ _ _ _ HN.out HE.out).mono ?_
  rintro e w1 ⟨rfl, hb⟩
  go_wp2_with fail
  refine (become_err _ _ _ _ _ (HC.out.below hb) rfl).mono ?_
  rintro e w2 ⟨rfl, hC2, hb2⟩
  go_wp2_with fail
  go_ret
  exact ⟨rfl, hC2, (hb.mono (Nat.le_of_lt HC.out.lt)).trans hb2⟩

/-- one step of a product: the divisor, the quotient, the product -/
theorem gcd_ok_pos {n x : Int} (hn : ok1 n = true) (hx : ok1 x = true) : gcdN n x = (Nat.gcd n.toNat x.toNat : Nat) ∧ gcdE n x = 0 ∧
    divN x (Nat.gcd n.toNat x.toNat : Nat) = x / (Nat.gcd n.toNat x.toNat : Nat) ∧ divE x (Nat.gcd n.toNat x.toNat : Nat) = 0 ∧ tk (x / (Nat.gcd n.toNat x.toNat : Nat)) = true ∧ tk n = true ∧ 1 ≤ lcm2 n x := by
  rw [ok1_iff] at hn hx
  have h1 := gcd_bd hn.1 hn.2 hx.1 hx.2
  have h2 := quo_bd hn.1 hn.2 hx.1 hx.2
  have tn := tk_yes (n := n) (by omega) hn.2
  have tx := tk_yes (n := x) (by omega) hx.2
  have tg := tk_yes (n := ((Nat.gcd n.toNat x.toNat : Nat) : Int)) (by omega) h1.2
  exact ⟨gcdN_ok tn tx, gcdE_ok tn tx, divN_ok tx tg (by omega), divE_ok tx tg (by omega), tk_yes (by omega) h2.2, tn, lcm2_pos hn.1 hn.2 hx.1 hx.2⟩

set_option maxHeartbeats 400000 in
theorem cmul_ok (g : Nat) (n x : Int) (w : World) (hC : Ctr w g n) (hn : ok1 n = true) (hx : ok1 x = true) (hs : lcm2 n x ≤ 1099511627776) :
    Calls Try.prog 57 #[.pointer (some ⟨g, 0, none⟩), .int .i64 x] w (Stepped g (lcm2 n x) 0 w) := by
  have h1 := hC.cell
  have HC := Lib.hid hC; clear hC
  obtain ⟨g1, g2, d1, d2, tq, tn, _⟩ := gcd_ok_pos hn hx
  have m1 := mulN_ok tn tq hs
  have m2 := mulE_ok tn tq hs
  have HG1 := Lib.hid g1; have HG2 := Lib.hid g2; have HD1 := Lib.hid d1; have HD2 := Lib.hid d2; have HM1 := Lib.hid m1; have HM2 := Lib.hid m2
  clear g1 g2 d1 d2 tq tn m1 m2 hn hx hs
  go_enter Try.func57, Try.ntmps57
  go_wp2_with fail
  refine (gcd_fit _ _ _ _ _ HG1.out HG2.out).mono ?_
  rintro e w1 ⟨rfl, hb⟩
  go_wp2_with fail
  refine (div_fit _ _ _ _ _ HD1.out HD2.out).mono ?_
  rintro e w2 ⟨rfl, hb2⟩
  have h2 := ((HC.out.below hb).below hb2).cell
  go_wp2_with fail
  refine (mul_fit _ _ _ _ _ HM1.out HM2.out).mono ?_
  rintro e w3 ⟨rfl, hb3⟩
  go_wp2_with fail
  refine (become_ok _ _ _ _ (((HC.out.below hb).below hb2).below hb3)).mono ?_
  rintro e w4 ⟨rfl, hC4, hb4⟩
  go_wp2_with fail
  go_ret
  exact ⟨rfl, hC4, (((hb.mono (Nat.le_of_lt HC.out.lt)).trans (hb2.mono (Nat.le_of_lt (HC.out.below hb).lt))).trans (hb3.mono (Nat.le_of_lt ((HC.out.below hb).below hb2).lt))).trans hb4⟩
set_option maxHeartbeats 400000 in
theorem cmul_over (g : Nat) (n x : Int) (w : World) (hC : Ctr w g n) (hn : ok1 n = true) (hx : ok1 x = true) (hs : 1099511627776 < lcm2 n x) :
    Calls Try.prog 57 #[.pointer (some ⟨g, 0, none⟩), .int .i64 x] w (Stepped g n 10 w) := by
  have h1 := hC.cell
  have HC := Lib.hid hC; clear hC
  obtain ⟨g1, g2, d1, d2, tq, tn, _⟩ := gcd_ok_pos hn hx
  have m1 := mulN_over hs
  have m2 := mulE_over tn tq hs
  have HG1 := Lib.hid g1; have HG2 := Lib.hid g2; have HD1 := Lib.hid d1; have HD2 := Lib.hid d2; have HM1 := Lib.hid m1; have HM2 := Lib.hid m2
  clear g1 g2 d1 d2 tq tn m1 m2 hn hx hs
  go_enter Try.func57, Try.ntmps57
  go_wp2_with fail
  refine (gcd_fit _ _ _ _ _ HG1.out HG2.out).mono ?_
  rintro e w1 ⟨rfl, hb⟩
  go_wp2_with fail
  refine (div_fit _ _ _ _ _ HD1.out HD2.out).mono ?_
  rintro e w2 ⟨rfl, hb2⟩
  have h2 := ((HC.out.below hb).below hb2).cell
  go_wp2_with fail
  refine (mul_fit _ _ _ _ _ HM1.out HM2.out).mono ?_
  rintro e w3 ⟨rfl, hb3⟩
  go_wp2_with fail
  refine (become_err _ _ _ _ _ (((HC.out.below hb).below hb2).below hb3) rfl).mono ?_
  rintro e w4 ⟨rfl, hC4, hb4⟩
  go_wp2_with fail
  go_ret
  exact ⟨rfl, hC4, (((hb.mono (Nat.le_of_lt HC.out.lt)).trans (hb2.mono (Nat.le_of_lt (HC.out.below hb).lt))).trans (hb3.mono (Nat.le_of_lt ((HC.out.below hb).below hb2).lt))).trans hb4⟩

/-- where a slice's row lies: below a block -/
def Under (B : Nat) (w : World) (a : Option Addr) (zs : List Int) : Prop :=
  zs = [] ∨ ∃ b off, a = some ⟨b, off, none⟩ ∧ b < B ∧ ∀ i, i < zs.length → w.cell? ⟨b, off + i, none⟩ = some (.int .i64 (zs.getD i 0))
theorem Under.row {B : Nat} {w : World} {a : Option Addr} {zs : List Int} (h : Under B w a zs) : Row w a zs := by
  rcases h with h | ⟨b, off, h1, _, h2⟩
  · exact Or.inl h
  · exact Or.inr ⟨b, off, h1, h2⟩
theorem Row.under {w : World} {a : Option Addr} {zs : List Int} (h : Row w a zs) : Under w.heap.size w a zs := by
  rcases h with rfl | ⟨b, off, rfl, hc⟩
  · exact Or.inl rfl
  · rcases zs with _ | ⟨z, r⟩
    · exact Or.inl rfl
    · exact Or.inr ⟨b, off, rfl, lt_of_cell (hc 0 (by simp)), hc⟩
theorem Under.below {B : Nat} {w w' : World} {a : Option Addr} {zs : List Int} (h : Under B w a zs) (hb : Below B w w') : Under B w' a zs := by
  rcases h with h | ⟨b, off, h1, h2, h3⟩
  · exact Or.inl h
  · exact Or.inr ⟨b, off, h1, h2, fun i hi => (hb.cell (p := ⟨b, off + i, none⟩) h2).trans (h3 i hi)⟩

end Go.Proofs.Ythhdfmpoebedcaa
