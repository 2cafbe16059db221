/- The counter of package ticks, and what is reckoned of many numbers. -/
import Derived.Test.YtlifkclgflfnlaaWalksB
import Derived.OneCell
namespace Go.Proofs.Ytlifkclgflfnlaa
open Go.RowKit Tk
set_option linter.unusedVariables false

theorem gcd_fit (a b n e : Int) (w : World) (hn : gcdN a b = n) (he : gcdE a b = e) : Calls Try.prog 23 #[.int .i64 a, .int .i64 b] w (TwoB n e w) := by
  subst hn he; exact gcd_any a b w

/-- one step of a product: the divisor, the quotient, the product -/
theorem gcd_ok_pos {n x : Int} (hn : ok1 n = true) (hx : ok1 x = true) : gcdN n x = (Nat.gcd n.toNat x.toNat : Nat) ∧ gcdE n x = 0 ∧
    divN x (Nat.gcd n.toNat x.toNat : Nat) = x / (Nat.gcd n.toNat x.toNat : Nat) ∧ divE x (Nat.gcd n.toNat x.toNat : Nat) = 0 ∧ tk (x / (Nat.gcd n.toNat x.toNat : Nat)) = true ∧ tk n = true ∧ 1 ≤ lcm2 n x := by
  rw [ok1_iff] at hn hx
  have h1 := gcd_bd hn.1 hn.2 hx.1 hx.2
  have h2 := quo_bd hn.1 hn.2 hx.1 hx.2
  have tn := tk_yes (n := n) (by omega) hn.2
  have tx := tk_yes (n := x) (by omega) hx.2
  have tg := tk_yes (n := ((Nat.gcd n.toNat x.toNat : Nat) : Int)) (by omega) h1.2
  exact ⟨gcdN_ok tn tx, gcdE_ok tn tx, divN_ok tx tg (by omega), divE_ok tx tg (by omega), tk_yes (by omega) h2.2, tn, lcm2_pos hn.1 hn.2 hx.1 hx.2⟩

/-- where a slice's row lies: below a block -/
def Under (B : Nat) (w : World) (a : Option Addr) (zs : List Int) : Prop :=
  zs = [] ∨ ∃ b off, a = some ⟨b, off, none⟩ ∧ b < B ∧ ∀ i, i < zs.length → w.cell? ⟨b, off + i, none⟩ = some (.int .i64 (zs.getD i 0))
theorem Under.row {B : Nat} {w : World} {a : Option Addr} {zs : List Int} (h : Under B w a zs) : Row w a zs := by
  rcases h with h | ⟨b, off, h1, _, h2⟩
  · exact Or.inl h
  · exact Or.inr ⟨b, off, h1, h2⟩
theorem Row.under {w : World} {a : Option Addr} {zs : List Int} (h : Row w a zs) : Under w.heap.size w a zs := by
  rcases h with rfl | ⟨b, off, rfl, hc⟩
  · exact Or.inl rfl
  · rcases zs with _ | ⟨z, r⟩
    · exact Or.inl rfl
    · exact Or.inr ⟨b, off, rfl, lt_of_cell (hc 0 (by simp)), hc⟩
theorem Under.below {B : Nat} {w w' : World} {a : Option Addr} {zs : List Int} (h : Under B w a zs) (hb : Below B w w') : Under B w' a zs := by
  rcases h with h | ⟨b, off, h1, h2, h3⟩
  · exact Or.inl h
  · exact Or.inr ⟨b, off, h1, h2, fun i hi => (hb.cell (p := ⟨b, off + i, none⟩) h2).trans (h3 i hi)⟩

end Go.Proofs.Ytlifkclgflfnlaa
