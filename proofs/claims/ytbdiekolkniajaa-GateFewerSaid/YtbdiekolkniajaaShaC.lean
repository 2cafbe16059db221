/- Servers that are brought to be such. -/
import Derived.Test.YtbdiekolkniajaaShaB
import Derived.Lib.SmallJoins
namespace Go.Proofs.Ytbdiekolkniajaa.Sh
open Go.RowKit Tk De Dl Go.Proofs.Ytbdiekolkniajaa.Lo
set_option linter.unusedVariables false

theorem bring_eq (a : Int) {n : Int} (h : 0 < n) : (if a.tmod n < 0 then a.tmod n + n else a.tmod n) = a % n := by
  by_cases ha : 0 ≤ a
  · rw [Int.tmod_eq_emod_of_nonneg ha, if_neg (by have := Int.emod_nonneg a (show n ≠ 0 by omega); omega)]
  · rw [tmod_neg a n (by omega) (by omega), emod_neg a n (by omega)]
    have h1 := Int.emod_nonneg (-a) (show n ≠ 0 by omega)
    have h2 := Int.emod_lt_of_pos (-a) h
    by_cases h0 : (-a) % n = 0
    · rw [h0]; simp
    · rw [if_pos (by omega), if_neg h0]; omega
set_option maxHeartbeats 400000 in
theorem brings_any (a n : Int) (w : World) (h : 1 ≤ n) (hn : n ≤ 9007199254740992) : Calls Try.prog 6 #[.int .i64 a, .int .i64 n] w (IsN (a % n) w) := by
  rw [← bring_eq a (show 0 < n by omega)]
  have h1 := Int.lt_tmod_of_pos a (by omega : 0 < n)
  have h2 := Int.tmod_lt_of_pos a (by omega : 0 < n)
  have hz : (n == 0) = false := by simp; omega
  have hw64 : wrap64 (a.tmod n) = a.tmod n := by unfold wrap64; omega
  by_cases hr : a.tmod n < 0
  · rw [if_pos hr]
    have hd : decide (a.tmod n < 0) = true := by simpa using hr
    have hw2 : wrap64 (a.tmod n + n) = a.tmod n + n := by unfold wrap64; omega
    go_enter Try.func6, Try.ntmps6
    go_wp2
    go_ret
    exact ⟨rfl, rfl⟩
  · rw [if_neg hr]
    have hd : decide (a.tmod n < 0) = false := by simpa using hr
    go_enter Try.func6, Try.ntmps6
    go_wp2
    go_ret
    exact ⟨rfl, rfl⟩
/-- a number, brought to be a natural below n -/
def bn (a : Int) (n : Nat) : Nat := (a % (n : Int)).toNat
theorem bn_lt (a : Int) {n : Nat} (h : 0 < n) : bn a n < n := by
  unfold bn
  have h1 := Int.emod_nonneg a (show (n : Int) ≠ 0 by omega)
  have h2 := Int.emod_lt_of_pos a (show (0 : Int) < n by omega)
  omega
theorem bring_bn (a : Int) (n : Nat) (w : World) (h : 0 < n) (hn : n ≤ 1000000) : Calls Try.prog 6 #[.int .i64 a, .int .i64 n] w (IsN (bn a n : Nat) w) := by
  have e : ((bn a n : Nat) : Int) = a % (n : Int) := by
    unfold bn
    have h1 := Int.emod_nonneg a (show (n : Int) ≠ 0 by omega)
    omega
  rw [e]
  exact brings_any a n w (by omega) (by omega)
theorem bring_q (a : Int) (n : Nat) (w : World) (h : 0 < n) (hn : n ≤ 1000000) : Calls Try.prog 6 #[.int .i64 a, .int .i64 n] w (fun e w' => e = .returned (.int .i64 (bn a n : Nat)) ∧ w' = w) := (bring_bn a n w h hn).mono fun _ _ h => ⟨h.1, h.2.symm⟩
/-- what is made of the numbers that came in -/
def mP (p : Nat → Int) (i : Nat) : Nat := 1 + bn (p i) 24
def mB (p b : Nat → Int) (i : Nat) : Nat := 1 + bn (b i) (mP p i)
theorem m_bd (p b : Nat → Int) (i : Nat) : 1 ≤ mP p i ∧ mP p i ≤ 24 ∧ 1 ≤ mB p b i ∧ mB p b i ≤ mP p i := by
  have h1 := bn_lt (p i) (n := 24) (by decide)
  have e1 : mP p i = 1 + bn (p i) 24 := rfl
  have h2 := bn_lt (b i) (n := mP p i) (by omega)
  have e2 : mB p b i = 1 + bn (b i) (mP p i) := rfl
  omega
/-- servers of the call's own -/
def sflat (P B : Nat → Int) : Nat → List Value
  | 0 => []
  | k + 1 => sflat P B k ++ [.int .i64 (P k), .int .i64 (B k), .slice none 0 0]
theorem sflat_len (P B : Nat → Int) : ∀ k, (sflat P B k).length = k * 3
  | 0 => rfl
  | k + 1 => by rw [sflat, List.length_append, sflat_len]; simp; omega
theorem sflat_at (P B : Nat → Int) : ∀ {n i : Nat}, i < n → (sflat P B n)[i * 3]? = some (.int .i64 (P i)) ∧ (sflat P B n)[i * 3 + 1]? = some (.int .i64 (B i)) ∧ (sflat P B n)[i * 3 + 2]? = some (.slice none 0 0)
  | 0, _, h => by cases h
  | n + 1, i, h => by
    have hl := sflat_len P B n
    rw [sflat]
    by_cases hc : i < n
    · rw [List.getElem?_append_left (by omega), List.getElem?_append_left (by omega), List.getElem?_append_left (by omega)]
      exact sflat_at P B hc
    · obtain rfl : i = n := by omega
      rw [List.getElem?_append_right (by omega), List.getElem?_append_right (by omega), List.getElem?_append_right (by omega), hl, Nat.sub_self, Nat.add_sub_cancel_left, Nat.add_sub_cancel_left]
      exact ⟨rfl, rfl, rfl⟩
def SW (w : World) (C : Nat) (v : Value) (n : Nat) (P B : Nat → Int) : Prop := w.ownsRow C 43 3 v n (sflat P B n)
theorem SW.sv {w : World} {C n : Nat} {v : Value} {P B : Nat → Int} (h : SW w C v n P B) : SV w v n P B := by
  have hc := h
  rcases h.2 with ⟨rfl, h0⟩ | ⟨g, cap, cur, rfl, hg, hh, hnc, hcm, _⟩
  · subst h0
    exact SV.nil _ _ _
  · refine ⟨some ⟨g, 0, none⟩, cap, rfl, hnc, hcm, (fun h => by cases h), fun _ => ⟨g, 0, rfl, fun i hi => ?_⟩⟩
    obtain ⟨a0, a1, a2⟩ := sflat_at P B hi
    have k0 := World.ownsRow.cells hc (g := g) rfl _ _ a0
    have k1 := World.ownsRow.cells hc (g := g) rfl _ _ a1
    have k2 := World.ownsRow.cells hc (g := g) rfl _ _ a2
    rw [Addr.add_lit] at k0 k1 k2
    exact ⟨k0, k1, none, 0, 0, k2⟩
theorem SW.drew {w : World} {C n : Nat} {v : Value} {P B : Nat → Int} (h : SW w C v n P B) : SW w.drew C v n P B := h
theorem infoPt : (Try.prog.info? 43).map (fun i => (i.zero, i.size, i.bytes)) = some (some (.agg #[.int .i64 0, .int .i64 0, .slice none 0 0]), 3, 40) := by kernel_rfl
theorem sv_one (per bud : Int) : ∀ u ∈ [Value.int .i64 per, .int .i64 bud, .slice none 0 0], u.oneCell' = true := by
  intro u hu
  simp only [List.mem_cons, List.not_mem_nil, or_false] at hu
  rcases hu with rfl | rfl | rfl <;> rfl
def MadeP (w : World) (n : Nat) (p b : Nat → Int) (e : Ending) (w' : World) : Prop := ∃ r, e = .returned r ∧ SW w' w.heap.size r (min n 4) (fun i => (mP p i : Nat)) (fun i => (mB p b i : Nat)) ∧ Below w.heap.size w w'
end Go.Proofs.Ytbdiekolkniajaa.Sh
