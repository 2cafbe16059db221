/- ShareExact. -/
import Derived.Test.YtlifkclgflfnlaaShaI
import Derived.Deep.RegionHeld3
namespace Go.Proofs.Ytlifkclgflfnlaa.Sh
open Go.RowKit Tk De Dl Go.Proofs.Ytlifkclgflfnlaa.Lo Go.Proofs.Ytlifkclgflfnlaa.Ed Go.Proofs.Ytlifkclgflfnlaa.Su
set_option linter.unusedVariables false

/-- a row of servers of the call's own, in its block -/
def RS (W : World) (g n : Nat) (P B : Nat → Nat) : Prop := ∃ cur : Array Value, W.heap[g]? = some (.cells cur 36 (0, 0)) ∧ n * 3 ≤ cur.size ∧
  ∀ i, i < n → cur[i * 3]? = some (.int .i64 (P i : Nat)) ∧ cur[i * 3 + 1]? = some (.int .i64 (B i : Nat)) ∧ ∃ ta tn tc, cur[i * 3 + 2]? = some (.slice ta tn tc)
theorem RS.lt {W : World} {g n : Nat} {P B : Nat → Nat} (h : RS W g n P B) : g < W.heap.size := by obtain ⟨cur, h1, _⟩ := h; exact lt_of_block h1
theorem RS.below {W W' : World} {g n : Nat} {P B : Nat → Nat} (h : RS W g n P B) (q : Below W.heap.size W W') : RS W' g n P B := by
  obtain ⟨cur, h1, h2⟩ := h
  exact ⟨cur, (q.block _ (lt_of_block h1)).trans h1, h2⟩
theorem RS.drew {W : World} {g n : Nat} {P B : Nat → Nat} (h : RS W g n P B) : RS W.drew g n P B := h
theorem RS.at {W : World} {g n : Nat} {P B : Nat → Nat} (h : RS W g n P B) {i : Nat} (hi : i < n) : W.cell? ⟨g, i * 3, none⟩ = some (.int .i64 (P i : Nat)) ∧ W.cell? ⟨g, i * 3 + 1, none⟩ = some (.int .i64 (B i : Nat)) ∧ W.frozen? ⟨g, i * 3, none⟩ = false ∧ W.frozen? ⟨g, i * 3 + 1, none⟩ = false := by
  obtain ⟨cur, h1, h2, h3⟩ := h
  exact ⟨(cell_of_row _ _ _ _ _ _ h1).trans (h3 i hi).1, (cell_of_row _ _ _ _ _ _ h1).trans (h3 i hi).2.1, frozen_of_row _ _ _ _ _ h1, frozen_of_row _ _ _ _ _ h1⟩
theorem RS.setP {W : World} {g n : Nat} {P B : Nat → Nat} (h : RS W g n P B) {k : Nat} (hk : k < n) (X : Nat) : RS (W.setCell ⟨g, k * 3, none⟩ (.int .i64 X)) g n (upd P k X) B := by
  obtain ⟨cur, h1, h2, h3⟩ := h
  refine ⟨_, heap_set_same h1, by simpa using h2, fun i hi => ?_⟩
  simp only [Array.getElem?_setIfInBounds]
  rw [if_neg (show ¬ k * 3 = i * 3 + 1 by omega), if_neg (show ¬ k * 3 = i * 3 + 2 by omega)]
  by_cases hik : i = k
  · subst hik
    rw [upd_at, if_pos rfl, if_pos (by omega)]
    exact ⟨rfl, (h3 i hi).2⟩
  · rw [upd_ne _ _ hik, if_neg (by omega)]
    exact h3 i hi
theorem RS.setB {W : World} {g n : Nat} {P B : Nat → Nat} (h : RS W g n P B) {k : Nat} (hk : k < n) (X : Nat) : RS (W.setCell ⟨g, k * 3 + 1, none⟩ (.int .i64 X)) g n P (upd B k X) := by
  obtain ⟨cur, h1, h2, h3⟩ := h
  refine ⟨_, heap_set_same h1, by simpa using h2, fun i hi => ?_⟩
  simp only [Array.getElem?_setIfInBounds]
  rw [if_neg (show ¬ k * 3 + 1 = i * 3 by omega), if_neg (show ¬ k * 3 + 1 = i * 3 + 2 by omega)]
  by_cases hik : i = k
  · subst hik
    rw [upd_at, if_pos rfl, if_pos (by omega)]
    exact ⟨(h3 i hi).1, rfl, (h3 i hi).2.2⟩
  · rw [upd_ne _ _ hik, if_neg (by omega)]
    exact h3 i hi
theorem RS.sv {W : World} {g n cap : Nat} {P B : Nat → Nat} (h : RS W g n P B) (h1 : n ≤ cap) (h2 : cap ≤ maxLen) : SV W (.slice (some ⟨g, 0, none⟩) n cap) n (fun i => (P i : Nat)) (fun i => (B i : Nat)) := by
  refine ⟨_, _, rfl, h1, h2, (fun h => by cases h), fun _ => ⟨g, 0, rfl, fun i hi => ?_⟩⟩
  obtain ⟨cur, k1, k2, k3⟩ := h
  obtain ⟨a0, a1, ta, tn, tc, a2⟩ := k3 i hi
  rw [Nat.zero_add]
  exact ⟨(cell_of_row _ _ _ _ _ _ k1).trans a0, (cell_of_row _ _ _ _ _ _ k1).trans a1, ta, tn, tc, (cell_of_row _ _ _ _ _ _ k1).trans a2⟩
/-- .. if there are any -/
def RO (W : World) (C : Nat) (a : Option Addr) (n : Nat) (P B : Nat → Nat) : Prop := 0 < n → ∃ g, a = some ⟨g, 0, none⟩ ∧ C ≤ g ∧ RS W g n P B
theorem ro_of {W : World} {C n : Nat} {r : Value} {P B : Nat → Nat} (h : SW W C r n (fun i => (P i : Nat)) (fun i => (B i : Nat))) : ∃ a cap, r = .slice a n cap ∧ n ≤ cap ∧ cap ≤ maxLen ∧ (n = 0 → a = none ∨ ∃ g, a = some ⟨g, 0, none⟩) ∧ (a = none → cap = 0) ∧ RO W C a n P B := by
  have hc := h
  rcases h.2 with ⟨rfl, h0⟩ | ⟨g, cap, cur, rfl, hg, hh, hnc, hcm, hsz, _⟩
  · subst h0
    exact ⟨none, 0, rfl, Nat.le_refl _, Nat.zero_le _, fun _ => Or.inl rfl, fun _ => rfl, fun h => by cases h⟩
  · refine ⟨some ⟨g, 0, none⟩, cap, rfl, hnc, hcm, fun _ => Or.inr ⟨g, rfl⟩, (fun h => by cases h), fun _ => ⟨g, rfl, hg, cur, hh, ?_, fun i hi => ?_⟩⟩
    · rw [hsz]; exact Nat.mul_le_mul_right _ hnc
    · obtain ⟨a0, a1, a2⟩ := sflat_at (fun i => ((P i : Nat) : Int)) (fun i => ((B i : Nat) : Int)) hi
      have k0 := World.ownsRow.cells hc (g := g) rfl _ _ a0
      have k1 := World.ownsRow.cells hc (g := g) rfl _ _ a1
      have k2 := World.ownsRow.cells hc (g := g) rfl _ _ a2
      rw [Addr.add_lit, Nat.zero_add, cell_of_row _ _ _ _ _ _ hh] at k0 k1 k2
      exact ⟨k0, k1, none, 0, 0, k2⟩
theorem RO.sv {W : World} {C n cap : Nat} {a : Option Addr} {P B : Nat → Nat} (h : RO W C a n P B) (h1 : n ≤ cap) (h2 : cap ≤ maxLen) (h3 : a = none → cap = 0) : SV W (.slice a n cap) n (fun i => (P i : Nat)) (fun i => (B i : Nat)) := by
  rcases Nat.eq_zero_or_pos n with h0 | h0
  · subst h0
    exact ⟨_, _, rfl, h1, h2, h3, fun h => by cases h⟩
  · obtain ⟨g, rfl, _, hr⟩ := h h0
    exact hr.sv h1 h2
theorem dvd_2520 : ∀ p, p < 10 → 1 ≤ p → p ∣ 2520 := by decide
/-- numbers of a round -/
theorem bring_9 (p b : Nat) (hp : p ≤ 64) (hb : b ≤ 64) : ∃ r X q Y : Nat, (p : Int).tmod 9 = (r : Nat) ∧ (1 : Int) + (r : Nat) = (X : Nat) ∧ (b : Int).tmod (X : Nat) = (q : Nat) ∧ (1 : Int) + (q : Nat) = (Y : Nat) ∧ 1 ≤ X ∧ X ≤ 9 ∧ 1 ≤ Y ∧ Y ≤ X ∧ r ≤ 64 ∧ q ≤ 64 := by
  have h1 := Nat.mod_lt p (show 0 < 9 by decide)
  have h2 := Nat.mod_lt b (show 0 < 1 + p % 9 by omega)
  refine ⟨p % 9, 1 + p % 9, b % (1 + p % 9), 1 + b % (1 + p % 9), ?_, by push_cast; rfl, ?_, by push_cast; rfl, by omega, by omega, by omega, by omega, by omega, by omega⟩
  · rw [Int.tmod_eq_emod_of_nonneg (by omega)]; rfl
  · rw [Int.tmod_eq_emod_of_nonneg (by omega)]; rfl
theorem test_S {W base : World} {v : Value} {n : Nat} {p b : Nat → Int} (h : SV base v n p b) {t : Int} (ht : teE n p b = t) (hs : Below base.heap.size base W) : Calls Try.prog 9 #[v] W (fun e w' => e = .returned (.int .i64 t) ∧ Below W.heap.size W w' ∧ Below base.heap.size base w') :=
  (Test_fit (h.below hs) ht).mono fun _ _ ⟨h1, h2⟩ => ⟨h1, h2, chn hs h2⟩
theorem works_S {W base : World} (hs : Below base.heap.size base W) : Calls Try.prog 11 #[] W (fun e w' => e = .returned (.bool true) ∧ Below base.heap.size base w') :=
  (works_any W).mono fun _ _ ⟨h1, h2⟩ => ⟨h1, chn hs h2⟩
theorem kept_S {W base : World} {v : Value} {n : Nat} {P B : Nat → Nat} (h : SV base v n (fun i => (P i : Nat)) (fun i => (B i : Nat))) (hn : n ≤ 4) (hP : ∀ i, i < n → 1 ≤ P i ∧ P i ≤ 64 ∧ 1 ≤ B i ∧ B i ≤ P i) {r : Bool} (hr : ∀ r2 : Bool, (Fits n P B → r2 = true) → (Over n P B 2520 → r2 = false) → r2 = r)
    (hs : Below base.heap.size base W) {g : Nat} (hg : NS W g n (fun _ => 0)) : Calls Try.prog 14 #[v, .slice (some ⟨g, 0, none⟩) n n, .int .i64 2600] W (fun e w' => e = .returned (.bool r) ∧ Below base.heap.size base w') :=
  (kept_any (h.below hs) hn hP (hg.nv (by unfold maxLen; omega)) (fun _ _ => Nat.zero_le _) 2600 (by decide)).mono fun _ _ ⟨r2, h1, h2, h3, h4⟩ => ⟨by rw [h1, hr r2 h3 fun ho => h4 (fun _ _ => rfl) 2520 (by decide) ho], chn hs h2⟩
end Go.Proofs.Ytlifkclgflfnlaa.Sh
