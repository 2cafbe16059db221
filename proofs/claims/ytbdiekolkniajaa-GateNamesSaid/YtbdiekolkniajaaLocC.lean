/- What the tasks ask for, with what is more: by demand's Of, by its Use. -/
import Derived.Test.YtbdiekolkniajaaLocB
namespace Go.Proofs.Ytbdiekolkniajaa
open Go.RowKit Tk De Dl Lo Go.Sort
set_option linter.unusedVariables false

theorem TK.sub {w : World} {b off cap n : Nat} {z : Nat → Nat → Int} (h : TK w (.slice (some ⟨b, off, none⟩) n cap) n z) {i : Nat} (hi : i < n) : TK w (.slice (some ⟨b, off + i * 8, none⟩) 1 (cap - i)) 1 (fun _ j => z i j) := by
  obtain ⟨a', cap', e, h1, h2, h3, h4⟩ := h
  obtain ⟨rfl, rfl⟩ : some ⟨b, off, none⟩ = a' ∧ cap = cap' := by simpa using e
  obtain ⟨b', off', e, hc⟩ := h4 (by omega)
  obtain ⟨rfl, rfl⟩ : b = b' ∧ off = off' := by simpa using e
  refine ⟨_, _, rfl, by omega, by omega, (fun h => by cases h), fun _ => ⟨b, off + i * 8, rfl, fun k hk j hj => ?_⟩⟩
  obtain rfl : k = 0 := by omega
  rw [Nat.zero_mul, Nat.add_zero]
  exact hc i hi j hj
/-- so many jobs of each, asking for so much -/
def sma (J A : Nat → Nat) : Nat → Nat
  | 0 => 0
  | k + 1 => sma J A k + J k * A k
theorem dem_sma (P D A : Nat → Nat) (t : Nat) : ∀ n, dem P D A t n = sma (fun i => jobs (P i) (D i) t) A n
  | 0 => rfl
  | n + 1 => by rw [dem, sma, dem_sma]
theorem use_sma (P A : Nat → Nat) (T : Nat) : ∀ n, use P A T n = sma (fun i => T / P i) A n
  | 0 => rfl
  | n + 1 => by rw [use, sma, use_sma]
theorem sma_le {J A : Nat → Nat} : ∀ {n : Nat}, (∀ i, i < n → J i ≤ 1048576 ∧ A i ≤ 131072) → sma J A n ≤ n * 137438953472
  | 0, _ => Nat.zero_le _
  | n + 1, h => by
    have h1 := sma_le (n := n) (fun i hi => h i (by omega))
    have h2 := h n (by omega)
    have h3 : J n * A n ≤ 1048576 * 131072 := Nat.mul_le_mul h2.1 h2.2
    rw [sma]; omega
theorem is_nothing (w : World) : IS (w.alloc (.cells #[.int .i64 0] 3)) (.slice (some ⟨w.heap.size, 0, none⟩) 1 1) [0] := by
  have h := heap_alloc_new w (.cells #[.int .i64 0] 3)
  refine ⟨_, _, rfl, Nat.le_refl _, (by decide), (fun h => by cases h), fun _ => ⟨_, 0, rfl, fun i hi => ?_⟩⟩
  match i, hi with
  | 0, _ => exact cell_of_row _ _ 0 _ _ _ h
/-- the box, and the row of nothing -/
structure GN (w W : World) (o : Obj) (nb : Nat) : Prop where
  k : W.heap[w.heap.size]? = some o
  s : IS W (.slice (some ⟨nb, 0, none⟩) 1 1) [0]
  b : Below w.heap.size w W
theorem GN.below {w W W' : World} {o : Obj} {nb : Nat} (h : GN w W o nb) (b : Below W.heap.size W W') : GN w W' o nb := ⟨(b.block _ (lt_of_block h.k)).trans h.k, h.s.below b, chn h.b b⟩
theorem gn_start (w : World) (o : Obj) : GN w ((w.alloc o).alloc (.cells #[.int .i64 0] 3)) o (w.heap.size + 1) := by
  have h := is_nothing (w.alloc o)
  rw [World.size_alloc] at h
  exact ⟨(Below.heap_alloc _ _ _ (by simp)).trans (heap_alloc_new w o), h, ((Below.refl _ w).alloc (Nat.le_refl _) _).alloc (by simp) _⟩
theorem cap_bd {k n tcap : Nat} (h : k < n) (hn : n ≤ 4) (hnc : n ≤ tcap) (hc : tcap ≤ maxLen) : k + 1 ≤ tcap ∧ (k : Int) + 1 ≤ tcap ∧ k ≠ tcap ∧ (tcap : Int) ≤ 9223372036854775807 := by
  unfold maxLen at hc
  omega
set_option maxRecDepth 100000 in
set_option maxHeartbeats 4000000 in
theorem asked_of {w : World} {n : Nat} {z : Nat → Nat → Int} {ms : List Int} {J A : Nat → Nat} {ta : Option Addr} {tcap : Nat} {ma : Option Addr} {mcap : Nat} {T : Int}
    (hT : TK w (.slice ta n tcap) n z) (hM : IS w (.slice ma n mcap) ms) (hn : n ≤ 4) (hnc : n ≤ tcap) (hc : tcap ≤ maxLen) (hB : ∀ i, i < n → 1 ≤ z i 2 ∧ z i 2 ≤ 64) (hA : ∀ i, i < n → z i 2 + ms.getD i 0 = A i) (hm : ∀ i, i < n → 0 ≤ ms.getD i 0 ∧ ms.getD i 0 ≤ 65536) (hJ : ∀ i, i < n → J i ≤ 1048576)
    (hF : ∀ (W : World) (v u : Value) (i : Nat), i < n → TK W v 1 (fun _ j => z i j) → IS W u [0] → Calls Try.prog 73 #[v, u, .int .i64 T] W (TwoB ((J i : Int) * z i 2) 0 W))
    (per bud : Int) (a : Option Addr) (m cap : Nat) (q : Int) :
    Calls Try.prog 35 #[gv per bud ta n tcap ma mcap a m cap q, .func (.func 73) #[] #[], .int .i64 T] w (YI ((sma J A n : Nat) : Int) w) := by
  have HG := Lib.hid (gn_start w (gvo per bud ta n tcap ma mcap a m cap q))
  have hmx : n ≤ 9223372036854775807 := by omega
  have HT := Lib.hid hT; have HM := Lib.hid hM; have HF := Lib.hid hF; have HB := Lib.hid hB; have HA := Lib.hid hA; have HMB := Lib.hid hm; have HJ := Lib.hid hJ
  have HBD : Hid (∀ i, i ≤ n → sma J A i ≤ 549755813888) := fun i hi => by
    have := sma_le (J := J) (A := A) (n := i) (fun k hk => ⟨hJ k (by omega), by have h1 := hA k (by omega); have h2 := hB k (by omega); have h3 := hm k (by omega); omega⟩)
    omega
  have HST : Hid (∀ i, sma J A (i + 1) = sma J A i + J i * A i) := fun i => rfl
  have HCB := Lib.hid (fun k (h : k < n) => cap_bd h hn hnc hc)
  unfold gvo at HG
  unfold gv
  clear hT hM hF hB hA hm hJ hn hnc hc
  go_enter Try.func35, Try.ntmps35
  have c2 := cell_of_row _ _ 2 _ _ _ HG.out.k
  change _ = some (Value.slice ta n tcap) at c2
  go_wp2_with fail
  clear c2
  go_loopw [7, 19] (fun s i wr => ∃ k : Nat, k ≤ n ∧ i = .int .i64 k ∧ s = .int .i64 (sma J A k : Nat) ∧ Hid (GN w wr (.cells #[.int .i64 per, .int .i64 bud, .slice ta n tcap, .slice ma n mcap, .slice a m cap, .int .i64 q] 70) (w.heap.size + 1))) (fun _ i _ => n - (intOf i).toNat)
  case atStart => exact ⟨0, by omega, rfl, rfl, HG.out⟩
  case round =>
    clear HG
    obtain ⟨k, hk, rfl, rfl, HG⟩ := hrel
    by_cases hlt : k < n
    · obtain ⟨b, off, rfl, c⟩ := (HT.out.below HG.out.b).at hlt
      obtain ⟨c0, c1, c2, c3, c4, c5, c6, c7⟩ := c
      obtain ⟨b2, off2, rfl, cm⟩ := (HM.out.below HG.out.b).at hlt
      have hb1 := HB.out k hlt
      have ha1 := HA.out k hlt
      have hm1 := HMB.out k hlt
      have hj1 := HJ.out k hlt
      have hs1 := HBD.out k (by omega)
      have hs2 := HBD.out (k + 1) (by omega)
      have hst := HST.out k
      have hA2 := (Below.refl _ wr).alloc (Nat.le_refl _) (tko (z k))
      have HG2 := Lib.hid (HG.out.below hA2)
      have HC := Lib.hid (HF.out _ _ _ k hlt ((HT.out.below HG2.out.b).sub hlt) HG2.out.s)
      have HTK := Lib.hid (heap_alloc_new wr (tko (z k)))
      have HCM := Lib.hid ((hA2.cell (World.block_lt_of_cell? _ _ cm)).trans cm)
      have hkI : (k : Int) < n := by omega
      have hk0 : (0 : Int) ≤ k := by omega
      have w1 : wrap64 ((k : Int) + 1) = k + 1 := by unfold wrap64; omega
      obtain ⟨hkc, hkci, hkct, htm⟩ := HCB.out k hlt
      have hz : (z k 2 == 0) = false := by simp; omega
      have hq : ((J k : Int) * z k 2).tdiv (z k 2) = J k := Int.mul_tdiv_cancel _ (by omega)
      have hal : (A k : Int) ≤ 131072 := by omega
      have ham : ((J k : Int) * A k) = ((J k * A k : Nat) : Int) := by push_cast; rfl
      have hst2 : ((sma J A k : Nat) : Int) + ((J k * A k : Nat) : Int) = ((sma J A (k + 1) : Nat) : Int) := by rw [hst]; push_cast; rfl
      have w2 : IntKind.i64.wrap ((J k : Nat) : Int) = J k := IntWalk.i64_in _ (by omega)
      have v2 : wrap64 ((J k : Nat) : Int) = J k := by unfold wrap64; omega
      have w3 : IntKind.i64.wrap (z k 2 + ms.getD k 0) = A k := by rw [ha1]; exact IntWalk.i64_in _ (by omega)
      have v3 : wrap64 (z k 2 + ms.getD k 0) = A k := by rw [ha1]; unfold wrap64; omega
      have hle : J k * A k ≤ sma J A (k + 1) := by omega
      have w4 : IntKind.i64.wrap ((J k : Int) * A k) = ((J k * A k : Nat) : Int) := by rw [ham]; exact IntWalk.i64_in _ (by omega)
      have v4 : wrap64 ((J k : Int) * A k) = ((J k * A k : Nat) : Int) := by rw [ham]; generalize J k * A k = x at *; unfold wrap64; omega
      have w5 : IntKind.i64.wrap (((sma J A k : Nat) : Int) + ((J k * A k : Nat) : Int)) = ((sma J A (k + 1) : Nat) : Int) := by rw [hst2]; exact IntWalk.i64_in _ (by omega)
      have v5 : wrap64 (((sma J A k : Nat) : Int) + ((J k * A k : Nat) : Int)) = ((sma J A (k + 1) : Nat) : Int) := by rw [hst2]; unfold wrap64; omega
      have HB2 : Hid (1 ≤ z k 2 ∧ z k 2 ≤ 64) := hb1
      obtain ⟨S2, hS2⟩ : ∃ S2, S2 = sma J A (k + 1) := ⟨_, rfl⟩
      have HS2 := Lib.hid hS2
      rw [← hS2] at w5 v5
      generalize J k * A k = x at *
      generalize sma J A k = S1 at *
      generalize (ms.getD k 0) = mk at *
      generalize A k = ak at *
      generalize J k = jk at *
      obtain ⟨bare, hbare⟩ : ∃ bare, bare = (jk : Int) * z k 2 := ⟨_, rfl⟩
      rw [← hbare] at hq HC
      obtain ⟨g0, hg0⟩ : ∃ g0, g0 = w.heap.size := ⟨_, rfl⟩
      unfold tko at HG2 HTK HC HCM
      generalize z k 0 = z0 at *
      generalize z k 1 = z1 at *
      generalize z k 2 = z2 at *
      generalize z k 3 = z3 at *
      generalize z k 4 = z4 at *
      generalize z k 5 = z5 at *
      generalize z k 6 = z6 at *
      generalize z k 7 = z7 at *
      have c2 := cell_of_row _ _ 2 _ _ _ HG2.out.k
      change _ = some (Value.slice (some ⟨b, off, none⟩) n tcap) at c2
      clear hbare hS2 hb1 ha1 hm1 hj1 hs1 hs2 hst hA2 hal ham hst2 hle HBD HST HJ HMB HA HB HG hg0 g0
      go_wp2_with fail
      refine HC.out.mono ?_
      rintro e w2 ⟨rfl, hb⟩
      have HG3 := Lib.hid (HG2.out.below hb)
      have hk2 := (hb.block _ (lt_of_block HTK.out)).trans HTK.out
      have d2 := cell_of_row _ _ 2 _ _ _ hk2
      change _ = some (Value.int .i64 z2) at d2
      have dm := (hb.cell (World.block_lt_of_cell? _ _ HCM.out)).trans HCM.out
      have d3 := cell_of_row _ _ 3 _ _ _ HG3.out.k
      change _ = some (Value.slice (some ⟨b2, off2, none⟩) n mcap) at d3
      have hz1 : 1 ≤ z2 := HB2.out.1
      have hz2 : z2 ≠ 0 := by omega
      clear hb hk2 HC HG2 HTK HCM c0 c1 c3 c4 c5 c6 c7 cm c2 hkc hkci hkct htm
      go_wp2_with fail
      go_quiet (fail)
      go_wp2_with fail
      go_roundw
      case rel => exact ⟨k + 1, by omega, by go_num, by rw [← HS2.out], HG3.out.below (below_drewN (Below.refl _ _) _)⟩
      case measure => simp [intOf]; omega
    · obtain rfl : k = n := by omega
      go_wp2_with fail
      go_ret
      exact ⟨rfl, HG.out.b⟩
set_option maxRecDepth 100000 in
set_option maxHeartbeats 4000000 in
theorem asked_use {w : World} {n : Nat} {z : Nat → Nat → Int} {ms : List Int} {J A : Nat → Nat} {ta : Option Addr} {tcap : Nat} {ma : Option Addr} {mcap : Nat} {T : Int}
    (hT : TK w (.slice ta n tcap) n z) (hM : IS w (.slice ma n mcap) ms) (hn : n ≤ 4) (hnc : n ≤ tcap) (hc : tcap ≤ maxLen) (hB : ∀ i, i < n → 1 ≤ z i 2 ∧ z i 2 ≤ 64) (hA : ∀ i, i < n → z i 2 + ms.getD i 0 = A i) (hm : ∀ i, i < n → 0 ≤ ms.getD i 0 ∧ ms.getD i 0 ≤ 65536) (hJ : ∀ i, i < n → J i ≤ 1048576)
    (hF : ∀ (W : World) (v u : Value) (i : Nat), i < n → TK W v 1 (fun _ j => z i j) → IS W u [0] → Calls Try.prog 36 #[v, u, .int .i64 T] W (TwoB ((J i : Int) * z i 2) 0 W))
    (per bud : Int) (a : Option Addr) (m cap : Nat) (q : Int) :
    Calls Try.prog 35 #[gv per bud ta n tcap ma mcap a m cap q, .func (.func 36) #[] #[], .int .i64 T] w (YI ((sma J A n : Nat) : Int) w) := by
  have HG := Lib.hid (gn_start w (gvo per bud ta n tcap ma mcap a m cap q))
  have hmx : n ≤ 9223372036854775807 := by omega
  have HT := Lib.hid hT; have HM := Lib.hid hM; have HF := Lib.hid hF; have HB := Lib.hid hB; have HA := Lib.hid hA; have HMB := Lib.hid hm; have HJ := Lib.hid hJ
  have HBD : Hid (∀ i, i ≤ n → sma J A i ≤ 549755813888) := fun i hi => by
    have := sma_le (J := J) (A := A) (n := i) (fun k hk => ⟨hJ k (by omega), by have h1 := hA k (by omega); have h2 := hB k (by omega); have h3 := hm k (by omega); omega⟩)
    omega
  have HST : Hid (∀ i, sma J A (i + 1) = sma J A i + J i * A i) := fun i => rfl
  have HCB := Lib.hid (fun k (h : k < n) => cap_bd h hn hnc hc)
  unfold gvo at HG
  unfold gv
  clear hT hM hF hB hA hm hJ hn hnc hc
  go_enter Try.func35, Try.ntmps35
  have c2 := cell_of_row _ _ 2 _ _ _ HG.out.k
  change _ = some (Value.slice ta n tcap) at c2
  go_wp2_with fail
  clear c2
  go_loopw [7, 19] (fun s i wr => ∃ k : Nat, k ≤ n ∧ i = .int .i64 k ∧ s = .int .i64 (sma J A k : Nat) ∧ Hid (GN w wr (.cells #[.int .i64 per, .int .i64 bud, .slice ta n tcap, .slice ma n mcap, .slice a m cap, .int .i64 q] 70) (w.heap.size + 1))) (fun _ i _ => n - (intOf i).toNat)
  case atStart => exact ⟨0, by omega, rfl, rfl, HG.out⟩
  case round =>
    clear HG
    obtain ⟨k, hk, rfl, rfl, HG⟩ := hrel
    by_cases hlt : k < n
    · obtain ⟨b, off, rfl, c⟩ := (HT.out.below HG.out.b).at hlt
      obtain ⟨c0, c1, c2, c3, c4, c5, c6, c7⟩ := c
      obtain ⟨b2, off2, rfl, cm⟩ := (HM.out.below HG.out.b).at hlt
      have hb1 := HB.out k hlt
      have ha1 := HA.out k hlt
      have hm1 := HMB.out k hlt
      have hj1 := HJ.out k hlt
      have hs1 := HBD.out k (by omega)
      have hs2 := HBD.out (k + 1) (by omega)
      have hst := HST.out k
      have hA2 := (Below.refl _ wr).alloc (Nat.le_refl _) (tko (z k))
      have HG2 := Lib.hid (HG.out.below hA2)
      have HC := Lib.hid (HF.out _ _ _ k hlt ((HT.out.below HG2.out.b).sub hlt) HG2.out.s)
      have HTK := Lib.hid (heap_alloc_new wr (tko (z k)))
      have HCM := Lib.hid ((hA2.cell (World.block_lt_of_cell? _ _ cm)).trans cm)
      have hkI : (k : Int) < n := by omega
      have hk0 : (0 : Int) ≤ k := by omega
      have w1 : wrap64 ((k : Int) + 1) = k + 1 := by unfold wrap64; omega
      obtain ⟨hkc, hkci, hkct, htm⟩ := HCB.out k hlt
      have hz : (z k 2 == 0) = false := by simp; omega
      have hq : ((J k : Int) * z k 2).tdiv (z k 2) = J k := Int.mul_tdiv_cancel _ (by omega)
      have hal : (A k : Int) ≤ 131072 := by omega
      have ham : ((J k : Int) * A k) = ((J k * A k : Nat) : Int) := by push_cast; rfl
      have hst2 : ((sma J A k : Nat) : Int) + ((J k * A k : Nat) : Int) = ((sma J A (k + 1) : Nat) : Int) := by rw [hst]; push_cast; rfl
      have w2 : IntKind.i64.wrap ((J k : Nat) : Int) = J k := IntWalk.i64_in _ (by omega)
      have v2 : wrap64 ((J k : Nat) : Int) = J k := by unfold wrap64; omega
      have w3 : IntKind.i64.wrap (z k 2 + ms.getD k 0) = A k := by rw [ha1]; exact IntWalk.i64_in _ (by omega)
      have v3 : wrap64 (z k 2 + ms.getD k 0) = A k := by rw [ha1]; unfold wrap64; omega
      have hle : J k * A k ≤ sma J A (k + 1) := by omega
      have w4 : IntKind.i64.wrap ((J k : Int) * A k) = ((J k * A k : Nat) : Int) := by rw [ham]; exact IntWalk.i64_in _ (by omega)
      have v4 : wrap64 ((J k : Int) * A k) = ((J k * A k : Nat) : Int) := by rw [ham]; generalize J k * A k = x at *; unfold wrap64; omega
      have w5 : IntKind.i64.wrap (((sma J A k : Nat) : Int) + ((J k * A k : Nat) : Int)) = ((sma J A (k + 1) : Nat) : Int) := by rw [hst2]; exact IntWalk.i64_in _ (by omega)
      have v5 : wrap64 (((sma J A k : Nat) : Int) + ((J k * A k : Nat) : Int)) = ((sma J A (k + 1) : Nat) : Int) := by rw [hst2]; unfold wrap64; omega
      have HB2 : Hid (1 ≤ z k 2 ∧ z k 2 ≤ 64) := hb1
      obtain ⟨S2, hS2⟩ : ∃ S2, S2 = sma J A (k + 1) := ⟨_, rfl⟩
      have HS2 := Lib.hid hS2
      rw [← hS2] at w5 v5
      generalize J k * A k = x at *
      generalize sma J A k = S1 at *
      generalize (ms.getD k 0) = mk at *
      generalize A k = ak at *
      generalize J k = jk at *
      obtain ⟨bare, hbare⟩ : ∃ bare, bare = (jk : Int) * z k 2 := ⟨_, rfl⟩
      rw [← hbare] at hq HC
      obtain ⟨g0, hg0⟩ : ∃ g0, g0 = w.heap.size := ⟨_, rfl⟩
      unfold tko at HG2 HTK HC HCM
      generalize z k 0 = z0 at *
      generalize z k 1 = z1 at *
      generalize z k 2 = z2 at *
      generalize z k 3 = z3 at *
      generalize z k 4 = z4 at *
      generalize z k 5 = z5 at *
      generalize z k 6 = z6 at *
      generalize z k 7 = z7 at *
      have c2 := cell_of_row _ _ 2 _ _ _ HG2.out.k
      change _ = some (Value.slice (some ⟨b, off, none⟩) n tcap) at c2
      clear hbare hS2 hb1 ha1 hm1 hj1 hs1 hs2 hst hA2 hal ham hst2 hle HBD HST HJ HMB HA HB HG hg0 g0
      go_wp2_with fail
      refine HC.out.mono ?_
      rintro e w2 ⟨rfl, hb⟩
      have HG3 := Lib.hid (HG2.out.below hb)
      have hk2 := (hb.block _ (lt_of_block HTK.out)).trans HTK.out
      have d2 := cell_of_row _ _ 2 _ _ _ hk2
      change _ = some (Value.int .i64 z2) at d2
      have dm := (hb.cell (World.block_lt_of_cell? _ _ HCM.out)).trans HCM.out
      have d3 := cell_of_row _ _ 3 _ _ _ HG3.out.k
      change _ = some (Value.slice (some ⟨b2, off2, none⟩) n mcap) at d3
      have hz1 : 1 ≤ z2 := HB2.out.1
      have hz2 : z2 ≠ 0 := by omega
      clear hb hk2 HC HG2 HTK HCM c0 c1 c3 c4 c5 c6 c7 cm c2 hkc hkci hkct htm
      go_wp2_with fail
      go_quiet (fail)
      go_wp2_with fail
      go_roundw
      case rel => exact ⟨k + 1, by omega, by go_num, by rw [← HS2.out], HG3.out.below (below_drewN (Below.refl _ _) _)⟩
      case measure => simp [intOf]; omega
    · obtain rfl : k = n := by omega
      go_wp2_with fail
      go_ret
      exact ⟨rfl, HG.out.b⟩
end Go.Proofs.Ytbdiekolkniajaa
