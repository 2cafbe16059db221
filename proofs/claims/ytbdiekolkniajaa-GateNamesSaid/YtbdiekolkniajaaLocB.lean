/- Small calls of the one that is looked at: promised, end; sums, slacks by their three numbers. -/
import Derived.Test.YtbdiekolkniajaaLocA
namespace Go.Proofs.Ytbdiekolkniajaa
open Go.RowKit Tk De Dl Lo Go.Sort
set_option linter.unusedVariables false

/-- the box of the one that is looked at -/
structure GB (w W : World) (per bud : Int) (ta : Option Addr) (n tcap : Nat) (ma : Option Addr) (mcap : Nat) (a : Option Addr) (m cap : Nat) (q : Int) : Prop where
  k : W.heap[w.heap.size]? = some (gvo per bud ta n tcap ma mcap a m cap q)
  b : Below w.heap.size w W
theorem GB.start (w : World) (per bud : Int) (ta : Option Addr) (n tcap : Nat) (ma : Option Addr) (mcap : Nat) (a : Option Addr) (m cap : Nat) (q : Int) : GB w (w.alloc (gvo per bud ta n tcap ma mcap a m cap q)) per bud ta n tcap ma mcap a m cap q := ⟨heap_alloc_new w _, (Below.refl _ w).alloc (Nat.le_refl _) _⟩
theorem GB.below {w W W' : World} {per bud : Int} {ta : Option Addr} {n tcap : Nat} {ma : Option Addr} {mcap : Nat} {a : Option Addr} {m cap : Nat} {q : Int} (h : GB w W per bud ta n tcap ma mcap a m cap q) (b : Below W.heap.size W W') : GB w W' per bud ta n tcap ma mcap a m cap q := ⟨(b.block _ (lt_of_block h.k)).trans h.k, chn h.b b⟩
theorem GB.c {w W : World} {per bud : Int} {ta : Option Addr} {n tcap : Nat} {ma : Option Addr} {mcap : Nat} {a : Option Addr} {m cap : Nat} {q : Int} (h : GB w W per bud ta n tcap ma mcap a m cap q) :
    W.cell? ⟨w.heap.size, 0, none⟩ = some (.int .i64 per) ∧ W.cell? ⟨w.heap.size, 1, none⟩ = some (.int .i64 bud) ∧ W.cell? ⟨w.heap.size, 2, none⟩ = some (.slice ta n tcap) ∧ W.cell? ⟨w.heap.size, 3, none⟩ = some (.slice ma n mcap) ∧ W.cell? ⟨w.heap.size, 4, none⟩ = some (.slice a m cap) ∧ W.cell? ⟨w.heap.size, 5, none⟩ = some (.int .i64 q) :=
  ⟨cell_of_row _ _ 0 _ _ _ h.k, cell_of_row _ _ 1 _ _ _ h.k, cell_of_row _ _ 2 _ _ _ h.k, cell_of_row _ _ 3 _ _ _ h.k, cell_of_row _ _ 4 _ _ _ h.k, cell_of_row _ _ 5 _ _ _ h.k⟩
set_option maxHeartbeats 1000000 in
theorem promised_any {P B h : Nat} (hP : 1 ≤ P) (hP2 : P ≤ 64) (hB : B ≤ 64) (hh : h ≤ 1048576) (ta : Option Addr) (n tcap : Nat) (ma : Option Addr) (mcap : Nat) (a : Option Addr) (m cap : Nat) (q : Int) (w : World) :
    Calls Try.prog 37 #[gv P B ta n tcap ma mcap a m cap q, .int .i64 h] w (YI ((h / P * B : Nat) : Int) w) := by
  have HG := Lib.hid (GB.start w P B ta n tcap ma mcap a m cap q)
  obtain ⟨c0, c1, _, _, _, _⟩ := HG.out.c
  have hz : ((P : Int) == 0) = false := by simp; omega
  have hd : h / P ≤ h := Nat.div_le_self _ _
  have hm : h / P * B ≤ 1048576 * 64 := Nat.mul_le_mul (by omega) hB
  have ed : (h : Int).tdiv (P : Int) = ((h / P : Nat) : Int) := by rw [Int.tdiv_eq_ediv_of_nonneg (by omega)]; rfl
  have em : ((h / P : Nat) : Int) * (B : Int) = ((h / P * B : Nat) : Int) := by push_cast; rfl
  generalize h / P = d at *
  have HE := Lib.hid em
  have w1 : IntKind.i64.wrap (d : Int) = d := IntWalk.i64_in _ (by omega)
  have w2 : IntKind.i64.wrap ((d : Int) * B) = d * B := IntWalk.i64_in _ (by rw [em]; omega)
  have v1 : wrap64 (d : Int) = d := by unfold wrap64; omega
  have v2 : wrap64 ((d : Int) * B) = d * B := by rw [em]; generalize d * B = x at *; unfold wrap64; omega
  unfold gvo at HG c0 c1
  unfold gv
  clear hd hm em
  go_enter Try.func37, Try.ntmps37
  go_wp2_with fail
  go_quiet (fail)
  go_wp2_with fail
  go_ret
  exact ⟨by rw [← HE.out]; rfl, below_drewN HG.out.b _⟩
set_option maxRecDepth 100000 in
set_option maxHeartbeats 2000000 in
theorem end_any {w : World} {P : Nat} {z : Nat → Nat → Int} {ta : Option Addr} {n tcap : Nat} (hT : TK w (.slice ta n tcap) n z) (hn : n ≤ 4) (hz : ∀ i, i < n → 0 ≤ z i 1 ∧ z i 1 ≤ 64) (hP : P ≤ 64) {h : Nat} (hh : h ≤ 1048576) (bud : Int) (ma : Option Addr) (mcap : Nat) (a : Option Addr) (m cap : Nat) (q : Int) :
    Calls Try.prog 39 #[gv P bud ta n tcap ma mcap a m cap q, .int .i64 h] w (YI ((h + maxD z n + 2 * P : Nat) : Int) w) := by
  have HG := Lib.hid (GB.start w P bud ta n tcap ma mcap a m cap q)
  obtain ⟨c0, _, c2, _, _, _⟩ := HG.out.c
  have hmx : n ≤ 9223372036854775807 := by omega
  have HT := Lib.hid hT
  have HZ := Lib.hid hz
  have HST : Hid (∀ i, i < n → max ((maxD z i : Nat) : Int) (z i 1) = ((maxD z (i + 1) : Nat) : Int)) := fun i hi => by
    have := hz i hi
    show _ = ((max (maxD z i) (z i 1).toNat : Nat) : Int)
    omega
  have HBD : Hid (∀ i, i ≤ n → maxD z i ≤ 64) := by
    intro i
    induction i with
    | zero => intro _; exact Nat.zero_le _
    | succ i ih =>
      intro hi
      have h1 := ih (by omega)
      have h2 := hz i (by omega)
      show max (maxD z i) (z i 1).toNat ≤ 64
      omega
  unfold gvo at HG c0 c2
  unfold gv
  clear hT hz hn
  go_enter Try.func39, Try.ntmps39
  go_wp2_with fail
  clear c0 c2
  go_loopw [5, 12] (fun s i wr => ∃ k : Nat, k ≤ n ∧ i = .int .i64 k ∧ s = .int .i64 (maxD z k : Nat) ∧ Hid (GB w wr P bud ta n tcap ma mcap a m cap q)) (fun _ i _ => n - (intOf i).toNat)
  case atStart => exact ⟨0, by omega, rfl, rfl, HG.out⟩
  case round =>
    clear HG
    obtain ⟨k, hk, rfl, rfl, HG⟩ := hrel
    by_cases hlt : k < n
    · obtain ⟨b, off, rfl, c⟩ := (HT.out.below HG.out.b).at hlt
      obtain ⟨c0, c1, c2, c3, c4, c5, c6, c7⟩ := c
      have HG2 := Lib.hid (HG.out.below ((Below.refl _ wr).alloc (Nat.le_refl _) (tko (z k))))
      have HS := Lib.hid (HST.out k hlt)
      obtain ⟨D2, hD2⟩ : ∃ D2, D2 = maxD z (k + 1) := ⟨_, rfl⟩
      rw [← hD2] at HS
      have HD2 := Lib.hid hD2
      clear hD2
      generalize maxD z k = D at *
      have hS := HS.out
      unfold tko at HG2
      go_wp2_with fail
      all_goals go_roundw
      all_goals first | (exact ⟨k + 1, by omega, by go_num, by rw [← HD2.out]; first | (rw [hS]; done) | exact congrArg (Value.int .i64) (by omega), HG2.out⟩) | (simp [intOf]; omega)
    · obtain rfl : k = n := by omega
      obtain ⟨c0, _, _, _, _, _⟩ := HG.out.c
      have hD := HBD.out k (Nat.le_refl _)
      generalize maxD z k = D at *
      have v1 : wrap64 ((h : Int) + D) = h + D := by unfold wrap64; omega
      have v2 : wrap64 (2 * (P : Int)) = 2 * P := by unfold wrap64; omega
      have v3 : wrap64 ((h : Int) + D + 2 * P) = h + D + 2 * P := by unfold wrap64; omega
      go_wp2_with fail
      go_ret
      exact ⟨by push_cast; rfl, HG.out.b⟩
/-- the sum of three -/
theorem sum_three {w : World} {x y u : Int} {a : Option Addr} {cap : Nat} (h : IS w (.slice a 3 cap) [x, y, u]) (hx : -1099511627776 ≤ x ∧ x ≤ 1099511627776) (hy : -1099511627776 ≤ y ∧ y ≤ 1099511627776) (hu : -1099511627776 ≤ u ∧ u ≤ 1099511627776) :
    Calls Try.prog 74 #[.slice a 3 cap] w (IsN (x + y + u) w) := by
  have HI := Lib.hid h
  have HS : Hid (∀ k : Nat, k < 3 → ∃ g : Int, [x, y, u].getD k 0 = g ∧ wrap64 (([x, y, u].take k).sum + g) = ([x, y, u].take (k + 1)).sum) := by
    intro k hk
    refine ⟨_, rfl, ?_⟩
    match k, hk with
    | 0, _ => simp; unfold wrap64; omega
    | 1, _ => simp; unfold wrap64; omega
    | 2, _ => simp; unfold wrap64; omega
  have HE : Hid (([x, y, u].take 3).sum = x + y + u) := by simp [Hid]; omega
  have H0 : Hid (([x, y, u].take 0).sum = 0) := rfl
  rw [← HE.out]
  generalize [x, y, u] = l at *
  clear h hx hy hu
  go_enter Try.func74, Try.ntmps74
  go_wp2_with fail
  go_loop [3, 8] (fun s i => ∃ k : Nat, k ≤ 3 ∧ i = .int .i64 k ∧ s = .int .i64 (l.take k).sum) (fun _ i => 3 - (intOf i).toNat)
  case atStart => exact ⟨0, by omega, rfl, by rw [H0.out]⟩
  case round =>
    obtain ⟨k, hk, rfl, rfl⟩ := hrel
    by_cases hlt : k < 3
    · obtain ⟨b, off, rfl, c⟩ := HI.out.at hlt
      obtain ⟨g, hg, hs⟩ := HS.out k hlt
      rw [hg] at c
      have hd : decide ((k : Int) < 3) = true := by simp; omega
      have hk0 : (0 : Int) ≤ k := by omega
      have hk3 : (k : Int) < 3 := by omega
      clear hg
      obtain ⟨s2, hs2⟩ : ∃ s2, s2 = (l.take (k + 1)).sum := ⟨_, rfl⟩
      rw [← hs2] at hs
      have HS2 := Lib.hid hs2
      clear hs2
      generalize (l.take k).sum = s1 at *
      go_wp2_with fail
      go_round
      case rel => exact ⟨k + 1, by omega, by go_num, by first | rw [← HS2.out, hs] | rw [← HS2.out]⟩
      case measure => simp [intOf]; omega
    · obtain rfl : k = 3 := by omega
      have hd : decide (((3 : Nat) : Int) < 3) = false := by decide
      go_wp2_with fail
      go_ret
      exact ⟨rfl, rfl⟩
/-- a slack by its three numbers, by value -/
abbrev s3v (g a k : Int) : Value := .agg #[.int .i64 g, .int .i64 a, .int .i64 k]
theorem is_three (w : World) (x y u : Int) : IS (w.alloc (.cells #[.int .i64 x, .int .i64 y, .int .i64 u] 3)) (.slice (some ⟨w.heap.size, 0, none⟩) 3 3) [x, y, u] := by
  have h := heap_alloc_new w (.cells #[.int .i64 x, .int .i64 y, .int .i64 u] 3)
  refine ⟨_, _, rfl, Nat.le_refl _, (by decide), (fun h => by cases h), fun _ => ⟨_, 0, rfl, fun i hi => ?_⟩⟩
  match i, hi with
  | 0, _ => exact cell_of_row _ _ 0 _ _ _ h
  | 1, _ => exact cell_of_row _ _ 1 _ _ _ h
  | 2, _ => exact cell_of_row _ _ 2 _ _ _ h
set_option maxHeartbeats 1000000 in
theorem left_any {g a k : Int} (hg : 0 ≤ g ∧ g ≤ 1099511627776) (ha : 0 ≤ a ∧ a ≤ 1099511627776) (hk : 0 ≤ k ∧ k ≤ 1099511627776) (w : World) :
    Calls Try.prog 61 #[s3v g a k] w (YI (g - a - k) w) := by
  have hB := ((Below.refl _ w).alloc (Nat.le_refl _) (.cells #[.int .i64 g, .int .i64 a, .int .i64 k] 81)).alloc (by simp) (.cells #[.int .i64 g, .int .i64 (-a), .int .i64 (-k)] 3)
  have HB := Lib.hid hB
  have HS := Lib.hid (sum_three (is_three (w.alloc (.cells #[.int .i64 g, .int .i64 a, .int .i64 k] 81)) g (-a) (-k)) (by omega) (by omega) (by omega))
  have HE : Hid (g + -a + -k = g - a - k) := by unfold Hid; omega
  have v1 : wrap64 (-a) = -a := by unfold wrap64; omega
  have v2 : wrap64 (-k) = -k := by unfold wrap64; omega
  clear hB hg ha hk
  rw [World.size_alloc] at HS
  go_enter Try.func61, Try.ntmps61
  go_wp2_with fail
  refine HS.out.mono ?_
  rintro e w1 ⟨rfl, rfl⟩
  go_wp2_with fail
  go_ret
  exact ⟨by rw [← HE.out]; rfl, HB.out⟩
set_option maxHeartbeats 1000000 in
theorem short_any {g a k : Int} (hg : 0 ≤ g ∧ g ≤ 1099511627776) (ha : 0 ≤ a ∧ a ≤ 1099511627776) (hk : 0 ≤ k ∧ k ≤ 1099511627776) (w : World) :
    Calls Try.prog 40 #[s3v g a k] w (YB (decide (0 < a) && decide (g - a - k < 0)) w) := by
  have hB := (Below.refl _ w).alloc (Nat.le_refl _) (.cells #[.int .i64 g, .int .i64 a, .int .i64 k] 81)
  have HB := Lib.hid hB
  have HL := Lib.hid (left_any hg ha hk (w.alloc (.cells #[.int .i64 g, .int .i64 a, .int .i64 k] 81)))
  clear hB hg ha hk
  cases h0 : decide (0 < a) with
  | false =>
    go_enter Try.func40, Try.ntmps40
    go_wp2_with fail
    go_ret
    exact ⟨rfl, HB.out⟩
  | true =>
    go_enter Try.func40, Try.ntmps40
    go_wp2_with fail
    refine HL.out.mono ?_
    rintro e w1 ⟨rfl, hb⟩
    have HB2 := Lib.hid (HB.out.trans (hb.mono HB.out.size))
    clear hb
    go_wp2_with fail
    go_ret
    exact ⟨by rw [Bool.true_and]; rfl, HB2.out⟩
end Go.Proofs.Ytbdiekolkniajaa
