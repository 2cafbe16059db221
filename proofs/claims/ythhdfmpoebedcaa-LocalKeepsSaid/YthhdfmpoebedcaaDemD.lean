/- The tasks that are asked, in a row of the call's own. -/
import Derived.Test.YthhdfmpoebedcaaDemC
import Derived.OwnWalk
namespace Go.Proofs.Ythhdfmpoebedcaa
open Go.RowKit Tk De
set_option linter.unusedVariables false

theorem heap_set_same {w : World} {b i : Nat} {c : Array Value} {t : TypeId} {v : Value} (h : w.heap[b]? = some (.cells c t (0, 0))) : (w.setCell ⟨b, i, none⟩ v).heap[b]? = some (.cells (c.setIfInBounds i v) t (0, 0)) := heap_setCell_same _ _ _ _ _ _ h
theorem heap_set_other {w : World} {b b' i : Nat} {v : Value} (h : b' ≠ b) : (w.setCell ⟨b, i, none⟩ v).heap[b']? = w.heap[b']? := Below.heap_setCell _ _ _ _ h
/-- a row that was made whole -/
theorem own_full {w : World} {B e size n g : Nat} {xs : Array Value} (h : w.ownsRow B e size (.slice (some ⟨g, 0, none⟩) n n) n xs.toList) : w.heap[g]? = some (.cells xs e (0, 0)) ∧ xs.size = n * size := by
  have hl : xs.size = n * size := by have := h.1; rwa [Array.length_toList] at this
  rcases h.2 with ⟨h0, _⟩ | ⟨g', cap, cur, hv, _, hg, h1, h2, h3, h4⟩
  · cases h0
  · obtain ⟨rfl, rfl⟩ : g = g' ∧ n = cap := by simpa using hv
    have : cur = xs := by
      apply Array.toList_inj.1
      rw [← h4, List.take_of_length_le (by rw [Array.length_toList, h3]; exact Nat.le_refl _)]
    rw [← this]
    exact ⟨hg, h3⟩
theorem cell_at {w : World} {g i : Nat} {c : Array Value} {t : TypeId} (h : w.heap[g]? = some (.cells c t (0, 0))) (hi : i < c.size) : ∃ u, w.cell? ⟨g, i, none⟩ = some u :=
  ⟨c[i], cell_of_row _ _ i _ _ _ h |>.trans (Array.getElem?_eq_getElem hi)⟩
/-- tasks that are asked, to be read -/
def AV (w : World) (v : Value) (n : Nat) (P D J : Nat → Nat) : Prop :=
  ∃ g, v = .slice (some ⟨g, 0, none⟩) n n ∧ ∀ i, i < n → w.cell? ⟨g, i * 3, none⟩ = some (.int .i64 (P i)) ∧ w.cell? ⟨g, i * 3 + 1, none⟩ = some (.int .i64 (D i)) ∧ w.cell? ⟨g, i * 3 + 2, none⟩ = some (.int .i64 (J i))
theorem AV.below {w w' : World} {v : Value} {n : Nat} {P D J : Nat → Nat} (h : AV w v n P D J) (q : Below w.heap.size w w') : AV w' v n P D J := by
  obtain ⟨g, e, hc⟩ := h
  exact ⟨g, e, fun i hi => ⟨(q.cell (World.block_lt_of_cell? _ _ (hc i hi).1)).trans (hc i hi).1, (q.cell (World.block_lt_of_cell? _ _ (hc i hi).2.1)).trans (hc i hi).2.1, (q.cell (World.block_lt_of_cell? _ _ (hc i hi).2.2)).trans (hc i hi).2.2⟩⟩
/-- the first k of them are written -/
def FA (cur : Array Value) (P D J : Nat → Nat) (k : Nat) : Prop :=
  ∀ i, i < k → cur[i * 3]? = some (.int .i64 (P i)) ∧ cur[i * 3 + 1]? = some (.int .i64 (D i)) ∧ cur[i * 3 + 2]? = some (.int .i64 (J i))
def set3 (cur : Array Value) (o : Nat) (a b c : Value) : Array Value := ((cur.setIfInBounds o a).setIfInBounds (o + 1) b).setIfInBounds (o + 2) c
theorem set3_size (cur : Array Value) (o : Nat) (a b c : Value) : (set3 cur o a b c).size = cur.size := by simp [set3]
theorem FA.step {cur : Array Value} {P D J : Nat → Nat} {k n : Nat} (h : FA cur P D J k) (hs : cur.size = n * 3) (hk : k < n) : FA (set3 cur (k * 3) (.int .i64 (P k)) (.int .i64 (D k)) (.int .i64 (J k))) P D J (k + 1) := by
  intro i hi
  unfold set3
  simp only [Array.getElem?_setIfInBounds, Array.size_setIfInBounds]
  by_cases e : i = k
  · subst e
    refine ⟨?_, ?_, ?_⟩
    · rw [if_neg (by omega), if_neg (by omega), if_pos rfl, if_pos (by omega)]
    · rw [if_neg (by omega), if_pos rfl, if_pos (by omega)]
    · rw [if_pos rfl, if_pos (by omega)]
  · have := h i (by omega)
    refine ⟨?_, ?_, ?_⟩
    · rw [if_neg (by omega), if_neg (by omega), if_neg (by omega)]; exact this.1
    · rw [if_neg (by omega), if_neg (by omega), if_neg (by omega)]; exact this.2.1
    · rw [if_neg (by omega), if_neg (by omega), if_neg (by omega)]; exact this.2.2
theorem infoAk : (Try.prog.info? 71).map (fun i => (i.zero, i.size, i.bytes)) = some (some (.agg #[.int .i64 0, .int .i64 0, .int .i64 0]), 3, 24) := by kernel_rfl
set_option maxRecDepth 100000 in
set_option maxHeartbeats 2000000 in
theorem askers_any {w : World} {v u : Value} {n : Nat} {z : Nat → Nat → Int} {xs : List Int} (h : TK w v n z) (hx : IS w u xs) (hg : Goods n z xs) :
    Calls Try.prog 34 #[v, u] w (fun e w' => ∃ r, e = .returned r ∧ AV w' r n (per z) (dea z) (asks z xs) ∧ Below w.heap.size w w') := by
  obtain ⟨i0, hi, hz0, hz1, hz2⟩ := info_parts infoAk
  obtain ⟨a, cap, rfl, hn1, hn2⟩ := h.slice
  obtain ⟨b, cap2, rfl, hm1, hm2⟩ := hx.slice
  have hn4 := hg.t.n4
  have HP := Lib.hid h; have HX := Lib.hid hx; have HG := Lib.hid hg
  clear h hx
  rw [hg.l] at hm1 HX ⊢
  clear hg
  go_enter Try.func34, Try.ntmps34
  go_wp2_with (at_make; refine wpList_make_full _ rfl _ _ 74 rfl w.heap.size 71 i0 _ 3 Try.underlying74 hi hz0 hz1 .i64 .i64 _ _ n rfl rfl rfl rfl (by rw [hz2]; omega) (by unfold maxLen; omega) (Nat.le_refl _) ?_; intro V hown hgrow)
  obtain ⟨hg0, hsz0⟩ := own_full hown
  have HB0 := Lib.hid ((Below.refl w.heap.size w).grown hgrow (Nat.le_refl _) (fun k hk => by cases hk))
  have HG0 := Lib.hid hg0
  obtain ⟨g, hgg⟩ : ∃ g, g = w.heap.size := ⟨_, rfl⟩
  rw [← hgg] at HG0 HB0 ⊢
  have HGG := Lib.hid hgg
  clear hown hgrow hg0 hgg
  generalize madeCells (Value.agg #[.int .i64 0, .int .i64 0, .int .i64 0]).cells (n * 3) = cur0 at *
  go_wp2_with fail
  go_loopw [13] (fun i wr => ∃ (k : Nat) (cur : Array Value), k ≤ n ∧ i = .int .i64 k ∧ cur.size = n * 3 ∧ Hid (FA cur (per z) (dea z) (asks z xs) k) ∧ Hid (wr.heap[g]? = some (.cells cur 71 (0, 0))) ∧ Hid (Below g w wr)) (fun i _ => n - (intOf i).toNat)
  case atStart => exact ⟨0, cur0, by omega, rfl, hsz0, fun i hi => by omega, HG0, HB0⟩
  case round =>
    clear HG0 HB0 hsz0
    obtain ⟨k, cur, hk, rfl, hcs, HF, HGc, HB⟩ := hrel
    by_cases hlt : k < n
    · have HB' : Hid (Below w.heap.size w wr) := by rw [← HGG.out]; exact HB.out
      obtain ⟨b1, off, rfl, c⟩ := (HP.out.below HB'.out).at hlt
      obtain ⟨c0, c1, c2, c3, c4, c5, c6, c7⟩ := c
      have hxs := HX.out.below HB'.out
      rw [show n = xs.length from HG.out.l.symm] at hxs
      obtain ⟨b2, off2, rfl, cx⟩ := hxs.at (i := k) (by rw [HG.out.l]; exact hlt)
      obtain ⟨e0, e1, p0, p1, p2, p3, p4, p5⟩ := HG.out.t.at' k hlt
      obtain ⟨m0, m1, m2, m3⟩ := HG.out.m k hlt
      have HF2 := Lib.hid (HF.out.step hcs hlt)
      generalize per z k = P at *
      generalize dea z k = D at *
      generalize asks z xs k = J at *
      generalize xs.getD k 0 = x at *
      generalize z k 0 = z0 at *
      generalize z k 1 = z1 at *
      generalize z k 2 = z2 at *
      generalize z k 3 = z3 at *
      generalize z k 4 = z4 at *
      generalize z k 5 = z5 at *
      generalize z k 6 = z6 at *
      generalize z k 7 = z7 at *
      subst e0; subst e1
      have hcx := (((Below.refl _ wr).alloc (Nat.le_refl _) (.cells #[.int .i64 P, .int .i64 D, .int .i64 z2, .int .i64 z3, .int .i64 z4, .int .i64 z5, .int .i64 z6, .int .i64 z7] 36)).cell (World.block_lt_of_cell? _ _ cx)).trans cx
      have hbk := heap_alloc_new wr (.cells #[.int .i64 P, .int .i64 D, .int .i64 z2, .int .i64 z3, .int .i64 z4, .int .i64 z5, .int .i64 z6, .int .i64 z7] 36)
      have hgw := (((Below.refl _ wr).alloc (Nat.le_refl _) (.cells #[.int .i64 P, .int .i64 D, .int .i64 z2, .int .i64 z3, .int .i64 z4, .int .i64 z5, .int .i64 z6, .int .i64 z7] 36)).block g (lt_of_block HGc.out)).trans HGc.out
      have hbw := HB.out.alloc (by rw [HGG.out]; exact HB'.out.size) (.cells #[.int .i64 P, .int .i64 D, .int .i64 z2, .int .i64 z3, .int .i64 z4, .int .i64 z5, .int .i64 z6, .int .i64 z7] 36)
      have hsz : IntKind.i64.wrap (z2 + x) = z2 + x := IntWalk.i64_in _ (by omega)
      have HM2 := Lib.hid m2
      have mixed : Try.prog.follows .mixedOrders = true := by kernel_rfl
      clear HF HGc hxs HB HB' m2
      go_wp2_with fail
      generalize wr.alloc (.cells #[.int .i64 P, .int .i64 D, .int .i64 z2, .int .i64 z3, .int .i64 z4, .int .i64 z5, .int .i64 z6, .int .i64 z7] 36) = W at *
      have d0 : W.drew.cell? ⟨wr.heap.size, 0, none⟩ = some (.int .i64 P) := cell_of_row _ _ 0 _ _ _ hbk
      have d1 : W.drew.cell? ⟨wr.heap.size, 1, none⟩ = some (.int .i64 D) := cell_of_row _ _ 1 _ _ _ hbk
      have d2 : W.drew.cell? ⟨wr.heap.size, 2, none⟩ = some (.int .i64 z2) := cell_of_row _ _ 2 _ _ _ hbk
      have d3 : W.drew.cell? ⟨b2, off2 + k, none⟩ = some (.int .i64 x) := hcx
      have HG2 : Hid (W.drew.heap[g]? = some (.cells cur 71 (0, 0))) := hgw
      have HB2 : Hid (Below g w W.drew) := hbw.drew
      clear hcx hbk hgw hbw c0 c1 c2 c3 c4 c5 c6 c7 cx
      refine wp_region_still_tail 14 mixed (by kernel_rfl) ?_
      simp only [List.take_succ_cons, List.take_zero, List.drop_succ_cons, List.drop_zero]
      change wpStill _ _ W.drew _ _ _
      clear mixed
      repeat still_step
      refine wpStill_nil ?_
      obtain ⟨q0, f0⟩ : ∃ u, W.cell? ⟨g, k * 3, none⟩ = some u := cell_at HG2.out (i := k * 3) (by omega)
      obtain ⟨q1, f1⟩ : ∃ u, W.cell? ⟨g, k * 3 + 1, none⟩ = some u := cell_at HG2.out (i := k * 3 + 1) (by omega)
      obtain ⟨q2, f2⟩ : ∃ u, W.cell? ⟨g, k * 3 + 2, none⟩ = some u := cell_at HG2.out (i := k * 3 + 2) (by omega)
      have g0 : W.frozen? ⟨g, k * 3, none⟩ = false := frozen_of_row _ _ (k * 3) _ _ HG2.out
      have g1 : W.frozen? ⟨g, k * 3 + 1, none⟩ = false := frozen_of_row _ _ (k * 3 + 1) _ _ HG2.out
      have g2 : W.frozen? ⟨g, k * 3 + 2, none⟩ = false := frozen_of_row _ _ (k * 3 + 2) _ _ HG2.out
      go_wp2_with fail
      have HG3 : Hid ((((W.setCell ⟨g, k * 3, none⟩ (.int .i64 P)).setCell ⟨g, k * 3 + 1, none⟩ (.int .i64 D)).setCell ⟨g, k * 3 + 2, none⟩ (.int .i64 (z2 + x))).drew.heap[g]? = some (.cells (set3 cur (k * 3) (.int .i64 P) (.int .i64 D) (.int .i64 (z2 + x))) 71 (0, 0))) := heap_set_same (heap_set_same (heap_set_same HG2.out))
      have HB3 : Hid (Below g w (((W.setCell ⟨g, k * 3, none⟩ (.int .i64 P)).setCell ⟨g, k * 3 + 1, none⟩ (.int .i64 D)).setCell ⟨g, k * 3 + 2, none⟩ (.int .i64 (z2 + x))).drew) := ((HB2.out.setCell (p := ⟨g, k * 3, none⟩) (Nat.le_refl _) _).setCell (p := ⟨g, k * 3 + 1, none⟩) (Nat.le_refl _) _).setCell (p := ⟨g, k * 3 + 2, none⟩) (Nat.le_refl _) _
      rw [HM2.out] at HG3 HB3
      go_roundw
      case rel => rw [HM2.out]; exact ⟨k + 1, _, by omega, by go_num, by rw [set3_size]; exact hcs, HF2, HG3, HB3⟩
      case measure => simp [intOf]; omega
    · obtain rfl : k = n := by omega
      go_wp2_with fail
      go_ret
      refine ⟨_, rfl, ⟨g, rfl, fun i hi => ?_⟩, by rw [← HGG.out]; exact HB.out⟩
      have := HF.out i hi
      exact ⟨(cell_of_row _ _ (i * 3) _ _ _ HGc.out).trans this.1, (cell_of_row _ _ (i * 3 + 1) _ _ _ HGc.out).trans this.2.1, (cell_of_row _ _ (i * 3 + 2) _ _ _ HGc.out).trans this.2.2⟩
end Go.Proofs.Ythhdfmpoebedcaa
