/- The program's sum, over what is told of each. -/
import Derived.Test.YthhdfmpoebedcaaDemD
namespace Go.Proofs.Ythhdfmpoebedcaa
open Go.RowKit Tk De
set_option linter.unusedVariables false

/-- the first k numbers are written, the rest are nothing -/
def FN (cur : Array Value) (F : Nat → Nat) (k n : Nat) : Prop := cur = (((List.range k).map fun i => Value.int .i64 (F i)) ++ List.replicate (n - k) (Value.int .i64 0)).toArray
theorem FN.start (F : Nat → Nat) (n : Nat) : FN (madeCells #[.int .i64 0] n) F 0 n := by
  unfold FN madeCells
  apply Array.ext_getElem?
  intro i
  simp only [Array.getElem?_map, List.range_zero, List.map_nil, List.nil_append, Nat.sub_zero, List.getElem?_toArray]
  by_cases h : i < n
  · rw [Array.getElem?_eq_getElem (by simpa using h), List.getElem?_eq_getElem (by simpa using h)]
    simp [Nat.mod_one]
  · rw [Array.getElem?_eq_none (by simpa using h), List.getElem?_eq_none (by simpa using h)]
    rfl
theorem FN.size {cur : Array Value} {F : Nat → Nat} {k n : Nat} (h : FN cur F k n) (hk : k ≤ n) : cur.size = n := by rw [h]; simp; omega
theorem FN.step {cur : Array Value} {F : Nat → Nat} {k n : Nat} (h : FN cur F k n) (hk : k < n) : FN (cur.setIfInBounds k (.int .i64 (F k))) F (k + 1) n := by
  have hs := h.size (by omega)
  unfold FN at h ⊢
  apply Array.ext_getElem?
  intro i
  rw [Array.getElem?_setIfInBounds, h]
  simp only [List.getElem?_toArray, List.size_toArray, List.length_append, List.length_map, List.length_range, List.length_replicate]
  by_cases e : k = i
  · subst e
    rw [if_pos rfl, if_pos (by omega), List.getElem?_append_left (by simp)]
    simp
  · rw [if_neg e]
    by_cases hl : i < k
    · rw [List.getElem?_append_left (by simpa using hl), List.getElem?_append_left (by simp; omega)]
      rw [List.getElem?_map, List.getElem?_map, List.getElem?_range (by omega), List.getElem?_range (by omega)]
    · rw [List.getElem?_append_right (by simp; omega), List.getElem?_append_right (by simp; omega)]
      simp only [List.length_map, List.length_range]
      by_cases hn : i < n
      · rw [List.getElem?_replicate, List.getElem?_replicate, if_pos (by omega), if_pos (by omega)]
      · rw [List.getElem?_replicate, List.getElem?_replicate, if_neg (by omega), if_neg (by omega)]
/-- what they come to -/
def fs (F : Nat → Nat) (n : Nat) : List Int := (List.range n).map fun i => (F i : Int)
theorem fs_len (F : Nat → Nat) (n : Nat) : (fs F n).length = n := by simp [fs]
theorem FN.done {cur : Array Value} {F : Nat → Nat} {n : Nat} (h : FN cur F n n) : cur = ((fs F n).map (Value.int .i64)).toArray := by
  rw [h, fs, Nat.sub_self]
  simp [Function.comp_def]
def tot (F : Nat → Nat) : Nat → Nat
  | 0 => 0
  | k + 1 => tot F k + F k
theorem tot_mono (F : Nat → Nat) {k n : Nat} (h : k ≤ n) : tot F k ≤ tot F n := by
  induction h with
  | refl => exact Nat.le_refl _
  | step _ ih => exact Nat.le_trans ih (Nat.le_add_right _ _)
theorem fs_drop {F : Nat → Nat} {n k : Nat} (h : k < n) : (fs F n).drop k = (F k : Int) :: (fs F n).drop (k + 1) := by
  rw [drop_step _ _ (by rw [fs_len]; exact h)]
  simp [fs, List.getD, h]
theorem sumAll_fs {F : Nat → Nat} {n : Nat} (hb : tot F n ≤ 1099511627776) : ∀ (m k : Nat), k + m = n → sumAll (tot F k : Nat) ((fs F n).drop k) = (((tot F n : Nat) : Int), 0)
  | 0, k, h => by
    have hk : k = n := by omega
    subst hk
    rw [List.drop_of_length_le (by rw [fs_len]; exact Nat.le_refl _)]
    rfl
  | m + 1, k, h => by
    have h1 : tot F (k + 1) = tot F k + F k := rfl
    have h2 := tot_mono F (show k + 1 ≤ n by omega)
    have ih := sumAll_fs hb m (k + 1) (by omega)
    rw [fs_drop (by omega), sumAll, if_pos (by omega)]
    rw [h1] at ih
    push_cast at ih
    exact ih
theorem sumR_fs {F : Nat → Nat} {n : Nat} (hb : tot F n ≤ 1099511627776) : sumR (fs F n) = (((tot F n : Nat) : Int), 0) := by
  have hall : (fs F n).all tk = true := by
    rw [List.all_eq_true]
    intro x hx
    obtain ⟨i, hi, rfl⟩ := List.mem_map.1 hx
    have hi' : i < n := by simpa using hi
    have h1 : tot F (i + 1) = tot F i + F i := rfl
    have h2 := tot_mono F (show i + 1 ≤ n by omega)
    exact tk_yes (by omega) (by omega)
  rw [sumR_yes hall]
  have := sumAll_fs hb n 0 (by omega)
  rw [List.drop_zero] at this
  exact this
theorem dem_tot (P D J : Nat → Nat) (t : Nat) : ∀ n, tot (fun i => jobs (P i) (D i) t * J i) n = dem P D J t n
  | 0 => rfl
  | n + 1 => by unfold tot dem; rw [dem_tot]
theorem use_tot (P J : Nat → Nat) (T : Nat) : ∀ n, tot (fun i => T / P i * J i) n = use P J T n
  | 0 => rfl
  | n + 1 => by unfold tot use; rw [use_tot]
theorem infoIn : (Try.prog.info? 3).map (fun i => (i.zero, i.size, i.bytes)) = some (some (.int .i64 0), 1, 8) := by kernel_rfl
/-- numbers made whole, read as a row -/
theorem row_of {w : World} {g : Nat} {zs : List Int} (h : w.heap[g]? = some (.cells (zs.map (Value.int .i64)).toArray 3 (0, 0))) : Row w (some ⟨g, 0, none⟩) zs := by
  refine Or.inr ⟨g, 0, rfl, fun i hi => ?_⟩
  rw [cell_of_row w g (0 + i) _ _ _ h, List.getElem?_toArray, List.getElem?_map, Nat.zero_add, List.getElem?_eq_getElem hi]
  simp [List.getD, List.getElem?_eq_getElem hi]
set_option maxRecDepth 100000 in
set_option maxHeartbeats 2000000 in
theorem sum_of {w : World} {v : Value} {n tb : Nat} {P D J F : Nat → Nat} (h : AV w v n P D J) (hn : n ≤ 4) (hb : tot F n ≤ 1099511627776)
    (hf : ∀ i, i < n → ∀ W, Below w.heap.size w W → Calls Try.prog 49 #[ak (P i) (D i) (J i), .pointer (some ⟨tb, 0, none⟩)] W (YI (F i : Nat) W)) :
    Calls Try.prog 33 #[.func (.func 49) #[] #[.pointer (some ⟨tb, 0, none⟩)], v] w (YI (tot F n : Nat) w) := by
  obtain ⟨i0, hi, hz0, hz1, hz2⟩ := info_parts infoIn
  obtain ⟨b1, rfl, hc⟩ := h
  have HC := Lib.hid hc
  have HFF := Lib.hid hf
  have HS := Lib.hid (sumR_fs hb)
  clear hc hf hb
  go_enter Try.func33, Try.ntmps33
  go_wp2_with (at_make; refine wpList_make_full _ rfl _ _ 38 rfl w.heap.size 3 i0 _ 1 Try.underlying38 hi hz0 hz1 .i64 .i64 _ _ n rfl rfl rfl rfl (by rw [hz2]; omega) (by unfold maxLen; omega) (Nat.le_refl _) ?_; intro V hown hgrow)
  obtain ⟨hg0, hsz0⟩ := own_full hown
  have HB0 := Lib.hid ((Below.refl w.heap.size w).grown hgrow (Nat.le_refl _) (fun k hk => by cases hk))
  have hF0 : FN (madeCells (Value.int .i64 0).cells (n * 1)) F 0 n := by rw [Nat.mul_one]; exact FN.start F n
  have HG0 := Lib.hid hg0
  have HF0 := Lib.hid hF0
  obtain ⟨g, hgg⟩ : ∃ g, g = w.heap.size := ⟨_, rfl⟩
  rw [← hgg] at HG0 HB0 ⊢
  have HGG := Lib.hid hgg
  clear hown hgrow hg0 hgg hF0 hsz0
  generalize madeCells (Value.int .i64 0).cells (n * 1) = cur0 at *
  go_wp2_with fail
  go_loopw [15] (fun i wr => ∃ (k : Nat) (cur : Array Value), k ≤ n ∧ i = .int .i64 k ∧ Hid (FN cur F k n) ∧ Hid (wr.heap[g]? = some (.cells cur 3 (0, 0))) ∧ Hid (Below g w wr)) (fun i _ => n - (intOf i).toNat)
  case atStart => exact ⟨0, cur0, by omega, rfl, HF0, HG0, HB0⟩
  case round =>
    clear HG0 HB0 HF0
    obtain ⟨k, cur, hk, rfl, HF, HGc, HB⟩ := hrel
    by_cases hlt : k < n
    · have HB' : Hid (Below w.heap.size w wr) := by rw [← HGG.out]; exact HB.out
      obtain ⟨d0, d1, d2⟩ := HC.out k hlt
      have c0 := (HB'.out.cell (World.block_lt_of_cell? _ _ d0)).trans d0
      have c1 := (HB'.out.cell (World.block_lt_of_cell? _ _ d1)).trans d1
      have c2 := (HB'.out.cell (World.block_lt_of_cell? _ _ d2)).trans d2
      clear d0 d1 d2
      have HF2 := Lib.hid (HF.out.step hlt)
      have hcs := HF.out.size hk
      have HA := Lib.hid (HB'.out.alloc HB'.out.size (.cells #[.int .i64 (P k), .int .i64 (D k), .int .i64 (J k)] 71))
      have HC1 := Lib.hid (HFF.out k hlt _ HA.out)
      have HG2 := Lib.hid ((((Below.refl _ wr).alloc (Nat.le_refl _) (.cells #[.int .i64 (P k), .int .i64 (D k), .int .i64 (J k)] 71)).block g (lt_of_block HGc.out)).trans HGc.out)
      have HGl := Lib.hid (Nat.lt_of_lt_of_le (lt_of_block HGc.out) ((Below.refl wr.heap.size wr).alloc (Nat.le_refl _) (.cells #[.int .i64 (P k), .int .i64 (D k), .int .i64 (J k)] 71)).size)
      generalize P k = p at *
      generalize D k = d at *
      generalize J k = j at *
      generalize F k = f at *
      clear HB' HB HGc HF
      go_wp2_with fail
      refine HC1.out.mono ?_
      rintro e w2 ⟨rfl, hb⟩
      have HG3 := Lib.hid ((hb.block g HGl.out).trans HG2.out)
      have HB3 : Hid (Below g w w2) := by rw [HGG.out]; exact HA.out.trans (hb.mono HA.out.size)
      clear hb HC1 HG2 HA HGl c0 c1 c2
      obtain ⟨q0, f0⟩ := cell_at HG3.out (i := k) (by omega)
      have g0 : w2.frozen? ⟨g, k, none⟩ = false := frozen_of_row _ _ k _ _ HG3.out
      have HG4 : Hid ((w2.setCell ⟨g, k, none⟩ (.int .i64 f)).heap[g]? = some (.cells (cur.setIfInBounds k (.int .i64 f)) 3 (0, 0))) := heap_set_same HG3.out
      have HB4 : Hid (Below g w (w2.setCell ⟨g, k, none⟩ (.int .i64 f))) := HB3.out.setCell (p := ⟨g, k, none⟩) (Nat.le_refl _) _
      clear HG3 HB3
      go_wp2_with fail
      go_roundw
      case rel => exact ⟨k + 1, _, by omega, by go_num, HF2, HG4, HB4⟩
      case measure => simp [intOf]; omega
    · obtain rfl : k = n := by omega
      have hrow : Row wr (some ⟨g, 0, none⟩) (fs F k) := row_of (by rw [HGc.out, HF.out.done])
      have HSum := Lib.hid (sum_any (some ⟨g, 0, none⟩) k k (fs F k) wr (fs_len F k).symm (by omega) hrow)
      rw [HS.out] at HSum
      clear hrow
      have HB' : Hid (Below w.heap.size w wr) := by rw [← HGG.out]; exact HB.out
      go_wp2_with fail
      refine HSum.out.mono ?_
      rintro e w2 ⟨rfl, hb⟩
      have HB2 := Lib.hid (chn HB'.out hb)
      clear hb
      go_wp2_with fail
      go_ret
      exact ⟨rfl, HB2.out⟩
set_option maxRecDepth 100000 in
set_option maxHeartbeats 2000000 in
theorem sum_use {w : World} {v : Value} {n tb : Nat} {P D J F : Nat → Nat} (h : AV w v n P D J) (hn : n ≤ 4) (hb : tot F n ≤ 1099511627776)
    (hf : ∀ i, i < n → ∀ W, Below w.heap.size w W → Calls Try.prog 32 #[ak (P i) (D i) (J i), .pointer (some ⟨tb, 0, none⟩)] W (YI (F i : Nat) W)) :
    Calls Try.prog 33 #[.func (.func 32) #[] #[.pointer (some ⟨tb, 0, none⟩)], v] w (YI (tot F n : Nat) w) := by
  obtain ⟨i0, hi, hz0, hz1, hz2⟩ := info_parts infoIn
  obtain ⟨b1, rfl, hc⟩ := h
  have HC := Lib.hid hc
  have HFF := Lib.hid hf
  have HS := Lib.hid (sumR_fs hb)
  clear hc hf hb
  go_enter Try.func33, Try.ntmps33
  go_wp2_with (at_make; refine wpList_make_full _ rfl _ _ 38 rfl w.heap.size 3 i0 _ 1 Try.underlying38 hi hz0 hz1 .i64 .i64 _ _ n rfl rfl rfl rfl (by rw [hz2]; omega) (by unfold maxLen; omega) (Nat.le_refl _) ?_; intro V hown hgrow)
  obtain ⟨hg0, hsz0⟩ := own_full hown
  have HB0 := Lib.hid ((Below.refl w.heap.size w).grown hgrow (Nat.le_refl _) (fun k hk => by cases hk))
  have hF0 : FN (madeCells (Value.int .i64 0).cells (n * 1)) F 0 n := by rw [Nat.mul_one]; exact FN.start F n
  have HG0 := Lib.hid hg0
  have HF0 := Lib.hid hF0
  obtain ⟨g, hgg⟩ : ∃ g, g = w.heap.size := ⟨_, rfl⟩
  rw [← hgg] at HG0 HB0 ⊢
  have HGG := Lib.hid hgg
  clear hown hgrow hg0 hgg hF0 hsz0
  generalize madeCells (Value.int .i64 0).cells (n * 1) = cur0 at *
  go_wp2_with fail
  go_loopw [15] (fun i wr => ∃ (k : Nat) (cur : Array Value), k ≤ n ∧ i = .int .i64 k ∧ Hid (FN cur F k n) ∧ Hid (wr.heap[g]? = some (.cells cur 3 (0, 0))) ∧ Hid (Below g w wr)) (fun i _ => n - (intOf i).toNat)
  case atStart => exact ⟨0, cur0, by omega, rfl, HF0, HG0, HB0⟩
  case round =>
    clear HG0 HB0 HF0
    obtain ⟨k, cur, hk, rfl, HF, HGc, HB⟩ := hrel
    by_cases hlt : k < n
    · have HB' : Hid (Below w.heap.size w wr) := by rw [← HGG.out]; exact HB.out
      obtain ⟨d0, d1, d2⟩ := HC.out k hlt
      have c0 := (HB'.out.cell (World.block_lt_of_cell? _ _ d0)).trans d0
      have c1 := (HB'.out.cell (World.block_lt_of_cell? _ _ d1)).trans d1
      have c2 := (HB'.out.cell (World.block_lt_of_cell? _ _ d2)).trans d2
      clear d0 d1 d2
      have HF2 := Lib.hid (HF.out.step hlt)
      have hcs := HF.out.size hk
      have HA := Lib.hid (HB'.out.alloc HB'.out.size (.cells #[.int .i64 (P k), .int .i64 (D k), .int .i64 (J k)] 71))
      have HC1 := Lib.hid (HFF.out k hlt _ HA.out)
      have HG2 := Lib.hid ((((Below.refl _ wr).alloc (Nat.le_refl _) (.cells #[.int .i64 (P k), .int .i64 (D k), .int .i64 (J k)] 71)).block g (lt_of_block HGc.out)).trans HGc.out)
      have HGl := Lib.hid (Nat.lt_of_lt_of_le (lt_of_block HGc.out) ((Below.refl wr.heap.size wr).alloc (Nat.le_refl _) (.cells #[.int .i64 (P k), .int .i64 (D k), .int .i64 (J k)] 71)).size)
      generalize P k = p at *
      generalize D k = d at *
      generalize J k = j at *
      generalize F k = f at *
      clear HB' HB HGc HF
      go_wp2_with fail
      refine HC1.out.mono ?_
      rintro e w2 ⟨rfl, hb⟩
      have HG3 := Lib.hid ((hb.block g HGl.out).trans HG2.out)
      have HB3 : Hid (Below g w w2) := by rw [HGG.out]; exact HA.out.trans (hb.mono HA.out.size)
      clear hb HC1 HG2 HA HGl c0 c1 c2
      obtain ⟨q0, f0⟩ := cell_at HG3.out (i := k) (by omega)
      have g0 : w2.frozen? ⟨g, k, none⟩ = false := frozen_of_row _ _ k _ _ HG3.out
      have HG4 : Hid ((w2.setCell ⟨g, k, none⟩ (.int .i64 f)).heap[g]? = some (.cells (cur.setIfInBounds k (.int .i64 f)) 3 (0, 0))) := heap_set_same HG3.out
      have HB4 : Hid (Below g w (w2.setCell ⟨g, k, none⟩ (.int .i64 f))) := HB3.out.setCell (p := ⟨g, k, none⟩) (Nat.le_refl _) _
      clear HG3 HB3
      go_wp2_with fail
      go_roundw
      case rel => exact ⟨k + 1, _, by omega, by go_num, HF2, HG4, HB4⟩
      case measure => simp [intOf]; omega
    · obtain rfl : k = n := by omega
      have hrow : Row wr (some ⟨g, 0, none⟩) (fs F k) := row_of (by rw [HGc.out, HF.out.done])
      have HSum := Lib.hid (sum_any (some ⟨g, 0, none⟩) k k (fs F k) wr (fs_len F k).symm (by omega) hrow)
      rw [HS.out] at HSum
      clear hrow
      have HB' : Hid (Below w.heap.size w wr) := by rw [← HGG.out]; exact HB.out
      go_wp2_with fail
      refine HSum.out.mono ?_
      rintro e w2 ⟨rfl, hb⟩
      have HB2 := Lib.hid (chn HB'.out hb)
      clear hb
      go_wp2_with fail
      go_ret
      exact ⟨rfl, HB2.out⟩
end Go.Proofs.Ythhdfmpoebedcaa
