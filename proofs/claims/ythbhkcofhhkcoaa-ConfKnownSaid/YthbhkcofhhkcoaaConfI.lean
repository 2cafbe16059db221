/- Tasks, ports that are read. -/
import Derived.Test.YthbhkcofhhkcoaaConfH
namespace Go.Proofs.Ythbhkcofhhkcoaa
open Go.RowKit Pk Cn
set_option linter.unusedVariables false

theorem nb_made (z : Array Value) (n : Nat) (hp : 0 < z.size) (hz : ∀ j, j < z.size → ∀ x, z[j]! ≠ .int .u8 x) : NB (madeCells z n) := by
  intro k x hk
  unfold madeCells at hk
  rw [Array.getElem?_map] at hk
  by_cases h : k < n
  · rw [Array.getElem?_eq_getElem (by simpa using h)] at hk
    simp only [Array.getElem_range, Option.map_some] at hk
    exact hz _ (Nat.mod_lt _ hp) x (Option.some.inj hk)
  · rw [Array.getElem?_eq_none (by simp; omega)] at hk
    cases hk
/-- a row that was made whole -/
theorem own_full {w : World} {B e size n g : Nat} {xs : Array Value} (h : w.ownsRow B e size (.slice (some ⟨g, 0, none⟩) n n) n xs.toList) : w.heap[g]? = some (.cells xs e (0, 0)) ∧ xs.size = n * size := by
  have hl : xs.size = n * size := by have := h.1; rwa [Array.length_toList] at this
  rcases h.2 with ⟨h0, _⟩ | ⟨g', cap, cur, hv, _, hg, h1, h2, h3, h4⟩
  · cases h0
  · obtain ⟨rfl, rfl⟩ : g = g' ∧ n = cap := by simpa using hv
    have : cur = xs := by
      apply Array.toList_inj.1
      rw [← h4, List.take_of_length_le (by rw [Array.length_toList, h3]; exact Nat.le_refl _)]
    rw [← this]
    exact ⟨hg, h3⟩
theorem getD_left {α : Type} {l m : List α} {d : α} {i : Nat} (h : i < l.length) : (l ++ m).getD i d = l.getD i d := by simp [List.getD, List.getElem?_append_left h]
theorem getD_last {α : Type} {l : List α} {x d : α} : (l ++ [x]).getD l.length d = x := by simp [List.getD]

theorem infoTk : (Try.prog.info? 30).map (fun i => (i.zero, i.size, i.bytes)) = some (some (.agg #[.int .i64 0, .int .i64 0, .int .i64 0, .int .i64 0, .int .i64 0, .int .i64 0, .int .i64 0, .int .i64 0]), 8, 64) := by kernel_rfl
/-- cells that hold these -/
def FTk (cur : Array Value) (l : List Tk) : Prop := ∀ i, i < l.length → ∀ j, j < 8 → cur[i * 8 + j]? = some (.int .i64 ((l.getD i tk0).row.getD j 0))
theorem FTk.step {cur : Array Value} {l : List Tk} {r : List Int} (h : FTk cur l) (hr : r.length = 8) (hs : l.length * 8 + 8 ≤ cur.size) : FTk (setRow cur (l.length * 8) r) (l ++ [Tk.of r]) := by
  intro i hi j hj
  rw [List.length_append, List.length_cons, List.length_nil] at hi
  by_cases hc : i < l.length
  · rw [setRow_out _ _ _ (by omega), getD_left hc]
    exact h i hc j hj
  · obtain rfl : i = l.length := by omega
    rw [setRow_in r cur _ (by omega) (by omega), getD_last, list8 hr]
set_option maxRecDepth 100000 in
set_option maxHeartbeats 4000000 in
theorem tasksR_any {w : World} {rb : Nat} {xs : List Int} {er : Int} (h : RD w rb xs er) : Calls Try.prog 56 #[.pointer (some ⟨rb, 0, none⟩)] w
    (fun e w' => ∃ v, e = .returned v ∧ TS w' w.heap.size v (rdTs (xs, er)).1 ∧ RD w' rb (rdTs (xs, er)).2.1 (rdTs (xs, er)).2.2 ∧ Only (fun b => b = rb) w w') := by
  obtain ⟨i0, hi, hz0, hz1, hz2⟩ := info_parts infoTk
  have hN := num_any h 4
  have hbys : Bys xs := by obtain ⟨_, _, _, h3⟩ := h; exact h3
  have hlt := h.lt
  have hrd : rdN xs er 4 = rd 4 (xs, er) := rfl
  rw [hrd] at hN
  have hres : rdTs (xs, er) = many rdTk (rd 4 (xs, er)).1.toNat (rd 4 (xs, er)).2 := rfl
  have h0 := rd_nonneg 4 (xs, er) hbys
  have h4 := rd_most 4 (by decide) (xs, er)
  obtain ⟨r, hr⟩ : ∃ r, r = rd 4 (xs, er) := ⟨_, rfl⟩
  rw [← hr] at hN hres h0 h4
  obtain ⟨N, s⟩ := r
  dsimp only at hN hres h0 h4
  obtain ⟨n, rfl⟩ := Int.eq_ofNat_of_zero_le h0
  rw [Int.toNat_natCast] at hres
  have hn4 : n ≤ 4 := by omega
  rw [hres]
  have HN := Lib.hid hN
  clear hN hrd hr hres h0 h4 h hbys
  go_enter Try.func56, Try.ntmps56
  go_wp2_with fail
  refine HN.out.mono ?_
  rintro e w1 ⟨rfl, hr1, ho1⟩
  have HR1 := Lib.hid hr1; have HO1 := Lib.hid ho1
  have hw1 := ho1.size
  clear hr1 ho1 HN
  go_wp2_with (at_make; refine wpList_make_full _ rfl _ _ 26 rfl w1.heap.size 30 i0 _ 8 Try.underlying26 hi hz0 hz1 .i64 .i64 _ _ n rfl rfl rfl rfl (by rw [hz2]; omega) (by unfold maxLen; omega) (Nat.le_refl _) ?_; intro V hown hgrow)
  obtain ⟨hg0, hsz0⟩ := own_full hown
  obtain ⟨g, hg⟩ : ∃ g, g = w1.heap.size := ⟨_, rfl⟩
  rw [← hg] at hg0 ⊢
  have hgw : w.heap.size ≤ g := by omega
  have hbV := (Below.refl w1.heap.size w1).grown hgrow (Nat.le_refl _) (fun k hk => by cases hk)
  have hgV : g < V.heap.size := (Array.getElem?_eq_some_iff.1 hg0).1
  have hrg : rb ≠ g := by omega
  have HRV : Hid (RD V rb (many rdTk 0 s).2.1 (many rdTk 0 s).2.2) := HR1.out.below hbV
  have HOV : Hid (Only (fun b => b = rb) w V) := HO1.out.trans (Only.of_below hbV)
  have HNB0 := Lib.hid (nb_made (Value.agg #[.int .i64 0, .int .i64 0, .int .i64 0, .int .i64 0, .int .i64 0, .int .i64 0, .int .i64 0, .int .i64 0]).cells (n * 8) (by decide) (by
    intro j hj x
    match j, hj with
    | 0, _ => exact fun h => by cases h | 1, _ => exact fun h => by cases h | 2, _ => exact fun h => by cases h | 3, _ => exact fun h => by cases h | 4, _ => exact fun h => by cases h | 5, _ => exact fun h => by cases h | 6, _ => exact fun h => by cases h | 7, _ => exact fun h => by cases h))
  have HF0 : Hid (FTk (madeCells (Value.agg #[.int .i64 0, .int .i64 0, .int .i64 0, .int .i64 0, .int .i64 0, .int .i64 0, .int .i64 0, .int .i64 0]).cells (n * 8)) (many rdTk 0 s).1) := fun i hi => by cases hi
  have HG0 := Lib.hid hg0
  clear hown hgrow hbV HR1 HO1 hg hw1 hg0
  generalize madeCells (Value.agg #[.int .i64 0, .int .i64 0, .int .i64 0, .int .i64 0, .int .i64 0, .int .i64 0, .int .i64 0, .int .i64 0]).cells (n * 8) = cur0 at *
  go_wp2_with fail
  go_loopw [11] (fun i wr => ∃ (k : Nat) (cur : Array Value), k ≤ n ∧ i = .int .i64 k ∧ cur.size = n * 8 ∧ Hid (NB cur) ∧ Hid (FTk cur (many rdTk k s).1) ∧ Hid (wr.heap[g]? = some (.cells cur 30 (0, 0))) ∧ Hid (RD wr rb (many rdTk k s).2.1 (many rdTk k s).2.2) ∧ Hid (Only (fun b => b = rb ∨ b = g) V wr)) (fun i _ => n - (intOf i).toNat)
  case atStart => exact ⟨0, cur0, by omega, rfl, hsz0, HNB0, HF0, HG0, HRV, Only.refl _ _⟩
  case round =>
    clear HNB0 HF0 HG0 HRV hsz0
    obtain ⟨k, cur, hk, rfl, hcs, HNB, HF, HG, HR, HW⟩ := hrel
    by_cases hkn : k < n
    · have hgl : g < wr.heap.size := (Array.getElem?_eq_some_iff.1 HG.out).1
      have hrl := HR.out.lt
      have hA := ((Below.refl wr.heap.size wr).drew).alloc (Nat.le_refl _) (.cells #[.pointer (some ⟨g, k * 8, none⟩), .pointer (some ⟨g, k * 8 + 1, none⟩), .pointer (some ⟨g, k * 8 + 2, none⟩), .pointer (some ⟨g, k * 8 + 3, none⟩), .pointer (some ⟨g, k * 8 + 4, none⟩), .pointer (some ⟨g, k * 8 + 5, none⟩), .pointer (some ⟨g, k * 8 + 6, none⟩), .pointer (some ⟨g, k * 8 + 7, none⟩)] 38)
      have HRR := Lib.hid (readRow_any (w := wr.drew.alloc (.cells #[.pointer (some ⟨g, k * 8, none⟩), .pointer (some ⟨g, k * 8 + 1, none⟩), .pointer (some ⟨g, k * 8 + 2, none⟩), .pointer (some ⟨g, k * 8 + 3, none⟩), .pointer (some ⟨g, k * 8 + 4, none⟩), .pointer (some ⟨g, k * 8 + 5, none⟩), .pointer (some ⟨g, k * 8 + 6, none⟩), .pointer (some ⟨g, k * 8 + 7, none⟩)] 38)) (q := wr.heap.size) (o := k * 8) (m := 8) (HR.out.below hA) ((hA.block g hgl).trans HG.out) HNB.out (by
        intro j hj
        refine (cell_of_row _ _ j _ _ _ (heap_alloc_new wr.drew _)).trans ?_
        match j, hj with
        | 0, _ => rfl | 1, _ => rfl | 2, _ => rfl | 3, _ => rfl | 4, _ => rfl | 5, _ => rfl | 6, _ => rfl | 7, _ => rfl) (by rw [hcs]; omega) (by decide) (Ne.symm hrg) (by omega) (by omega))
      have HL : Hid ((many rdTk k s).1.length = k) := many_length _ _ _
      have HS : Hid (many rdTk (k + 1) s = ((many rdTk k s).1 ++ [Tk.of (rowN 8 (many rdTk k s).2).1], (rowN 8 (many rdTk k s).2).2)) := many_snoc _ _ _
      have HWA : Hid (Only (fun b => b = rb ∨ b = g) V (wr.drew.alloc (.cells #[.pointer (some ⟨g, k * 8, none⟩), .pointer (some ⟨g, k * 8 + 1, none⟩), .pointer (some ⟨g, k * 8 + 2, none⟩), .pointer (some ⟨g, k * 8 + 3, none⟩), .pointer (some ⟨g, k * 8 + 4, none⟩), .pointer (some ⟨g, k * 8 + 5, none⟩), .pointer (some ⟨g, k * 8 + 6, none⟩), .pointer (some ⟨g, k * 8 + 7, none⟩)] 38))) := HW.out.drew.alloc _
      have hgi : k < n := hkn
      clear hA HR HG HW
      go_wp2_with fail
      go_region_held3 (fun w' => True) (first | trivial | go_keep)
        (first | (go_at_call 55; refine HRR.out.mono ?_; rintro e w2 ⟨rfl, hr2, hg2, ho2⟩))
      all_goals
        have HR2 : Hid (RD w2 rb (many rdTk (k + 1) s).2.1 (many rdTk (k + 1) s).2.2) := by rw [HS.out]; exact hr2
        have HG2 := Lib.hid hg2
        have HW2 : Hid (Only (fun b => b = rb ∨ b = g) V w2) := HWA.out.trans ho2
        have HF2 : Hid (FTk (setRow cur (k * 8) (rowN 8 (many rdTk k s).2).1) (many rdTk (k + 1) s).1) := by
          rw [HS.out]
          have := HF.out.step (r := (rowN 8 (many rdTk k s).2).1) (rowN_length 8 _) (by rw [HL.out, hcs]; omega)
          rw [HL.out] at this
          exact this
        have hcs2 : (setRow cur (k * 8) (rowN 8 (many rdTk k s).2).1).size = n * 8 := by rw [setRow_size]; exact hcs
        have HNB2 : Hid (NB (setRow cur (k * 8) (rowN 8 (many rdTk k s).2).1)) := HNB.out.row
        clear hr2 hg2 ho2 HRR HWA HF
        generalize setRow cur (k * 8) (rowN 8 (many rdTk k s).2).1 = cur2 at *
        go_wp2_with fail
        go_roundw
        case rel => exact ⟨k + 1, cur2, by omega, by go_num, hcs2, HNB2, HF2, HG2, HR2, HW2⟩
        case measure => simp [intOf]; omega
    · have e : k = n := by omega
      subst e
      have HL : Hid ((many rdTk k s).1.length = k) := many_length _ _ _
      have HFIN : Hid (TS wr w.heap.size (.slice (some ⟨g, 0, none⟩) k k) (many rdTk k s).1) := by
        refine ⟨some ⟨g, 0, none⟩, k, by rw [HL.out], by rw [HL.out]; exact Nat.le_refl _, by unfold maxLen; omega, (fun h => by cases h), fun hp => ⟨g, 0, rfl, hgw, fun i hi j hj => ?_⟩⟩
        rw [cell_of_row wr g _ _ _ _ HG.out, Nat.zero_add]
        exact HF.out i hi j hj
      have HOF : Hid (Only (fun b => b = rb) w wr) := HOV.out.trans' HW.out (fun j hj h => by rcases h with h | h <;> omega)
      clear HF HG HW
      go_wp2_with fail
      go_ret
      exact ⟨_, rfl, HFIN.out, HR.out, HOF.out⟩

theorem infoPo : (Try.prog.info? 32).map (fun i => (i.zero, i.size, i.bytes)) = some (some (.agg #[.int .i64 0, .int .i64 0, .int .i64 0, .int .i64 0, .int .i64 0, .int .i64 0]), 6, 48) := by kernel_rfl
/-- cells that hold these -/
def FPo (cur : Array Value) (l : List Po) : Prop := ∀ i, i < l.length → ∀ j, j < 6 → cur[i * 6 + j]? = some (.int .i64 ((l.getD i po0).row.getD j 0))
theorem FPo.step {cur : Array Value} {l : List Po} {r : List Int} (h : FPo cur l) (hr : r.length = 6) (hs : l.length * 6 + 6 ≤ cur.size) : FPo (setRow cur (l.length * 6) r) (l ++ [Po.of r]) := by
  intro i hi j hj
  rw [List.length_append, List.length_cons, List.length_nil] at hi
  by_cases hc : i < l.length
  · rw [setRow_out _ _ _ (by omega), getD_left hc]
    exact h i hc j hj
  · obtain rfl : i = l.length := by omega
    rw [setRow_in r cur _ (by omega) (by omega), getD_last, list6 hr]
set_option maxRecDepth 100000 in
set_option maxHeartbeats 4000000 in
theorem portsR_any {w : World} {rb : Nat} {xs : List Int} {er : Int} (h : RD w rb xs er) : Calls Try.prog 49 #[.pointer (some ⟨rb, 0, none⟩)] w
    (fun e w' => ∃ v, e = .returned v ∧ OS w' w.heap.size v (rdOs (xs, er)).1 ∧ RD w' rb (rdOs (xs, er)).2.1 (rdOs (xs, er)).2.2 ∧ Only (fun b => b = rb) w w') := by
  obtain ⟨i0, hi, hz0, hz1, hz2⟩ := info_parts infoPo
  have hN := num_any h 8
  have hbys : Bys xs := by obtain ⟨_, _, _, h3⟩ := h; exact h3
  have hlt := h.lt
  have hrd : rdN xs er 8 = rd 8 (xs, er) := rfl
  rw [hrd] at hN
  have hres : rdOs (xs, er) = many rdPo (rd 8 (xs, er)).1.toNat (rd 8 (xs, er)).2 := rfl
  have h0 := rd_nonneg 8 (xs, er) hbys
  have h4 := rd_most 8 (by decide) (xs, er)
  obtain ⟨r, hr⟩ : ∃ r, r = rd 8 (xs, er) := ⟨_, rfl⟩
  rw [← hr] at hN hres h0 h4
  obtain ⟨N, s⟩ := r
  dsimp only at hN hres h0 h4
  obtain ⟨n, rfl⟩ := Int.eq_ofNat_of_zero_le h0
  rw [Int.toNat_natCast] at hres
  have hn4 : n ≤ 8 := by omega
  rw [hres]
  have HN := Lib.hid hN
  clear hN hrd hr hres h0 h4 h hbys
  go_enter Try.func49, Try.ntmps49
  go_wp2_with fail
  refine HN.out.mono ?_
  rintro e w1 ⟨rfl, hr1, ho1⟩
  have HR1 := Lib.hid hr1; have HO1 := Lib.hid ho1
  have hw1 := ho1.size
  clear hr1 ho1 HN
  go_wp2_with (at_make; refine wpList_make_full _ rfl _ _ 23 rfl w1.heap.size 32 i0 _ 6 Try.underlying23 hi hz0 hz1 .i64 .i64 _ _ n rfl rfl rfl rfl (by rw [hz2]; omega) (by unfold maxLen; omega) (Nat.le_refl _) ?_; intro V hown hgrow)
  obtain ⟨hg0, hsz0⟩ := own_full hown
  obtain ⟨g, hg⟩ : ∃ g, g = w1.heap.size := ⟨_, rfl⟩
  rw [← hg] at hg0 ⊢
  have hgw : w.heap.size ≤ g := by omega
  have hbV := (Below.refl w1.heap.size w1).grown hgrow (Nat.le_refl _) (fun k hk => by cases hk)
  have hgV : g < V.heap.size := (Array.getElem?_eq_some_iff.1 hg0).1
  have hrg : rb ≠ g := by omega
  have HRV : Hid (RD V rb (many rdPo 0 s).2.1 (many rdPo 0 s).2.2) := HR1.out.below hbV
  have HOV : Hid (Only (fun b => b = rb) w V) := HO1.out.trans (Only.of_below hbV)
  have HNB0 := Lib.hid (nb_made (Value.agg #[.int .i64 0, .int .i64 0, .int .i64 0, .int .i64 0, .int .i64 0, .int .i64 0]).cells (n * 6) (by decide) (by
    intro j hj x
    match j, hj with
    | 0, _ => exact fun h => by cases h | 1, _ => exact fun h => by cases h | 2, _ => exact fun h => by cases h | 3, _ => exact fun h => by cases h | 4, _ => exact fun h => by cases h | 5, _ => exact fun h => by cases h))
  have HF0 : Hid (FPo (madeCells (Value.agg #[.int .i64 0, .int .i64 0, .int .i64 0, .int .i64 0, .int .i64 0, .int .i64 0]).cells (n * 6)) (many rdPo 0 s).1) := fun i hi => by cases hi
  have HG0 := Lib.hid hg0
  clear hown hgrow hbV HR1 HO1 hg hw1 hg0
  generalize madeCells (Value.agg #[.int .i64 0, .int .i64 0, .int .i64 0, .int .i64 0, .int .i64 0, .int .i64 0]).cells (n * 6) = cur0 at *
  go_wp2_with fail
  go_loopw [11] (fun i wr => ∃ (k : Nat) (cur : Array Value), k ≤ n ∧ i = .int .i64 k ∧ cur.size = n * 6 ∧ Hid (NB cur) ∧ Hid (FPo cur (many rdPo k s).1) ∧ Hid (wr.heap[g]? = some (.cells cur 32 (0, 0))) ∧ Hid (RD wr rb (many rdPo k s).2.1 (many rdPo k s).2.2) ∧ Hid (Only (fun b => b = rb ∨ b = g) V wr)) (fun i _ => n - (intOf i).toNat)
  case atStart => exact ⟨0, cur0, by omega, rfl, hsz0, HNB0, HF0, HG0, HRV, Only.refl _ _⟩
  case round =>
    clear HNB0 HF0 HG0 HRV hsz0
    obtain ⟨k, cur, hk, rfl, hcs, HNB, HF, HG, HR, HW⟩ := hrel
    by_cases hkn : k < n
    · have hgl : g < wr.heap.size := (Array.getElem?_eq_some_iff.1 HG.out).1
      have hrl := HR.out.lt
      have hA := ((Below.refl wr.heap.size wr).drew).alloc (Nat.le_refl _) (.cells #[.pointer (some ⟨g, k * 6, none⟩), .pointer (some ⟨g, k * 6 + 1, none⟩), .pointer (some ⟨g, k * 6 + 2, none⟩), .pointer (some ⟨g, k * 6 + 3, none⟩), .pointer (some ⟨g, k * 6 + 4, none⟩), .pointer (some ⟨g, k * 6 + 5, none⟩)] 38)
      have HRR := Lib.hid (readRow_any (w := wr.drew.alloc (.cells #[.pointer (some ⟨g, k * 6, none⟩), .pointer (some ⟨g, k * 6 + 1, none⟩), .pointer (some ⟨g, k * 6 + 2, none⟩), .pointer (some ⟨g, k * 6 + 3, none⟩), .pointer (some ⟨g, k * 6 + 4, none⟩), .pointer (some ⟨g, k * 6 + 5, none⟩)] 38)) (q := wr.heap.size) (o := k * 6) (m := 6) (HR.out.below hA) ((hA.block g hgl).trans HG.out) HNB.out (by
        intro j hj
        refine (cell_of_row _ _ j _ _ _ (heap_alloc_new wr.drew _)).trans ?_
        match j, hj with
        | 0, _ => rfl | 1, _ => rfl | 2, _ => rfl | 3, _ => rfl | 4, _ => rfl | 5, _ => rfl) (by rw [hcs]; omega) (by decide) (Ne.symm hrg) (by omega) (by omega))
      have HL : Hid ((many rdPo k s).1.length = k) := many_length _ _ _
      have HS : Hid (many rdPo (k + 1) s = ((many rdPo k s).1 ++ [Po.of (rowN 6 (many rdPo k s).2).1], (rowN 6 (many rdPo k s).2).2)) := many_snoc _ _ _
      have HWA : Hid (Only (fun b => b = rb ∨ b = g) V (wr.drew.alloc (.cells #[.pointer (some ⟨g, k * 6, none⟩), .pointer (some ⟨g, k * 6 + 1, none⟩), .pointer (some ⟨g, k * 6 + 2, none⟩), .pointer (some ⟨g, k * 6 + 3, none⟩), .pointer (some ⟨g, k * 6 + 4, none⟩), .pointer (some ⟨g, k * 6 + 5, none⟩)] 38))) := HW.out.drew.alloc _
      have hgi : k < n := hkn
      clear hA HR HG HW
      go_wp2_with fail
      go_region_held3 (fun w' => True) (first | trivial | go_keep)
        (first | (go_at_call 55; refine HRR.out.mono ?_; rintro e w2 ⟨rfl, hr2, hg2, ho2⟩))
      all_goals
        have HR2 : Hid (RD w2 rb (many rdPo (k + 1) s).2.1 (many rdPo (k + 1) s).2.2) := by rw [HS.out]; exact hr2
        have HG2 := Lib.hid hg2
        have HW2 : Hid (Only (fun b => b = rb ∨ b = g) V w2) := HWA.out.trans ho2
        have HF2 : Hid (FPo (setRow cur (k * 6) (rowN 6 (many rdPo k s).2).1) (many rdPo (k + 1) s).1) := by
          rw [HS.out]
          have := HF.out.step (r := (rowN 6 (many rdPo k s).2).1) (rowN_length 6 _) (by rw [HL.out, hcs]; omega)
          rw [HL.out] at this
          exact this
        have hcs2 : (setRow cur (k * 6) (rowN 6 (many rdPo k s).2).1).size = n * 6 := by rw [setRow_size]; exact hcs
        have HNB2 : Hid (NB (setRow cur (k * 6) (rowN 6 (many rdPo k s).2).1)) := HNB.out.row
        clear hr2 hg2 ho2 HRR HWA HF
        generalize setRow cur (k * 6) (rowN 6 (many rdPo k s).2).1 = cur2 at *
        go_wp2_with fail
        go_roundw
        case rel => exact ⟨k + 1, cur2, by omega, by go_num, hcs2, HNB2, HF2, HG2, HR2, HW2⟩
        case measure => simp [intOf]; omega
    · have e : k = n := by omega
      subst e
      have HL : Hid ((many rdPo k s).1.length = k) := many_length _ _ _
      have HFIN : Hid (OS wr w.heap.size (.slice (some ⟨g, 0, none⟩) k k) (many rdPo k s).1) := by
        refine ⟨some ⟨g, 0, none⟩, k, by rw [HL.out], by rw [HL.out]; exact Nat.le_refl _, by unfold maxLen; omega, (fun h => by cases h), fun hp => ⟨g, 0, rfl, hgw, fun i hi j hj => ?_⟩⟩
        rw [cell_of_row wr g _ _ _ _ HG.out, Nat.zero_add]
        exact HF.out i hi j hj
      have HOF : Hid (Only (fun b => b = rb) w wr) := HOV.out.trans' HW.out (fun j hj h => by rcases h with h | h <;> omega)
      clear HF HG HW
      go_wp2_with fail
      go_ret
      exact ⟨_, rfl, HFIN.out, HR.out, HOF.out⟩

end Go.Proofs.Ythbhkcofhhkcoaa
