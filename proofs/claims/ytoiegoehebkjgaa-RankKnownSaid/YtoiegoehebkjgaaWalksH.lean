/- Bring, EqInts, works: the chapter's rank. -/
import Derived.Test.YtoiegoehebkjgaaWalksG
namespace Go.Proofs.Ytoiegoehebkjgaa
open Go.RowKit Rk
set_option linter.unusedVariables false

/-- a number, brought to be from 0 to below n -/
def bringN (a n : Int) : Int := if a.tmod n < 0 then a.tmod n + n else a.tmod n
theorem bring_bd (a n : Int) (h : 1 ≤ n) : 0 ≤ bringN a n ∧ bringN a n < n := by
  unfold bringN
  have h1 := Int.lt_tmod_of_pos a (by omega : 0 < n)
  have h2 := Int.tmod_lt_of_pos a (by omega : 0 < n)
  split <;> omega
set_option maxHeartbeats 400000 in
theorem bring_any (a n : Int) (w : World) (h : 1 ≤ n) (hn : n ≤ 100000) : Calls Try.prog 15 #[.int .i64 a, .int .i64 n] w (IsN (bringN a n) w) := by
  unfold bringN
  have h1 := Int.lt_tmod_of_pos a (by omega : 0 < n)
  have h2 := Int.tmod_lt_of_pos a (by omega : 0 < n)
  have hz : (n == 0) = false := by simp; omega
  have hw64 : wrap64 (a.tmod n) = a.tmod n := IntWalk.wrap64_in _ ⟨by omega, by omega⟩
  by_cases hr : a.tmod n < 0
  · rw [if_pos hr]
    have hd : decide (a.tmod n < 0) = true := by simpa using hr
    go_enter Try.func15, Try.ntmps15
    go_wp2
    go_ret
    exact ⟨rfl, rfl⟩
  · rw [if_neg hr]
    have hd : decide (a.tmod n < 0) = false := by simpa using hr
    go_enter Try.func15, Try.ntmps15
    go_wp2
    go_ret
    exact ⟨rfl, rfl⟩

/-- the answer true; what was there is as it was -/
def TrueB (w : World) (e : Ending) (w' : World) : Prop := e = .returned (.bool true) ∧ Below w.heap.size w w'
set_option maxHeartbeats 400000 in
theorem eq_cells (b b' c c' n : Nat) (z : Nat → Int) (w : World) (hl : n ≤ 100000) (hc : ∀ i, i < n → w.cell? ⟨b, i, none⟩ = some (.int .i64 (z i))) (hc' : ∀ i, i < n → w.cell? ⟨b', i, none⟩ = some (.int .i64 (z i))) :
    Calls Try.prog 12 #[.slice (some ⟨b, 0, none⟩) n c, .slice (some ⟨b', 0, none⟩) n c'] w (TrueB w) := by
  have HC := Lib.hid hc; clear hc
  have HC' := Lib.hid hc'; clear hc'
  go_enter Try.func12, Try.ntmps12
  go_wp2
  go_loopw [5] (fun i wr => ∃ k : Nat, k ≤ n ∧ i = .int .i64 k ∧ Hid (Below w.heap.size w wr)) (fun i _ => n - (intOf i).toNat)
  case atStart => exact ⟨0, Nat.zero_le _, rfl, Below.refl _ _⟩
  case round =>
    obtain ⟨k, hk, rfl, HB⟩ := hrel
    by_cases hlt : k < n
    · have e1 := HC.out k hlt
      have e2 := HC'.out k hlt
      have hcell := (HB.out.cell (p := ⟨b, k, none⟩) (World.block_lt_of_cell? w _ e1)).trans e1
      have hcell' := (HB.out.cell (p := ⟨b', k, none⟩) (World.block_lt_of_cell? w _ e2)).trans e2
      clear e1 e2
      generalize z k = q at *
      go_wp2
      go_quiet (fail)
      go_wp2
      go_roundw
      case rel => exact ⟨k + 1, by omega, by go_num, below_drewN HB.out _⟩
      case measure => simp [intOf]; omega
    · go_wp2
      go_ret
      exact ⟨rfl, HB.out⟩

/-- a rank of the call's own: all its blocks are from B on -/
structure Own (B : Nat) (W w : World) (rb hb n : Nat) (m : Mp) : Prop where
  ex : ∃ g, RK w rb hb g n m ∧ B ≤ g
  b1 : B ≤ rb
  b2 : B ≤ hb
  bel : Below B W w
theorem Own.op {B : Nat} {W w w' : World} {rb hb g n n' : Nat} {m m' : Mp} {v : Value} {e : Ending} (h : Own B W w rb hb n m) (hB : B ≤ w.heap.size) (hg : B ≤ g) (o : OpP v rb hb g n' m' w e w') : Own B W w' rb hb n' m' := by
  obtain ⟨_, ⟨g', h1, h2⟩, h3⟩ := o
  refine ⟨⟨g', h1, by omega⟩, h.b1, h.b2, h.bel.trans (h3.below hB fun k _ hk => ?_)⟩
  rcases hk with rfl | rfl
  · exact h.b2
  · exact hg
theorem Own.below {B : Nat} {W w w' : World} {rb hb n : Nat} {m : Mp} (h : Own B W w rb hb n m) (hB : B ≤ w.heap.size) (b : Below w.heap.size w w') : Own B W w' rb hb n m := by
  obtain ⟨g, h1, h2⟩ := h.ex
  exact ⟨⟨g, h1.below b, h2⟩, h.b1, h.b2, h.bel.trans (b.mono hB)⟩
theorem Own.size {B : Nat} {W w : World} {rb hb n : Nat} {m : Mp} (h : Own B W w rb hb n m) : B ≤ w.heap.size := by
  obtain ⟨g, h1, h2⟩ := h.ex
  have := h1.lt2; omega
/-- a call of a rank of the call's own -/
def OwnP (v : Value) (B : Nat) (W : World) (rb hb n : Nat) (m : Mp) (e : Ending) (w' : World) : Prop := e = .returned v ∧ Own B W w' rb hb n m
theorem own_put {B : Nat} {W w : World} {rb hb n n' : Nat} {m m' : Mp} (id k r : Int) (h : Own B W w rb hb n m) (hN : n ≤ 100000) (e1 : putE m id = r) (e2 : putN m id n = n') (e3 : putM m id k = m') :
    Calls Try.prog 16 #[.pointer (some ⟨rb, 0, none⟩), .int .i64 id, .int .i64 k] w (OwnP (.int .i64 r) B W rb hb n' m') := by
  subst e1 e2 e3
  obtain ⟨g, h1, h2⟩ := h.ex
  exact (put_any w rb hb g n m id k h1 hN).mono fun e w' o => ⟨o.1, h.op h.size h2 o⟩
theorem own_low {B : Nat} {W w : World} {rb hb n : Nat} {m m' : Mp} (id k r : Int) (h : Own B W w rb hb n m) (hN : n ≤ 100000) (e1 : lowE m id k = r) (e3 : lowM m id k = m') :
    Calls Try.prog 17 #[.pointer (some ⟨rb, 0, none⟩), .int .i64 id, .int .i64 k] w (OwnP (.int .i64 r) B W rb hb n m') := by
  subst e1 e3
  obtain ⟨g, h1, h2⟩ := h.ex
  exact (lowr_any w rb hb g n m id k h1 hN).mono fun e w' o => ⟨o.1, h.op h.size h2 o⟩
theorem own_rem {B : Nat} {W w : World} {rb hb n n' : Nat} {m : Mp} (id : Int) (r : Bool) (h : Own B W w rb hb n m) (hN : n ≤ 100000) (e1 : (m id).isSome = r) (e2 : remN m id n = n') :
    Calls Try.prog 18 #[.pointer (some ⟨rb, 0, none⟩), .int .i64 id] w (OwnP (.bool r) B W rb hb n' (upd m id none)) := by
  subst e1 e2
  obtain ⟨g, h1, h2⟩ := h.ex
  exact (rem_any w rb hb g n m id h1 hN).mono fun e w' o => ⟨o.1, h.op h.size h2 o⟩
theorem own_pop {B : Nat} {W w : World} {rb hb n : Nat} {m : Mp} (x : En) (h : Own B W w rb hb (n + 1) m) (hN : n ≤ 100000) (hx : IsFirst m x) :
    Calls Try.prog 20 #[.pointer (some ⟨rb, 0, none⟩)] w (OwnP (.tuple #[.int .i64 x.1, .int .i64 x.2, .bool true]) B W rb hb n (upd m x.1 none)) := by
  obtain ⟨g, h1, h2⟩ := h.ex
  exact (pop_some w rb hb g n m x h1 hN hx).mono fun e w' o => ⟨o.1, h.op h.size h2 o⟩
theorem own_pop0 {B : Nat} {W w : World} {rb hb : Nat} {m : Mp} (h : Own B W w rb hb 0 m) :
    Calls Try.prog 20 #[.pointer (some ⟨rb, 0, none⟩)] w (OwnP (.tuple #[.int .i64 0, .int .i64 0, .bool false]) B W rb hb 0 m) := by
  obtain ⟨g, h1, h2⟩ := h.ex
  exact (pop_none w rb hb g m h1).mono fun e w' o => ⟨o.1, h.op h.size h2 o⟩
theorem own_len {B : Nat} {W w : World} {rb hb n : Nat} {m : Mp} (h : Own B W w rb hb n m) : Calls Try.prog 19 #[.pointer (some ⟨rb, 0, none⟩)] w (IsN n w) := by
  obtain ⟨g, h1, h2⟩ := h.ex
  exact len_any w rb hb g n m h1
theorem own_first {B : Nat} {W w : World} {rb hb n : Nat} {m : Mp} (x : En) (h : Own B W w rb hb (n + 1) m) (hx : IsFirst m x) :
    Calls Try.prog 21 #[.pointer (some ⟨rb, 0, none⟩)] w (OwnP (.tuple #[.int .i64 x.1, .int .i64 x.2, .bool true]) B W rb hb (n + 1) m) := by
  obtain ⟨g, h1, h2⟩ := h.ex
  exact (first_some w rb hb g (n + 1) m x h1 (by omega) hx).mono fun e w' ⟨he, hb⟩ => ⟨he, h.below h.size hb⟩
theorem own_new (W : World) : Calls Try.prog 7 #[] W (OwnP (.pointer (some ⟨W.heap.size + 1, 0, none⟩)) W.heap.size W (W.heap.size + 1) W.heap.size 0 (fun _ => none)) :=
  (new_any W).mono fun e w' ⟨he, h1, h2⟩ => ⟨he, ⟨⟨_, h1, Nat.le_refl _⟩, by omega, Nat.le_refl _, h2⟩⟩
/-- ids in order, of a rank of the call's own -/
def OwnI (B : Nat) (W : World) (rb hb n : Nat) (m : Mp) (w : World) (e : Ending) (w' : World) : Prop :=
  ∃ g P, e = .returned (.slice (some ⟨g, 0, none⟩) n n) ∧ Ord m P ∧ P.length = n ∧ w'.ownsRow w.heap.size 3 1 (.slice (some ⟨g, 0, none⟩) n n) n (idv P) ∧ Below w.heap.size w w' ∧ Own B W w' rb hb n m
theorem own_ids {B : Nat} {W w : World} {rb hb n : Nat} {m : Mp} (h : Own B W w rb hb n m) (hN : n ≤ 100000) : Calls Try.prog 11 #[.pointer (some ⟨rb, 0, none⟩)] w (OwnI B W rb hb n m w) := by
  obtain ⟨g, h1, h2⟩ := h.ex
  exact (ids_any w rb hb g n m h1 hN).mono fun e w' ⟨g', P, he, hO, hl, ho, hb⟩ => ⟨g', P, he, hO, hl, ho, hb, h.below h.size hb⟩
theorem ids_cell {w : World} {B g n : Nat} {P : List En} (h : w.ownsRow B 3 1 (.slice (some ⟨g, 0, none⟩) n n) n (idv P)) (hl : P.length = n) (i : Nat) (hi : i < n) : w.cell? ⟨g, i, none⟩ = some (.int .i64 (P.getD i (0, 0)).1) := by
  rw [h.cellAt i (by omega), idv, List.getElem?_map, List.getD_eq_getElem?_getD, List.getElem?_eq_getElem (by omega)]
  rfl


/-! the chapter's rank -/
def wm0 : Mp := fun _ => none
def wm1 : Mp := upd wm0 5 (some 9)
def wm2 : Mp := upd wm1 3 (some 9)
def wm3 : Mp := upd wm2 7 (some 4)
def wm4 : Mp := upd wm3 5 (some 2)
def wm5 : Mp := upd wm4 5 none
theorem wm1_at (j : Int) : wm1 j = if j = 5 then some 9 else none := rfl
theorem wm2_at (j : Int) : wm2 j = if j = 3 then some 9 else if j = 5 then some 9 else none := rfl
theorem wm3_at (j : Int) : wm3 j = if j = 7 then some 4 else if j = 3 then some 9 else if j = 5 then some 9 else none := rfl
theorem wm4_at (j : Int) : wm4 j = if j = 5 then some 2 else if j = 7 then some 4 else if j = 3 then some 9 else if j = 5 then some 9 else none := rfl
theorem wm5_at (j : Int) : wm5 j = if j = 5 then none else if j = 5 then some 2 else if j = 7 then some 4 else if j = 3 then some 9 else if j = 5 then some 9 else none := rfl
def wP : List En := [(7, 4), (3, 9), (5, 9)]
theorem wOrd : Ord wm3 wP := by
  refine ⟨by decide, fun id k => ?_⟩
  rw [wm3_at]
  simp only [wP, List.mem_cons, Prod.mk.injEq, List.not_mem_nil, or_false]
  by_cases h7 : id = 7
  · subst h7; simp; omega
  · by_cases h3 : id = 3
    · subst h3; simp; omega
    · by_cases h5 : id = 5
      · subst h5; simp; omega
      · simp [h7, h3, h5]
theorem wFirst4 : IsFirst wm4 (5, 2) := by
  refine ⟨rfl, fun id k h => ?_⟩
  rw [wm4_at] at h
  unfold Rk.le lt
  split at h
  · rename_i e; injection h with h; subst h e; decide
  · split at h
    · rename_i e; injection h with h; subst h e; decide
    · split at h
      · rename_i e; injection h with h; subst h e; decide
      · cases h
theorem wFirst5 : IsFirst wm5 (7, 4) := by
  refine ⟨rfl, fun id k h => ?_⟩
  rw [wm5_at] at h
  unfold Rk.le lt
  split at h
  · cases h
  · split at h
    · rename_i e; injection h with h; subst h e; decide
    · split at h
      · rename_i e; injection h with h; subst h e; decide
      · cases h

set_option maxRecDepth 100000 in
set_option maxHeartbeats 2000000 in
theorem works_any (w : World) : Calls Try.prog 14 #[] w (TrueB w) := by
  go_enter Try.func14, Try.ntmps14
  go_wp2_with fail
  refine (own_new w).mono ?_
  rintro e w1 ⟨rfl, h1⟩
  have H1 := Lib.hid h1; clear h1
  go_wp2_with fail
  refine (own_put 5 9 0 (n' := 1) (m' := wm1) H1.out (by omega) rfl rfl rfl).mono ?_
  rintro e w2 ⟨rfl, h1⟩
  have H2 := Lib.hid h1; clear h1 H1
  go_wp2_with fail
  refine (own_put 3 9 0 (n' := 2) (m' := wm2) H2.out (by omega) rfl rfl rfl).mono ?_
  rintro e w3 ⟨rfl, h1⟩
  have H3 := Lib.hid h1; clear h1 H2
  go_wp2_with fail
  refine (own_put 7 4 0 (n' := 3) (m' := wm3) H3.out (by omega) rfl rfl rfl).mono ?_
  rintro e w4 ⟨rfl, h1⟩
  have H4 := Lib.hid h1; clear h1 H3
  go_wp2_with fail
  refine (own_ids H4.out (by omega)).mono ?_
  rintro e w5 ⟨g, P, rfl, hO, hl, ho, hb, h1⟩
  obtain rfl : P = wP := hO.unique wOrd
  have HOw := Lib.hid ho
  have H5 := Lib.hid h1; clear h1 H4 hO hl ho hb
  go_wp2_with fail
  have HE : Hid (∀ i, i < 3 → (w5.alloc (.cells #[.int .i64 7, .int .i64 3, .int .i64 5] 3)).cell? ⟨w5.heap.size, i, none⟩ = some (.int .i64 (wP.getD i (0, 0)).1)) := by
    intro i hi
    rw [cell_of_row _ _ _ _ _ _ (heap_alloc_new w5 _)]
    match i, hi with
    | 0, _ => rfl
    | 1, _ => rfl
    | 2, _ => rfl
  refine (eq_cells g w5.heap.size 3 3 3 (fun i => (wP.getD i (0, 0)).1) _ (by omega) (fun i hi => ids_cell (HOw.out.alloc _) rfl i hi) HE.out).mono ?_
  rintro e w6 ⟨rfl, hb6⟩
  have H6 : Hid (Own w.heap.size w w6 (w.heap.size + 1) w.heap.size 3 wm3) := (H5.out.below H5.out.size ((Below.refl _ _).alloc (Nat.le_refl _) _)).below (by have := H5.out.size; simp; omega) hb6
  clear hb6 HE HOw H5
  go_wp2_with fail
  refine (own_put 5 1 141 (n' := 3) (m' := wm3) H6.out (by omega) rfl rfl rfl).mono ?_
  rintro e w7 ⟨rfl, h1⟩
  have H7 := Lib.hid h1; clear h1 H6
  go_wp2_with fail
  refine (own_low 5 10 2 (m' := wm3) H7.out (by omega) rfl rfl).mono ?_
  rintro e w8 ⟨rfl, h1⟩
  have H8 := Lib.hid h1; clear h1 H7
  go_wp2_with fail
  refine (own_low 5 2 0 (m' := wm4) H8.out (by omega) rfl rfl).mono ?_
  rintro e w9 ⟨rfl, h1⟩
  have H9 := Lib.hid h1; clear h1 H8
  go_wp2_with fail
  refine (own_first (5, 2) H9.out wFirst4).mono ?_
  rintro e w10 ⟨rfl, h1⟩
  have H10 := Lib.hid h1; clear h1 H9
  go_wp2_with fail
  refine (own_rem 5 true (n' := 2) H10.out (by omega) rfl rfl).mono ?_
  rintro e w11 ⟨rfl, h1⟩
  have H11 : Hid (Own w.heap.size w w11 (w.heap.size + 1) w.heap.size 2 wm5) := h1
  clear h1 H10
  go_wp2_with fail
  refine (own_rem 5 false (n' := 2) H11.out (by omega) rfl rfl).mono ?_
  rintro e w12 ⟨rfl, h1⟩
  rw [upd_none (show wm5 5 = none from rfl)] at h1
  have H12 := Lib.hid h1; clear h1 H11
  go_wp2_with fail
  refine (own_pop (7, 4) H12.out (by omega) wFirst5).mono ?_
  rintro e w13 ⟨rfl, h1⟩
  have H13 := Lib.hid h1; clear h1 H12
  go_wp2_with fail
  refine (own_len H13.out).mono ?_
  rintro e w14 ⟨rfl, rfl⟩
  go_wp2_with fail
  go_ret
  exact ⟨rfl, H13.out.bel⟩

end Go.Proofs.Ytoiegoehebkjgaa
