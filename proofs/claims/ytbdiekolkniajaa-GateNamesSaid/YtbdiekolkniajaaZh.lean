/- What is asked of one task: due, the two closures. -/
import Derived.Test.YtbdiekolkniajaaZd
import Derived.IntWalk
import Derived.Deep.RegionHeld3
import Derived.OwnWalk
namespace Go.Proofs.Ytbdiekolkniajaa
open Go.RowKit Tk De
set_option linter.unusedVariables false

/-- a task that may be asked, by value -/
abbrev ak (p d j : Int) : Value := .agg #[.int .i64 p, .int .i64 d, .int .i64 j]
theorem due_any (P D T : Nat) (j : Int) (w : World) (hP : 0 < P) (hP2 : P ≤ 64) (hD : 0 < D) (hD2 : D ≤ 64) (hT : T ≤ 1048576) : Calls Try.prog 87 #[ak P D j, .int .i64 T] w (YI (jobs P D T : Nat) w) := by
  have HB := Lib.hid ((Below.refl _ w).alloc (Nat.le_refl _) (.cells #[.int .i64 P, .int .i64 D, .int .i64 j] 97))
  cases h : decide (T < D) with
  | true =>
    have HJ : Hid (jobs P D T = 0) := if_pos (of_decide_eq_true h)
    go_enter Try.func87, Try.ntmps87
    go_wp2
    go_ret
    exact ⟨by rw [HJ.out]; rfl, HB.out⟩
  | false =>
    have hle : D ≤ T := by have := of_decide_eq_false h; omega
    have HJ : Hid (jobs P D T = 1 + (T - D) / P) := if_neg (of_decide_eq_false h)
    have hq : ((T : Int) - D) / P = ((T - D) / P : Nat) := by rw [← Int.ofNat_sub hle]; rfl
    have hq2 : (T - D) / P ≤ 1048576 := Nat.le_trans (Nat.div_le_self _ _) (by omega)
    generalize (T - D) / P = q at *
    have hp0 : ((P : Int) == 0) = false := by simp; omega
    have hw1 : wrap64 ((T : Int) - D) = T - D := by unfold wrap64; omega
    have hw2 : wrap64 (1 + (q : Int)) = 1 + q := by unfold wrap64; omega
    go_enter Try.func87, Try.ntmps87
    go_wp2
    go_ret
    exact ⟨by rw [HJ.out]; rfl, HB.out⟩
/-- four cells, and all that was there, are kept -/
def S4 (W w : World) (b t : Nat) (x y u v : Value) : Prop :=
  w.cell? ⟨b, 0, none⟩ = some x ∧ w.cell? ⟨b, 1, none⟩ = some y ∧ w.cell? ⟨b, 2, none⟩ = some u ∧ w.cell? ⟨t, 0, none⟩ = some v ∧ Below W.heap.size W w
theorem S4.drew {W w : World} {b t : Nat} {x y u v : Value} (h : S4 W w b t x y u v) : S4 W w.drew b t x y u v := ⟨h.1, h.2.1, h.2.2.1, h.2.2.2.1, h.2.2.2.2.drew⟩
theorem S4.below {W w w' : World} {b t : Nat} {x y u v : Value} (h : S4 W w b t x y u v) (q : Below w.heap.size w w') : S4 W w' b t x y u v :=
  ⟨(q.cell (World.block_lt_of_cell? _ _ h.1)).trans h.1, (q.cell (World.block_lt_of_cell? _ _ h.2.1)).trans h.2.1, (q.cell (World.block_lt_of_cell? _ _ h.2.2.1)).trans h.2.2.1, (q.cell (World.block_lt_of_cell? _ _ h.2.2.2.1)).trans h.2.2.2.1, chn h.2.2.2.2 q⟩
theorem S4.alloc {W w : World} {b t : Nat} {x y u v : Value} (h : S4 W w b t x y u v) (o : Obj) : S4 W (w.alloc o) b t x y u v := h.below ((Below.refl _ _).alloc (Nat.le_refl _) o)
/-- a task's box, made now -/
theorem S4.made {w : World} {t : Nat} {p d j : Int} {v : Value} (h : w.cell? ⟨t, 0, none⟩ = some v) :
    S4 w (w.alloc (.cells #[.int .i64 p, .int .i64 d, .int .i64 j] 97)) w.heap.size t (.int .i64 p) (.int .i64 d) (.int .i64 j) v :=
  ⟨cell_of_row _ _ 0 _ _ _ (heap_alloc_new w _), cell_of_row _ _ 1 _ _ _ (heap_alloc_new w _), cell_of_row _ _ 2 _ _ _ (heap_alloc_new w _), (((Below.refl _ w).alloc (Nat.le_refl _) _).cell (World.block_lt_of_cell? _ _ h)).trans h, (Below.refl _ w).alloc (Nat.le_refl _) _⟩
theorem keep_S4 {f : Nat} {xs : Array Value} {r : Value} {w W : World} {b t : Nat} {x y u v : Value} (h : S4 W w b t x y u v) (hc : Calls Try.prog f xs w (fun e w' => e = .returned r ∧ Below w.heap.size w w')) :
    Calls Try.prog f xs w (fun e w' => e = .returned r ∧ S4 W w' b t x y u v) := hc.mono fun _ _ ⟨he, hb⟩ => ⟨he, h.below hb⟩
theorem clo_any {w : World} {tb : Nat} (P D T J : Nat) (hP : 0 < P) (hP2 : P ≤ 64) (hD : 0 < D) (hD2 : D ≤ 64) (hT : T ≤ 1048576) (hJ : J ≤ 4160) (ht : w.cell? ⟨tb, 0, none⟩ = some (.int .i64 T)) :
    Calls Try.prog 86 #[ak P D J, .pointer (some ⟨tb, 0, none⟩)] w (YI (jobs P D T * J : Nat) w) := by
  have HD := Lib.hid (due_any P D T J · hP hP2 hD hD2 hT)
  have hp := prod_le (t := T) hP hD hJ hT
  have HS := Lib.hid (S4.made (p := P) (d := D) (j := J) ht)
  generalize jobs P D T = q at *
  have hpn : (q : Int) * J = ((q * J : Nat) : Int) := by push_cast; rfl
  have hw : IntKind.i64.wrap ((q : Int) * J) = q * J := IntWalk.i64_in _ (by rw [hpn]; omega)
  have HW := Lib.hid hw; have HPN := Lib.hid hpn
  clear hp hpn hw ht
  go_enter Try.func86, Try.ntmps86
  go_wp2_with fail
  generalize w.alloc (.cells #[.int .i64 P, .int .i64 D, .int .i64 J] 97) = w1 at *
  generalize w.heap.size = bb at *
  go_region_held3 (fun w' => w'.cell? ⟨bb, 0, none⟩ = some (.int .i64 P) ∧ w'.cell? ⟨bb, 1, none⟩ = some (.int .i64 D) ∧ w'.cell? ⟨bb, 2, none⟩ = some (.int .i64 J) ∧ w'.cell? ⟨tb, 0, none⟩ = some (.int .i64 T) ∧ Below w.heap.size w w')
    (first | assumption | exact S4.drew HS.out | exact HS.out | go_keep)
    (first | (go_at_call 87; refine (keep_S4 (by assumption) (HD.out _)).mono ?_; rintro e w' ⟨rfl, hq⟩))
  have HQ := Lib.hid hq.2.2.2.2
  go_wp2_with fail
  go_ret
  exact ⟨by rw [← HPN.out]; first | rfl | (rw [HW.out]; rfl), HQ.out⟩
theorem ucl_any {w : World} {tb : Nat} (P D T J : Nat) (hP : 0 < P) (hP2 : P ≤ 64) (hT : T ≤ 1048576) (hJ : J ≤ 4160) (ht : w.cell? ⟨tb, 0, none⟩ = some (.int .i64 T)) :
    Calls Try.prog 56 #[ak P D J, .pointer (some ⟨tb, 0, none⟩)] w (YI (T / P * J : Nat) w) := by
  have h1 := Nat.div_le_self T P
  have hp : T / P * J ≤ 1048576 * 4160 := Nat.mul_le_mul (by omega) hJ
  obtain ⟨c0, c1, c2, ct, hb⟩ := S4.made (p := P) (d := D) (j := J) ht
  have HB := Lib.hid hb
  have hq : (T : Int) / P = ((T / P : Nat) : Int) := rfl
  have hqt : (T : Int).tdiv P = ((T / P : Nat) : Int) := rfl
  generalize T / P = q at *
  have hpn : (q : Int) * J = ((q * J : Nat) : Int) := by push_cast; rfl
  have hw : IntKind.i64.wrap ((q : Int) * J) = q * J := IntWalk.i64_in _ (by rw [hpn]; omega)
  have hw0 : IntKind.i64.wrap (q : Int) = q := IntWalk.i64_in _ (by omega)
  have hp0 : ((P : Int) == 0) = false := by simp; omega
  have HW := Lib.hid hw; have HPN := Lib.hid hpn
  clear hp hpn ht h1 hb
  go_enter Try.func56, Try.ntmps56
  go_wp2_with fail
  generalize w.alloc (.cells #[.int .i64 P, .int .i64 D, .int .i64 J] 97) = w1 at *
  go_quiet (fail)
  go_wp2_with fail
  go_ret
  exact ⟨by rw [← HPN.out]; first | rfl | (rw [HW.out]; rfl), below_drewN HB.out _⟩
end Go.Proofs.Ytbdiekolkniajaa

namespace Go.Proofs.Ytbdiekolkniajaa
open Go.RowKit Tk De
set_option linter.unusedVariables false

theorem heap_set_same {w : World} {b i : Nat} {c : Array Value} {t : TypeId} {v : Value} (h : w.heap[b]? = some (.cells c t (0, 0))) : (w.setCell ⟨b, i, none⟩ v).heap[b]? = some (.cells (c.setIfInBounds i v) t (0, 0)) := heap_setCell_same _ _ _ _ _ _ h
theorem heap_set_other {w : World} {b b' i : Nat} {v : Value} (h : b' ≠ b) : (w.setCell ⟨b, i, none⟩ v).heap[b']? = w.heap[b']? := Below.heap_setCell _ _ _ _ h
/-- a row that was made whole -/
theorem own_full {w : World} {B e size n g : Nat} {xs : Array Value} (h : w.ownsRow B e size (.slice (some ⟨g, 0, none⟩) n n) n xs.toList) : w.heap[g]? = some (.cells xs e (0, 0)) ∧ xs.size = n * size := by
  have hl : xs.size = n * size := by have := h.1; rwa [Array.length_toList] at this
  rcases h.2 with ⟨h0, _⟩ | ⟨g', cap, cur, hv, _, hg, h1, h2, h3, h4⟩
  · cases h0
  · obtain ⟨rfl, rfl⟩ : g = g' ∧ n = cap := by simpa using hv
    have : cur = xs := by
      apply Array.toList_inj.1
      rw [← h4, List.take_of_length_le (by rw [Array.length_toList, h3]; exact Nat.le_refl _)]
    rw [← this]
    exact ⟨hg, h3⟩
theorem cell_at {w : World} {g i : Nat} {c : Array Value} {t : TypeId} (h : w.heap[g]? = some (.cells c t (0, 0))) (hi : i < c.size) : ∃ u, w.cell? ⟨g, i, none⟩ = some u :=
  ⟨c[i], cell_of_row _ _ i _ _ _ h |>.trans (Array.getElem?_eq_getElem hi)⟩
/-- tasks that are asked, to be read -/
def AV (w : World) (v : Value) (n : Nat) (P D J : Nat → Nat) : Prop :=
  ∃ g, v = .slice (some ⟨g, 0, none⟩) n n ∧ ∀ i, i < n → w.cell? ⟨g, i * 3, none⟩ = some (.int .i64 (P i)) ∧ w.cell? ⟨g, i * 3 + 1, none⟩ = some (.int .i64 (D i)) ∧ w.cell? ⟨g, i * 3 + 2, none⟩ = some (.int .i64 (J i))
theorem AV.below {w w' : World} {v : Value} {n : Nat} {P D J : Nat → Nat} (h : AV w v n P D J) (q : Below w.heap.size w w') : AV w' v n P D J := by
  obtain ⟨g, e, hc⟩ := h
  exact ⟨g, e, fun i hi => ⟨(q.cell (World.block_lt_of_cell? _ _ (hc i hi).1)).trans (hc i hi).1, (q.cell (World.block_lt_of_cell? _ _ (hc i hi).2.1)).trans (hc i hi).2.1, (q.cell (World.block_lt_of_cell? _ _ (hc i hi).2.2)).trans (hc i hi).2.2⟩⟩
/-- the first k of them are written -/
def FA (cur : Array Value) (P D J : Nat → Nat) (k : Nat) : Prop :=
  ∀ i, i < k → cur[i * 3]? = some (.int .i64 (P i)) ∧ cur[i * 3 + 1]? = some (.int .i64 (D i)) ∧ cur[i * 3 + 2]? = some (.int .i64 (J i))
def set3 (cur : Array Value) (o : Nat) (a b c : Value) : Array Value := ((cur.setIfInBounds o a).setIfInBounds (o + 1) b).setIfInBounds (o + 2) c
theorem set3_size (cur : Array Value) (o : Nat) (a b c : Value) : (set3 cur o a b c).size = cur.size := by simp [set3]
theorem FA.step {cur : Array Value} {P D J : Nat → Nat} {k n : Nat} (h : FA cur P D J k) (hs : cur.size = n * 3) (hk : k < n) : FA (set3 cur (k * 3) (.int .i64 (P k)) (.int .i64 (D k)) (.int .i64 (J k))) P D J (k + 1) := by
  intro i hi
  unfold set3
  simp only [Array.getElem?_setIfInBounds, Array.size_setIfInBounds]
  by_cases e : i = k
  · subst e
    refine ⟨?_, ?_, ?_⟩
    · rw [if_neg (by omega), if_neg (by omega), if_pos rfl, if_pos (by omega)]
    · rw [if_neg (by omega), if_pos rfl, if_pos (by omega)]
    · rw [if_pos rfl, if_pos (by omega)]
  · have := h i (by omega)
    refine ⟨?_, ?_, ?_⟩
    · rw [if_neg (by omega), if_neg (by omega), if_neg (by omega)]; exact this.1
    · rw [if_neg (by omega), if_neg (by omega), if_neg (by omega)]; exact this.2.1
    · rw [if_neg (by omega), if_neg (by omega), if_neg (by omega)]; exact this.2.2
theorem infoAk : (Try.prog.info? 97).map (fun i => (i.zero, i.size, i.bytes)) = some (some (.agg #[.int .i64 0, .int .i64 0, .int .i64 0]), 3, 24) := by kernel_rfl
set_option maxRecDepth 100000 in
set_option maxHeartbeats 2000000 in
theorem askers_any {w : World} {v u : Value} {n : Nat} {z : Nat → Nat → Int} {xs : List Int} (h : TK w v n z) (hx : IS w u xs) (hg : Goods n z xs) :
    Calls Try.prog 58 #[v, u] w (fun e w' => ∃ r, e = .returned r ∧ AV w' r n (per z) (dea z) (asks z xs) ∧ Below w.heap.size w w') := by
  obtain ⟨i0, hi, hz0, hz1, hz2⟩ := info_parts infoAk
  obtain ⟨a, cap, rfl, hn1, hn2⟩ := h.slice
  obtain ⟨b, cap2, rfl, hm1, hm2⟩ := hx.slice
  have hn4 := hg.t.n4
  have HP := Lib.hid h; have HX := Lib.hid hx; have HG := Lib.hid hg
  clear h hx
  rw [hg.l] at hm1 HX ⊢
  clear hg
  go_enter Try.func58, Try.ntmps58
  go_wp2_with (at_make; refine wpList_make_full _ rfl _ _ 100 rfl w.heap.size 97 i0 _ 3 Try.underlying100 hi hz0 hz1 .i64 .i64 _ _ n rfl rfl rfl rfl (by rw [hz2]; omega) (by unfold maxLen; omega) (Nat.le_refl _) ?_; intro V hown hgrow)
  obtain ⟨hg0, hsz0⟩ := own_full hown
  have HB0 := Lib.hid ((Below.refl w.heap.size w).grown hgrow (Nat.le_refl _) (fun k hk => by cases hk))
  have HG0 := Lib.hid hg0
  obtain ⟨g, hgg⟩ : ∃ g, g = w.heap.size := ⟨_, rfl⟩
  rw [← hgg] at HG0 HB0 ⊢
  have HGG := Lib.hid hgg
  clear hown hgrow hg0 hgg
  generalize madeCells (Value.agg #[.int .i64 0, .int .i64 0, .int .i64 0]).cells (n * 3) = cur0 at *
  go_wp2_with fail
  go_loopw [13] (fun i wr => ∃ (k : Nat) (cur : Array Value), k ≤ n ∧ i = .int .i64 k ∧ cur.size = n * 3 ∧ Hid (FA cur (per z) (dea z) (asks z xs) k) ∧ Hid (wr.heap[g]? = some (.cells cur 97 (0, 0))) ∧ Hid (Below g w wr)) (fun i _ => n - (intOf i).toNat)
  case atStart => exact ⟨0, cur0, by omega, rfl, hsz0, fun i hi => by omega, HG0, HB0⟩
  case round =>
    clear HG0 HB0 hsz0
    obtain ⟨k, cur, hk, rfl, hcs, HF, HGc, HB⟩ := hrel
    by_cases hlt : k < n
    · have HB' : Hid (Below w.heap.size w wr) := by rw [← HGG.out]; exact HB.out
      obtain ⟨b1, off, rfl, c⟩ := (HP.out.below HB'.out).at hlt
      obtain ⟨c0, c1, c2, c3, c4, c5, c6, c7⟩ := c
      have hxs := HX.out.below HB'.out
      rw [show n = xs.length from HG.out.l.symm] at hxs
      obtain ⟨b2, off2, rfl, cx⟩ := hxs.at (i := k) (by rw [HG.out.l]; exact hlt)
      obtain ⟨e0, e1, p0, p1, p2, p3, p4, p5⟩ := HG.out.t.at' k hlt
      obtain ⟨m0, m1, m2, m3⟩ := HG.out.m k hlt
      have HF2 := Lib.hid (HF.out.step hcs hlt)
      generalize per z k = P at *
      generalize dea z k = D at *
      generalize asks z xs k = J at *
      generalize xs.getD k 0 = x at *
      generalize z k 0 = z0 at *
      generalize z k 1 = z1 at *
      generalize z k 2 = z2 at *
      generalize z k 3 = z3 at *
      generalize z k 4 = z4 at *
      generalize z k 5 = z5 at *
      generalize z k 6 = z6 at *
      generalize z k 7 = z7 at *
      subst e0; subst e1
      have hcx := (((Below.refl _ wr).alloc (Nat.le_refl _) (.cells #[.int .i64 P, .int .i64 D, .int .i64 z2, .int .i64 z3, .int .i64 z4, .int .i64 z5, .int .i64 z6, .int .i64 z7] 40)).cell (World.block_lt_of_cell? _ _ cx)).trans cx
      have hbk := heap_alloc_new wr (.cells #[.int .i64 P, .int .i64 D, .int .i64 z2, .int .i64 z3, .int .i64 z4, .int .i64 z5, .int .i64 z6, .int .i64 z7] 40)
      have hgw := (((Below.refl _ wr).alloc (Nat.le_refl _) (.cells #[.int .i64 P, .int .i64 D, .int .i64 z2, .int .i64 z3, .int .i64 z4, .int .i64 z5, .int .i64 z6, .int .i64 z7] 40)).block g (lt_of_block HGc.out)).trans HGc.out
      have hbw := HB.out.alloc (by rw [HGG.out]; exact HB'.out.size) (.cells #[.int .i64 P, .int .i64 D, .int .i64 z2, .int .i64 z3, .int .i64 z4, .int .i64 z5, .int .i64 z6, .int .i64 z7] 40)
      have hsz : IntKind.i64.wrap (z2 + x) = z2 + x := IntWalk.i64_in _ (by omega)
      have HM2 := Lib.hid m2
      have mixed : Try.prog.follows .mixedOrders = true := by kernel_rfl
      clear HF HGc hxs HB HB' m2
      go_wp2_with fail
      generalize wr.alloc (.cells #[.int .i64 P, .int .i64 D, .int .i64 z2, .int .i64 z3, .int .i64 z4, .int .i64 z5, .int .i64 z6, .int .i64 z7] 40) = W at *
      have d0 : W.drew.cell? ⟨wr.heap.size, 0, none⟩ = some (.int .i64 P) := cell_of_row _ _ 0 _ _ _ hbk
      have d1 : W.drew.cell? ⟨wr.heap.size, 1, none⟩ = some (.int .i64 D) := cell_of_row _ _ 1 _ _ _ hbk
      have d2 : W.drew.cell? ⟨wr.heap.size, 2, none⟩ = some (.int .i64 z2) := cell_of_row _ _ 2 _ _ _ hbk
      have d3 : W.drew.cell? ⟨b2, off2 + k, none⟩ = some (.int .i64 x) := hcx
      have HG2 : Hid (W.drew.heap[g]? = some (.cells cur 97 (0, 0))) := hgw
      have HB2 : Hid (Below g w W.drew) := hbw.drew
      clear hcx hbk hgw hbw c0 c1 c2 c3 c4 c5 c6 c7 cx
      refine wp_region_still_tail 14 mixed (by kernel_rfl) ?_
      simp only [List.take_succ_cons, List.take_zero, List.drop_succ_cons, List.drop_zero]
      change wpStill _ _ W.drew _ _ _
      clear mixed
      repeat still_step
      refine wpStill_nil ?_
      obtain ⟨q0, f0⟩ : ∃ u, W.cell? ⟨g, k * 3, none⟩ = some u := cell_at HG2.out (i := k * 3) (by omega)
      obtain ⟨q1, f1⟩ : ∃ u, W.cell? ⟨g, k * 3 + 1, none⟩ = some u := cell_at HG2.out (i := k * 3 + 1) (by omega)
      obtain ⟨q2, f2⟩ : ∃ u, W.cell? ⟨g, k * 3 + 2, none⟩ = some u := cell_at HG2.out (i := k * 3 + 2) (by omega)
      have g0 : W.frozen? ⟨g, k * 3, none⟩ = false := frozen_of_row _ _ (k * 3) _ _ HG2.out
      have g1 : W.frozen? ⟨g, k * 3 + 1, none⟩ = false := frozen_of_row _ _ (k * 3 + 1) _ _ HG2.out
      have g2 : W.frozen? ⟨g, k * 3 + 2, none⟩ = false := frozen_of_row _ _ (k * 3 + 2) _ _ HG2.out
      go_wp2_with fail
      have HG3 : Hid ((((W.setCell ⟨g, k * 3, none⟩ (.int .i64 P)).setCell ⟨g, k * 3 + 1, none⟩ (.int .i64 D)).setCell ⟨g, k * 3 + 2, none⟩ (.int .i64 (z2 + x))).drew.heap[g]? = some (.cells (set3 cur (k * 3) (.int .i64 P) (.int .i64 D) (.int .i64 (z2 + x))) 97 (0, 0))) := heap_set_same (heap_set_same (heap_set_same HG2.out))
      have HB3 : Hid (Below g w (((W.setCell ⟨g, k * 3, none⟩ (.int .i64 P)).setCell ⟨g, k * 3 + 1, none⟩ (.int .i64 D)).setCell ⟨g, k * 3 + 2, none⟩ (.int .i64 (z2 + x))).drew) := ((HB2.out.setCell (p := ⟨g, k * 3, none⟩) (Nat.le_refl _) _).setCell (p := ⟨g, k * 3 + 1, none⟩) (Nat.le_refl _) _).setCell (p := ⟨g, k * 3 + 2, none⟩) (Nat.le_refl _) _
      rw [HM2.out] at HG3 HB3
      go_roundw
      case rel => rw [HM2.out]; exact ⟨k + 1, _, by omega, by go_num, by rw [set3_size]; exact hcs, HF2, HG3, HB3⟩
      case measure => simp [intOf]; omega
    · obtain rfl : k = n := by omega
      go_wp2_with fail
      go_ret
      refine ⟨_, rfl, ⟨g, rfl, fun i hi => ?_⟩, by rw [← HGG.out]; exact HB.out⟩
      have := HF.out i hi
      exact ⟨(cell_of_row _ _ (i * 3) _ _ _ HGc.out).trans this.1, (cell_of_row _ _ (i * 3 + 1) _ _ _ HGc.out).trans this.2.1, (cell_of_row _ _ (i * 3 + 2) _ _ _ HGc.out).trans this.2.2⟩
end Go.Proofs.Ytbdiekolkniajaa

namespace Go.Proofs.Ytbdiekolkniajaa
open Go.RowKit Tk De
set_option linter.unusedVariables false

/-- the first k numbers are written, the rest are nothing -/
def FN (cur : Array Value) (F : Nat → Nat) (k n : Nat) : Prop := cur = (((List.range k).map fun i => Value.int .i64 (F i)) ++ List.replicate (n - k) (Value.int .i64 0)).toArray
theorem FN.start (F : Nat → Nat) (n : Nat) : FN (madeCells #[.int .i64 0] n) F 0 n := by
  unfold FN madeCells
  apply Array.ext_getElem?
  intro i
  simp only [Array.getElem?_map, List.range_zero, List.map_nil, List.nil_append, Nat.sub_zero, List.getElem?_toArray]
  by_cases h : i < n
  · rw [Array.getElem?_eq_getElem (by simpa using h), List.getElem?_eq_getElem (by simpa using h)]
    simp [Nat.mod_one]
  · rw [Array.getElem?_eq_none (by simpa using h), List.getElem?_eq_none (by simpa using h)]
    rfl
theorem FN.size {cur : Array Value} {F : Nat → Nat} {k n : Nat} (h : FN cur F k n) (hk : k ≤ n) : cur.size = n := by rw [h]; simp; omega
theorem FN.step {cur : Array Value} {F : Nat → Nat} {k n : Nat} (h : FN cur F k n) (hk : k < n) : FN (cur.setIfInBounds k (.int .i64 (F k))) F (k + 1) n := by
  have hs := h.size (by omega)
  unfold FN at h ⊢
  apply Array.ext_getElem?
  intro i
  rw [Array.getElem?_setIfInBounds, h]
  simp only [List.getElem?_toArray, List.size_toArray, List.length_append, List.length_map, List.length_range, List.length_replicate]
  by_cases e : k = i
  · subst e
    rw [if_pos rfl, if_pos (by omega), List.getElem?_append_left (by simp)]
    simp
  · rw [if_neg e]
    by_cases hl : i < k
    · rw [List.getElem?_append_left (by simpa using hl), List.getElem?_append_left (by simp; omega)]
      rw [List.getElem?_map, List.getElem?_map, List.getElem?_range (by omega), List.getElem?_range (by omega)]
    · rw [List.getElem?_append_right (by simp; omega), List.getElem?_append_right (by simp; omega)]
      simp only [List.length_map, List.length_range]
      by_cases hn : i < n
      · rw [List.getElem?_replicate, List.getElem?_replicate, if_pos (by omega), if_pos (by omega)]
      · rw [List.getElem?_replicate, List.getElem?_replicate, if_neg (by omega), if_neg (by omega)]
/-- what they come to -/
def fs (F : Nat → Nat) (n : Nat) : List Int := (List.range n).map fun i => (F i : Int)
theorem fs_len (F : Nat → Nat) (n : Nat) : (fs F n).length = n := by simp [fs]
theorem FN.done {cur : Array Value} {F : Nat → Nat} {n : Nat} (h : FN cur F n n) : cur = ((fs F n).map (Value.int .i64)).toArray := by
  rw [h, fs, Nat.sub_self]
  simp [Function.comp_def]
def tot (F : Nat → Nat) : Nat → Nat
  | 0 => 0
  | k + 1 => tot F k + F k
theorem tot_mono (F : Nat → Nat) {k n : Nat} (h : k ≤ n) : tot F k ≤ tot F n := by
  induction h with
  | refl => exact Nat.le_refl _
  | step _ ih => exact Nat.le_trans ih (Nat.le_add_right _ _)
theorem fs_drop {F : Nat → Nat} {n k : Nat} (h : k < n) : (fs F n).drop k = (F k : Int) :: (fs F n).drop (k + 1) := by
  rw [drop_step _ _ (by rw [fs_len]; exact h)]
  simp [fs, List.getD, h]
theorem sumAll_fs {F : Nat → Nat} {n : Nat} (hb : tot F n ≤ 1099511627776) : ∀ (m k : Nat), k + m = n → sumAll (tot F k : Nat) ((fs F n).drop k) = (((tot F n : Nat) : Int), 0)
  | 0, k, h => by
    have hk : k = n := by omega
    subst hk
    rw [List.drop_of_length_le (by rw [fs_len]; exact Nat.le_refl _)]
    rfl
  | m + 1, k, h => by
    have h1 : tot F (k + 1) = tot F k + F k := rfl
    have h2 := tot_mono F (show k + 1 ≤ n by omega)
    have ih := sumAll_fs hb m (k + 1) (by omega)
    rw [fs_drop (by omega), sumAll, if_pos (by omega)]
    rw [h1] at ih
    push_cast at ih
    exact ih
theorem sumR_fs {F : Nat → Nat} {n : Nat} (hb : tot F n ≤ 1099511627776) : sumR (fs F n) = (((tot F n : Nat) : Int), 0) := by
  have hall : (fs F n).all tk = true := by
    rw [List.all_eq_true]
    intro x hx
    obtain ⟨i, hi, rfl⟩ := List.mem_map.1 hx
    have hi' : i < n := by simpa using hi
    have h1 : tot F (i + 1) = tot F i + F i := rfl
    have h2 := tot_mono F (show i + 1 ≤ n by omega)
    exact tk_yes (by omega) (by omega)
  rw [sumR_yes hall]
  have := sumAll_fs hb n 0 (by omega)
  rw [List.drop_zero] at this
  exact this
theorem dem_tot (P D J : Nat → Nat) (t : Nat) : ∀ n, tot (fun i => jobs (P i) (D i) t * J i) n = dem P D J t n
  | 0 => rfl
  | n + 1 => by unfold tot dem; rw [dem_tot]
theorem use_tot (P J : Nat → Nat) (T : Nat) : ∀ n, tot (fun i => T / P i * J i) n = use P J T n
  | 0 => rfl
  | n + 1 => by unfold tot use; rw [use_tot]
theorem infoIn : (Try.prog.info? 3).map (fun i => (i.zero, i.size, i.bytes)) = some (some (.int .i64 0), 1, 8) := by kernel_rfl
/-- numbers made whole, read as a row -/
theorem row_of {w : World} {g : Nat} {zs : List Int} (h : w.heap[g]? = some (.cells (zs.map (Value.int .i64)).toArray 3 (0, 0))) : Row w (some ⟨g, 0, none⟩) zs := by
  refine Or.inr ⟨g, 0, rfl, fun i hi => ?_⟩
  rw [cell_of_row w g (0 + i) _ _ _ h, List.getElem?_toArray, List.getElem?_map, Nat.zero_add, List.getElem?_eq_getElem hi]
  simp [List.getD, List.getElem?_eq_getElem hi]
set_option maxRecDepth 100000 in
set_option maxHeartbeats 2000000 in
theorem sum_of {w : World} {v : Value} {n tb : Nat} {P D J F : Nat → Nat} (h : AV w v n P D J) (hn : n ≤ 4) (hb : tot F n ≤ 1099511627776)
    (hf : ∀ i, i < n → ∀ W, Below w.heap.size w W → Calls Try.prog 86 #[ak (P i) (D i) (J i), .pointer (some ⟨tb, 0, none⟩)] W (YI (F i : Nat) W)) :
    Calls Try.prog 57 #[.func (.func 86) #[] #[.pointer (some ⟨tb, 0, none⟩)], v] w (YI (tot F n : Nat) w) := by
  obtain ⟨i0, hi, hz0, hz1, hz2⟩ := info_parts infoIn
  obtain ⟨b1, rfl, hc⟩ := h
  have HC := Lib.hid hc
  have HFF := Lib.hid hf
  have HS := Lib.hid (sumR_fs hb)
  clear hc hf hb
  go_enter Try.func57, Try.ntmps57
  go_wp2_with (at_make; refine wpList_make_full _ rfl _ _ 50 rfl w.heap.size 3 i0 _ 1 Try.underlying50 hi hz0 hz1 .i64 .i64 _ _ n rfl rfl rfl rfl (by rw [hz2]; omega) (by unfold maxLen; omega) (Nat.le_refl _) ?_; intro V hown hgrow)
  obtain ⟨hg0, hsz0⟩ := own_full hown
  have HB0 := Lib.hid ((Below.refl w.heap.size w).grown hgrow (Nat.le_refl _) (fun k hk => by cases hk))
  have hF0 : FN (madeCells (Value.int .i64 0).cells (n * 1)) F 0 n := by rw [Nat.mul_one]; exact FN.start F n
  have HG0 := Lib.hid hg0
  have HF0 := Lib.hid hF0
  obtain ⟨g, hgg⟩ : ∃ g, g = w.heap.size := ⟨_, rfl⟩
  rw [← hgg] at HG0 HB0 ⊢
  have HGG := Lib.hid hgg
  clear hown hgrow hg0 hgg hF0 hsz0
  generalize madeCells (Value.int .i64 0).cells (n * 1) = cur0 at *
  go_wp2_with fail
  go_loopw [15] (fun i wr => ∃ (k : Nat) (cur : Array Value), k ≤ n ∧ i = .int .i64 k ∧ Hid (FN cur F k n) ∧ Hid (wr.heap[g]? = some (.cells cur 3 (0, 0))) ∧ Hid (Below g w wr)) (fun i _ => n - (intOf i).toNat)
  case atStart => exact ⟨0, cur0, by omega, rfl, HF0, HG0, HB0⟩
  case round =>
    clear HG0 HB0 HF0
    obtain ⟨k, cur, hk, rfl, HF, HGc, HB⟩ := hrel
    by_cases hlt : k < n
    · have HB' : Hid (Below w.heap.size w wr) := by rw [← HGG.out]; exact HB.out
      obtain ⟨d0, d1, d2⟩ := HC.out k hlt
      have c0 := (HB'.out.cell (World.block_lt_of_cell? _ _ d0)).trans d0
      have c1 := (HB'.out.cell (World.block_lt_of_cell? _ _ d1)).trans d1
      have c2 := (HB'.out.cell (World.block_lt_of_cell? _ _ d2)).trans d2
      clear d0 d1 d2
      have HF2 := Lib.hid (HF.out.step hlt)
      have hcs := HF.out.size hk
      have HA := Lib.hid (HB'.out.alloc HB'.out.size (.cells #[.int .i64 (P k), .int .i64 (D k), .int .i64 (J k)] 97))
      have HC1 := Lib.hid (HFF.out k hlt _ HA.out)
      have HG2 := Lib.hid ((((Below.refl _ wr).alloc (Nat.le_refl _) (.cells #[.int .i64 (P k), .int .i64 (D k), .int .i64 (J k)] 97)).block g (lt_of_block HGc.out)).trans HGc.out)
      have HGl := Lib.hid (Nat.lt_of_lt_of_le (lt_of_block HGc.out) ((Below.refl wr.heap.size wr).alloc (Nat.le_refl _) (.cells #[.int .i64 (P k), .int .i64 (D k), .int .i64 (J k)] 97)).size)
      generalize P k = p at *
      generalize D k = d at *
      generalize J k = j at *
      generalize F k = f at *
      clear HB' HB HGc HF
      go_wp2_with fail
      refine HC1.out.mono ?_
      rintro e w2 ⟨rfl, hb⟩
      have HG3 := Lib.hid ((hb.block g HGl.out).trans HG2.out)
      have HB3 : Hid (Below g w w2) := by rw [HGG.out]; exact HA.out.trans (hb.mono HA.out.size)
      clear hb HC1 HG2 HA HGl c0 c1 c2
      obtain ⟨q0, f0⟩ := cell_at HG3.out (i := k) (by omega)
      have g0 : w2.frozen? ⟨g, k, none⟩ = false := frozen_of_row _ _ k _ _ HG3.out
      have HG4 : Hid ((w2.setCell ⟨g, k, none⟩ (.int .i64 f)).heap[g]? = some (.cells (cur.setIfInBounds k (.int .i64 f)) 3 (0, 0))) := heap_set_same HG3.out
      have HB4 : Hid (Below g w (w2.setCell ⟨g, k, none⟩ (.int .i64 f))) := HB3.out.setCell (p := ⟨g, k, none⟩) (Nat.le_refl _) _
      clear HG3 HB3
      go_wp2_with fail
      go_roundw
      case rel => exact ⟨k + 1, _, by omega, by go_num, HF2, HG4, HB4⟩
      case measure => simp [intOf]; omega
    · obtain rfl : k = n := by omega
      have hrow : Row wr (some ⟨g, 0, none⟩) (fs F k) := row_of (by rw [HGc.out, HF.out.done])
      have HSum := Lib.hid (sum_any (some ⟨g, 0, none⟩) k k (fs F k) wr (fs_len F k).symm (by omega) hrow)
      rw [HS.out] at HSum
      clear hrow
      have HB' : Hid (Below w.heap.size w wr) := by rw [← HGG.out]; exact HB.out
      go_wp2_with fail
      refine HSum.out.mono ?_
      rintro e w2 ⟨rfl, hb⟩
      have HB2 := Lib.hid (chn HB'.out hb)
      clear hb
      go_wp2_with fail
      go_ret
      exact ⟨rfl, HB2.out⟩
set_option maxRecDepth 100000 in
set_option maxHeartbeats 2000000 in
theorem sum_use {w : World} {v : Value} {n tb : Nat} {P D J F : Nat → Nat} (h : AV w v n P D J) (hn : n ≤ 4) (hb : tot F n ≤ 1099511627776)
    (hf : ∀ i, i < n → ∀ W, Below w.heap.size w W → Calls Try.prog 56 #[ak (P i) (D i) (J i), .pointer (some ⟨tb, 0, none⟩)] W (YI (F i : Nat) W)) :
    Calls Try.prog 57 #[.func (.func 56) #[] #[.pointer (some ⟨tb, 0, none⟩)], v] w (YI (tot F n : Nat) w) := by
  obtain ⟨i0, hi, hz0, hz1, hz2⟩ := info_parts infoIn
  obtain ⟨b1, rfl, hc⟩ := h
  have HC := Lib.hid hc
  have HFF := Lib.hid hf
  have HS := Lib.hid (sumR_fs hb)
  clear hc hf hb
  go_enter Try.func57, Try.ntmps57
  go_wp2_with (at_make; refine wpList_make_full _ rfl _ _ 50 rfl w.heap.size 3 i0 _ 1 Try.underlying50 hi hz0 hz1 .i64 .i64 _ _ n rfl rfl rfl rfl (by rw [hz2]; omega) (by unfold maxLen; omega) (Nat.le_refl _) ?_; intro V hown hgrow)
  obtain ⟨hg0, hsz0⟩ := own_full hown
  have HB0 := Lib.hid ((Below.refl w.heap.size w).grown hgrow (Nat.le_refl _) (fun k hk => by cases hk))
  have hF0 : FN (madeCells (Value.int .i64 0).cells (n * 1)) F 0 n := by rw [Nat.mul_one]; exact FN.start F n
  have HG0 := Lib.hid hg0
  have HF0 := Lib.hid hF0
  obtain ⟨g, hgg⟩ : ∃ g, g = w.heap.size := ⟨_, rfl⟩
  rw [← hgg] at HG0 HB0 ⊢
  have HGG := Lib.hid hgg
  clear hown hgrow hg0 hgg hF0 hsz0
  generalize madeCells (Value.int .i64 0).cells (n * 1) = cur0 at *
  go_wp2_with fail
  go_loopw [15] (fun i wr => ∃ (k : Nat) (cur : Array Value), k ≤ n ∧ i = .int .i64 k ∧ Hid (FN cur F k n) ∧ Hid (wr.heap[g]? = some (.cells cur 3 (0, 0))) ∧ Hid (Below g w wr)) (fun i _ => n - (intOf i).toNat)
  case atStart => exact ⟨0, cur0, by omega, rfl, HF0, HG0, HB0⟩
  case round =>
    clear HG0 HB0 HF0
    obtain ⟨k, cur, hk, rfl, HF, HGc, HB⟩ := hrel
    by_cases hlt : k < n
    · have HB' : Hid (Below w.heap.size w wr) := by rw [← HGG.out]; exact HB.out
      obtain ⟨d0, d1, d2⟩ := HC.out k hlt
      have c0 := (HB'.out.cell (World.block_lt_of_cell? _ _ d0)).trans d0
      have c1 := (HB'.out.cell (World.block_lt_of_cell? _ _ d1)).trans d1
      have c2 := (HB'.out.cell (World.block_lt_of_cell? _ _ d2)).trans d2
      clear d0 d1 d2
      have HF2 := Lib.hid (HF.out.step hlt)
      have hcs := HF.out.size hk
      have HA := Lib.hid (HB'.out.alloc HB'.out.size (.cells #[.int .i64 (P k), .int .i64 (D k), .int .i64 (J k)] 97))
      have HC1 := Lib.hid (HFF.out k hlt _ HA.out)
      have HG2 := Lib.hid ((((Below.refl _ wr).alloc (Nat.le_refl _) (.cells #[.int .i64 (P k), .int .i64 (D k), .int .i64 (J k)] 97)).block g (lt_of_block HGc.out)).trans HGc.out)
      have HGl := Lib.hid (Nat.lt_of_lt_of_le (lt_of_block HGc.out) ((Below.refl wr.heap.size wr).alloc (Nat.le_refl _) (.cells #[.int .i64 (P k), .int .i64 (D k), .int .i64 (J k)] 97)).size)
      generalize P k = p at *
      generalize D k = d at *
      generalize J k = j at *
      generalize F k = f at *
      clear HB' HB HGc HF
      go_wp2_with fail
      refine HC1.out.mono ?_
      rintro e w2 ⟨rfl, hb⟩
      have HG3 := Lib.hid ((hb.block g HGl.out).trans HG2.out)
      have HB3 : Hid (Below g w w2) := by rw [HGG.out]; exact HA.out.trans (hb.mono HA.out.size)
      clear hb HC1 HG2 HA HGl c0 c1 c2
      obtain ⟨q0, f0⟩ := cell_at HG3.out (i := k) (by omega)
      have g0 : w2.frozen? ⟨g, k, none⟩ = false := frozen_of_row _ _ k _ _ HG3.out
      have HG4 : Hid ((w2.setCell ⟨g, k, none⟩ (.int .i64 f)).heap[g]? = some (.cells (cur.setIfInBounds k (.int .i64 f)) 3 (0, 0))) := heap_set_same HG3.out
      have HB4 : Hid (Below g w (w2.setCell ⟨g, k, none⟩ (.int .i64 f))) := HB3.out.setCell (p := ⟨g, k, none⟩) (Nat.le_refl _) _
      clear HG3 HB3
      go_wp2_with fail
      go_roundw
      case rel => exact ⟨k + 1, _, by omega, by go_num, HF2, HG4, HB4⟩
      case measure => simp [intOf]; omega
    · obtain rfl : k = n := by omega
      have hrow : Row wr (some ⟨g, 0, none⟩) (fs F k) := row_of (by rw [HGc.out, HF.out.done])
      have HSum := Lib.hid (sum_any (some ⟨g, 0, none⟩) k k (fs F k) wr (fs_len F k).symm (by omega) hrow)
      rw [HS.out] at HSum
      clear hrow
      have HB' : Hid (Below w.heap.size w wr) := by rw [← HGG.out]; exact HB.out
      go_wp2_with fail
      refine HSum.out.mono ?_
      rintro e w2 ⟨rfl, hb⟩
      have HB2 := Lib.hid (chn HB'.out hb)
      clear hb
      go_wp2_with fail
      go_ret
      exact ⟨rfl, HB2.out⟩
end Go.Proofs.Ytbdiekolkniajaa

namespace Go.Proofs.Ytbdiekolkniajaa
open Go.RowKit Tk De
set_option linter.unusedVariables false

theorem of_any {w : World} {v u : Value} {n : Nat} {z : Nat → Nat → Int} {xs : List Int} (h : TK w v n z) (hx : IS w u xs) (t : Int) :
    Calls Try.prog 73 #[v, u, .int .i64 t] w (TwoB (ofR n z xs t).1 (ofR n z xs t).2 w) := by
  have hA := (Below.refl _ w).alloc (Nat.le_refl _) (.cells #[.int .i64 t] 3)
  have HCk := Lib.hid (check_any (h.below hA) (hx.below hA))
  have HT := Lib.hid (h.below hA); have HX := Lib.hid (hx.below hA)
  have HA := Lib.hid hA
  have HBox := Lib.hid (cell_of_row (w.alloc (.cells #[.int .i64 t] 3)) w.heap.size 0 _ _ _ (heap_alloc_new w (.cells #[.int .i64 t] 3)))
  clear h hx hA
  cases hc : chk n z xs with
  | false =>
    have hcE : chkE n z xs = 2 := by unfold chkE; rw [hc]; rfl
    rw [hcE] at HCk
    have HO := Lib.hid (ofR_no1 (t := t) hc)
    clear hc hcE
    go_enter Try.func73, Try.ntmps73
    go_wp2_with fail
    refine HCk.out.mono ?_
    rintro e w1 ⟨rfl, hb⟩
    have HB := Lib.hid (HA.out.trans (hb.mono HA.out.size))
    clear hb
    go_wp2_with fail
    go_ret2
    exact ⟨by rw [HO.out]; rfl, HB.out⟩
  | true =>
    have hcE : chkE n z xs = 0 := by unfold chkE; rw [hc]; rfl
    rw [hcE] at HCk
    clear hcE
    cases ht : inn 0 1048576 t with
    | false =>
      have HO := Lib.hid (ofR_no2 (n := n) (z := z) (xs := xs) ht)
      have HW := Lib.hid (within_fit ht)
      clear hc ht
      go_enter Try.func73, Try.ntmps73
      go_wp2_with fail
      refine HCk.out.mono ?_
      rintro e w1 ⟨rfl, hb⟩
      have HB := Lib.hid (HA.out.trans (hb.mono HA.out.size))
      have cb := (hb.cell (World.block_lt_of_cell? _ _ HBox.out)).trans HBox.out
      clear hb
      go_wp2_with fail
      refine (HW.out _).mono ?_
      rintro e w2 ⟨rfl, rfl⟩
      go_wp2_with fail
      go_ret2
      exact ⟨by rw [HO.out]; rfl, HB.out⟩
    | true =>
      obtain ⟨T, rfl⟩ := inn_nat ht (by omega)
      have hT : T ≤ 1048576 := by have := inn_iff.1 ht; omega
      have HO := Lib.hid (ofR_ok hc hT)
      have HW := Lib.hid (within_fit ht)
      have HGd := Lib.hid (goods_of hc)
      clear hc ht
      go_enter Try.func73, Try.ntmps73
      go_wp2_with fail
      refine HCk.out.mono ?_
      rintro e w1 ⟨rfl, hb⟩
      have HB := Lib.hid (HA.out.trans (hb.mono HA.out.size))
      have cb := (hb.cell (World.block_lt_of_cell? _ _ HBox.out)).trans HBox.out
      have HAs := Lib.hid (askers_any (HT.out.below hb) (HX.out.below hb) HGd.out)
      clear hb HCk HA HT HX HBox
      go_wp2_with fail
      refine (HW.out _).mono ?_
      rintro e w2 ⟨rfl, rfl⟩
      go_wp2_with fail
      refine HAs.out.mono ?_
      rintro e w2 ⟨r, rfl, hav, hb⟩
      have HB2 := Lib.hid (chn HB.out hb)
      have cb2 := (hb.cell (World.block_lt_of_cell? _ _ cb)).trans cb
      have HS := Lib.hid (sum_of (tb := w.heap.size) (F := fun i => jobs (per z i) (dea z i) T * asks z xs i) hav HGd.out.t.n4 (by
        rw [dem_tot]
        have := HGd.out.dem_le hT (Nat.le_refl n)
        have := HGd.out.t.n4
        omega) (fun i hi W hW => by
          have h1 := HGd.out.t.at' i hi
          exact clo_any _ _ T _ h1.2.2.1 h1.2.2.2.1 h1.2.2.2.2.1 (by omega) hT (HGd.out.m i hi).2.2.2 ((hW.cell (World.block_lt_of_cell? _ _ cb2)).trans cb2)))
      rw [dem_tot] at HS
      clear hav hb HAs cb
      go_wp2_with fail
      refine HS.out.mono ?_
      rintro e w3 ⟨rfl, hb⟩
      have HB3 := Lib.hid (chn HB2.out hb)
      clear hb
      go_wp2_with fail
      go_ret2
      exact ⟨by rw [HO.out]; rfl, HB3.out⟩
/-- numbers of the call's own, all of its row -/
def NV (w : World) (B : Nat) (v : Value) (n : Nat) (F : Nat → Nat) : Prop :=
  ∃ g, v = .slice (some ⟨g, 0, none⟩) n n ∧ B ≤ g ∧ w.heap[g]? = some (.cells ((fs F n).map (Value.int .i64)).toArray 3 (0, 0))
theorem NV.below {w w' : World} {B n : Nat} {v : Value} {F : Nat → Nat} (h : NV w B v n F) (q : Below w.heap.size w w') : NV w' B v n F := by
  obtain ⟨g, h1, h2, h3⟩ := h
  exact ⟨g, h1, h2, (q.block g (lt_of_block h3)).trans h3⟩
theorem NV.is {w : World} {B n : Nat} {v : Value} {F : Nat → Nat} (h : NV w B v n F) (hn : n ≤ 4) : IS w v (fs F n) := by
  obtain ⟨g, rfl, h2, h3⟩ := h
  refine ⟨some ⟨g, 0, none⟩, n, by rw [fs_len], by rw [fs_len]; exact Nat.le_refl _, by unfold maxLen; omega, (fun h => by cases h), fun _ => ⟨g, 0, rfl, fun i hi => ?_⟩⟩
  rw [cell_of_row w g (0 + i) _ _ _ h3, List.getElem?_toArray, List.getElem?_map, Nat.zero_add, List.getElem?_eq_getElem hi]
  simp [List.getD, List.getElem?_eq_getElem hi]
theorem NV.own {w : World} {B n : Nat} {v : Value} {F : Nat → Nat} (h : NV w B v n F) (hn : n ≤ 4) : w.ownsRow B 3 1 v n ((fs F n).map (Value.int .i64)) := by
  obtain ⟨g, rfl, h2, h3⟩ := h
  refine ⟨by rw [List.length_map, fs_len, Nat.mul_one], Or.inr ⟨g, n, _, rfl, h2, h3, Nat.le_refl _, by unfold maxLen; omega, by simp [fs_len], ?_⟩⟩
  rw [List.take_of_length_le (by simp [fs_len])]
set_option maxRecDepth 100000 in
set_option maxHeartbeats 2000000 in
theorem periods_any {w : World} {v : Value} {n : Nat} {z : Nat → Nat → Int} (h : TK w v n z) (hgd : De.Good n z) :
    Calls Try.prog 53 #[v] w (fun e w' => ∃ r, e = .returned r ∧ NV w' w.heap.size r n (per z) ∧ Below w.heap.size w w') := by
  obtain ⟨i0, hi, hz0, hz1, hz2⟩ := info_parts infoIn
  obtain ⟨a, cap, rfl, hn1, hn2⟩ := h.slice
  have HP := Lib.hid h
  have HGd := Lib.hid hgd
  have hn4 := hgd.n4
  clear h hgd
  go_enter Try.func53, Try.ntmps53
  go_wp2_with (at_make; refine wpList_make_full _ rfl _ _ 50 rfl w.heap.size 3 i0 _ 1 Try.underlying50 hi hz0 hz1 .i64 .i64 _ _ n rfl rfl rfl rfl (by rw [hz2]; omega) (by unfold maxLen; omega) (Nat.le_refl _) ?_; intro V hown hgrow)
  obtain ⟨hg0, hsz0⟩ := own_full hown
  have HB0 := Lib.hid ((Below.refl w.heap.size w).grown hgrow (Nat.le_refl _) (fun k hk => by cases hk))
  have hF0 : FN (madeCells (Value.int .i64 0).cells (n * 1)) (per z) 0 n := by rw [Nat.mul_one]; exact FN.start (per z) n
  have HG0 := Lib.hid hg0
  have HF0 := Lib.hid hF0
  obtain ⟨g, hgg⟩ : ∃ g, g = w.heap.size := ⟨_, rfl⟩
  rw [← hgg] at HG0 HB0 ⊢
  have HGG := Lib.hid hgg
  clear hown hgrow hg0 hgg hF0 hsz0
  generalize madeCells (Value.int .i64 0).cells (n * 1) = cur0 at *
  go_wp2_with fail
  go_loopw [11] (fun i wr => ∃ (k : Nat) (cur : Array Value), k ≤ n ∧ i = .int .i64 k ∧ Hid (FN cur (per z) k n) ∧ Hid (wr.heap[g]? = some (.cells cur 3 (0, 0))) ∧ Hid (Below g w wr)) (fun i _ => n - (intOf i).toNat)
  case atStart => exact ⟨0, cur0, by omega, rfl, HF0, HG0, HB0⟩
  case round =>
    clear HG0 HB0 HF0
    obtain ⟨k, cur, hk, rfl, HF, HGc, HB⟩ := hrel
    by_cases hlt : k < n
    · have HB' : Hid (Below w.heap.size w wr) := by rw [← HGG.out]; exact HB.out
      obtain ⟨b1, off, rfl, c⟩ := (HP.out.below HB'.out).at hlt
      obtain ⟨c0, c1, c2, c3, c4, c5, c6, c7⟩ := c
      have e0 := (HGd.out.at' k hlt).1
      have HF2 := Lib.hid (HF.out.step hlt)
      have hcs := HF.out.size hk
      generalize per z k = P at *
      generalize z k 0 = z0 at *
      generalize z k 1 = z1 at *
      generalize z k 2 = z2 at *
      generalize z k 3 = z3 at *
      generalize z k 4 = z4 at *
      generalize z k 5 = z5 at *
      generalize z k 6 = z6 at *
      generalize z k 7 = z7 at *
      subst e0
      have HGw := Lib.hid ((((Below.refl _ wr).alloc (Nat.le_refl _) (.cells #[.int .i64 P, .int .i64 z1, .int .i64 z2, .int .i64 z3, .int .i64 z4, .int .i64 z5, .int .i64 z6, .int .i64 z7] 40)).block g (lt_of_block HGc.out)).trans HGc.out)
      have HBw := Lib.hid (HB.out.alloc (by rw [HGG.out]; exact HB'.out.size) (.cells #[.int .i64 P, .int .i64 z1, .int .i64 z2, .int .i64 z3, .int .i64 z4, .int .i64 z5, .int .i64 z6, .int .i64 z7] 40))
      obtain ⟨q0, f0⟩ := cell_at HGw.out (i := k) (by omega)
      have g0 : (wr.alloc (.cells #[.int .i64 P, .int .i64 z1, .int .i64 z2, .int .i64 z3, .int .i64 z4, .int .i64 z5, .int .i64 z6, .int .i64 z7] 40)).frozen? ⟨g, k, none⟩ = false := frozen_of_row _ _ k _ _ HGw.out
      have HG4 := Lib.hid (heap_set_same (i := k) (v := .int .i64 P) HGw.out)
      have HB4 := Lib.hid (HBw.out.setCell (p := ⟨g, k, none⟩) (Nat.le_refl _) (.int .i64 P))
      clear HF HGc HB HB' HGw HBw
      go_wp2_with fail
      go_roundw
      case rel => exact ⟨k + 1, _, by omega, by go_num, HF2, HG4, HB4⟩
      case measure => simp [intOf]; omega
    · obtain rfl : k = n := by omega
      have HB' : Hid (Below w.heap.size w wr) := by rw [← HGG.out]; exact HB.out
      have HN : Hid (NV wr w.heap.size (.slice (some ⟨g, 0, none⟩) k k) k (per z)) := ⟨g, rfl, by rw [HGG.out]; exact Nat.le_refl _, by rw [HGc.out, HF.out.done]⟩
      go_wp2_with fail
      go_ret
      exact ⟨_, rfl, HN.out, HB'.out⟩
theorem dvs_no {P : Nat → Nat} {N n k : Nat} (hk : k < n) (h : ¬ N % P k = 0) : dvs P N n = false := by
  cases e : dvs P N n with
  | false => rfl
  | true => exact absurd (dvs_iff.1 e k hk) h
theorem allDivide_any {w : World} {v : Value} {n : Nat} {P : Nat → Nat} (h : IS w v (fs P n)) (hn : n ≤ 4) (hP : ∀ i, i < n → 0 < P i) (N : Nat) (hN : N ≤ 1048576) :
    Calls Try.prog 55 #[.int .i64 N, v] w (IsB (dvs P N n) w) := by
  obtain ⟨a, cap, rfl, hn1, hn2⟩ := h.slice
  have HP := Lib.hid h
  have HPP := Lib.hid hP
  clear h hP
  rw [fs_len] at hn1 HP ⊢
  obtain ⟨R, hR⟩ : ∃ R, R = dvs P N n := ⟨_, rfl⟩
  have HR := Lib.hid hR
  rw [← hR]
  clear hR
  go_enter Try.func55, Try.ntmps55
  go_wp2_with fail
  go_loop [9] (fun i => ∃ k : Nat, k ≤ n ∧ i = .int .i64 k ∧ Hid (∀ j, j < k → N % P j = 0)) (fun i => n - (intOf i).toNat)
  case atStart => exact ⟨0, by omega, rfl, fun j hj => by omega⟩
  case round =>
    obtain ⟨k, hk, rfl, HA⟩ := hrel
    by_cases hlt : k < n
    · obtain ⟨b, off, rfl, c⟩ := HP.out.at hlt
      have hv : (fs P n).getD k 0 = (P k : Int) := by simp [fs, List.getD, hlt]
      rw [hv] at c
      have hp := HPP.out k hlt
      have HYes : Hid (N % P k = 0 → ∀ j, j < k + 1 → N % P j = 0) := fun h j hj => by
        by_cases e : j = k
        · rw [e]; exact h
        · exact HA.out j (by omega)
      have HNo : Hid (¬ N % P k = 0 → R = false) := fun h => HR.out.trans (dvs_no hlt h)
      clear hv HA
      generalize P k = p at *
      have hp0 : ((p : Int) == 0) = false := by simp; omega
      have hm : (N : Int) % p = ((N % p : Nat) : Int) := rfl
      generalize hq : N % p = q at *
      cases hz : decide (q = 0) with
      | true =>
        have hq0 := of_decide_eq_true hz
        subst hq0
        go_wp2_with fail
        go_round
        case rel => exact ⟨k + 1, by omega, by go_num, HYes.out rfl⟩
        case measure => simp [intOf]; omega
      | false =>
        have HE := Lib.hid (HNo.out (of_decide_eq_false hz))
        have hq0 : ((q : Int) != 0) = true := by have := of_decide_eq_false hz; simp; omega
        go_wp2_with fail
        go_ret
        exact ⟨by rw [HE.out]; rfl, rfl⟩
    · obtain rfl : k = n := by omega
      have HE : Hid (R = true) := HR.out.trans (dvs_iff.2 HA.out)
      go_wp2_with fail
      go_ret
      exact ⟨by rw [HE.out]; rfl, rfl⟩
end Go.Proofs.Ytbdiekolkniajaa

namespace Go.Proofs.Ytbdiekolkniajaa
open Go.RowKit Tk De
set_option linter.unusedVariables false

theorem cell_one_i (w : World) (x : Int) : ∀ j u, ([Value.int .i64 x] : List Value)[j]? = some u → (w.alloc (.cells #[.int .i64 x] 3)).cell? ((⟨w.heap.size, 0, none⟩ : Addr).add j) = some u := by
  intro j u hj
  cases j with
  | zero => simp at hj; subst hj; exact cell_of_row _ _ 0 _ _ _ (heap_alloc_new w _)
  | succ j => simp at hj
theorem one_i (x : Int) : ∀ u ∈ ([Value.int .i64 x] : List Value), u.oneCell' = true := by intro u hu; simp at hu; subst hu; rfl
/-- a cell, and all that was there, are kept -/
def S1 (W w : World) (t : Nat) (v : Value) : Prop := w.cell? ⟨t, 0, none⟩ = some v ∧ Below W.heap.size W w
theorem S1.drew {W w : World} {t : Nat} {v : Value} (h : S1 W w t v) : S1 W w.drew t v := ⟨h.1, h.2.drew⟩
theorem S1.below {W w w' : World} {t : Nat} {v : Value} (h : S1 W w t v) (q : Below w.heap.size w w') : S1 W w' t v := ⟨(q.cell (World.block_lt_of_cell? _ _ h.1)).trans h.1, chn h.2 q⟩
theorem within_S {n a b : Int} {r : Bool} (hr : inn a b n = r) {W w : World} {t : Nat} {v : Value} (h : S1 W w t v) :
    Calls Try.prog 51 #[.int .i64 n, .int .i64 a, .int .i64 b] w (fun e w' => e = .returned (.bool r) ∧ S1 W w' t v) := (within_fit hr w).mono fun _ _ ⟨he, hw⟩ => ⟨he, hw ▸ h⟩
theorem periods_S {W w : World} {t : Nat} {y v : Value} {n : Nat} {z : Nat → Nat → Int} (h : S1 W w t y) (ht : TK W v n z) (hg : De.Good n z) :
    Calls Try.prog 53 #[v] w (fun e w' => ∃ r, e = .returned r ∧ IS w' r (fs (per z) n) ∧ S1 W w' t y) :=
  (periods_any (ht.below h.2) hg).mono fun _ _ ⟨r, he, hn, hb⟩ => ⟨r, he, hn.is hg.n4, h.below hb⟩
theorem divide_S {W w : World} {t : Nat} {y v : Value} {n : Nat} {P : Nat → Nat} {N : Nat} {r : Bool} (hr : dvs P N n = r) (h : S1 W w t y) (hi : IS w v (fs P n)) (hn : n ≤ 4) (hP : ∀ i, i < n → 0 < P i) (hN : N ≤ 1048576) :
    Calls Try.prog 55 #[.int .i64 N, v] w (fun e w' => e = .returned (.bool r) ∧ S1 W w' t y) := by
  subst hr
  exact (allDivide_any hi hn hP N hN).mono fun _ _ ⟨he, hw⟩ => ⟨he, hw ▸ h⟩
set_option maxHeartbeats 2000000 in
theorem use_any {w : World} {v u : Value} {n : Nat} {z : Nat → Nat → Int} {xs : List Int} (h : TK w v n z) (hx : IS w u xs) (t : Int) :
    Calls Try.prog 36 #[v, u, .int .i64 t] w (TwoB (useR n z xs t).1 (useR n z xs t).2 w) := by
  have hA := (Below.refl _ w).alloc (Nat.le_refl _) (.cells #[.int .i64 t] 3)
  have HCk := Lib.hid (check_any (h.below hA) (hx.below hA))
  have HT := Lib.hid (h.below hA); have HX := Lib.hid (hx.below hA)
  have HA := Lib.hid hA
  have HBox := Lib.hid (cell_of_row (w.alloc (.cells #[.int .i64 t] 3)) w.heap.size 0 _ _ _ (heap_alloc_new w (.cells #[.int .i64 t] 3)))
  clear h hx hA
  cases hc : chk n z xs with
  | false =>
    have hcE : chkE n z xs = 2 := by unfold chkE; rw [hc]; rfl
    rw [hcE] at HCk
    have HO := Lib.hid (useR_no1 (t := t) hc)
    clear hc hcE
    go_enter Try.func36, Try.ntmps36
    go_wp2_with fail
    refine HCk.out.mono ?_
    rintro e w1 ⟨rfl, hb⟩
    have HB := Lib.hid (HA.out.trans (hb.mono HA.out.size))
    clear hb
    go_wp2_with fail
    go_ret2
    exact ⟨by rw [HO.out]; rfl, HB.out⟩
  | true =>
    have hcE : chkE n z xs = 0 := by unfold chkE; rw [hc]; rfl
    rw [hcE] at HCk
    clear hcE
    cases ht : inn 1 1048576 t with
    | false =>
      have HO := Lib.hid (useR_no2 (n := n) (z := z) (xs := xs) ht)
      have HW := Lib.hid (within_fit ht)
      clear hc ht
      go_enter Try.func36, Try.ntmps36
      go_wp2_with fail
      refine HCk.out.mono ?_
      rintro e w1 ⟨rfl, hb⟩
      have HB := Lib.hid (HA.out.trans (hb.mono HA.out.size))
      have cb := (hb.cell (World.block_lt_of_cell? _ _ HBox.out)).trans HBox.out
      clear hb HCk HA HT HX HBox
      go_wp2_with fail
      go_quiet ((go_at_call 51; exact Calls.quiet_of_same ((HW.out _).mono fun _ _ h => ⟨h.1, h.2.symm⟩)))
      go_wp2_with fail
      go_ret2
      exact ⟨by rw [HO.out]; rfl, below_drewN HB.out _⟩
    | true =>
      obtain ⟨T, rfl⟩ := inn_nat ht (by omega)
      have hT : 1 ≤ T ∧ T ≤ 1048576 := by have := inn_iff.1 ht; omega
      obtain ⟨hT1, hT⟩ := hT
      have HW := Lib.hid (fun (W w : World) (t : Nat) (v : Value) (h : S1 W w t v) => within_S ht h)
      have hgd := goods_of hc
      have HGd := Lib.hid hgd
      obtain ⟨r, hr⟩ : ∃ r, dvs (per z) T n = r := ⟨_, rfl⟩
      have HDv := Lib.hid (fun (W w : World) (t : Nat) (y v : Value) (h : S1 W w t y) (hi : IS w v (fs (per z) n)) => divide_S hr h hi hgd.t.n4 (fun i hi => (hgd.t.at' i hi).2.2.1) hT)
      have HPd := Lib.hid (fun (W w : World) (t : Nat) (y v : Value) (ht : TK W v n z) (h : S1 W w t y) => periods_S h ht hgd.t)
      cases r with
      | false =>
        have HO := Lib.hid (useR_no3 (xs := xs) hr)
        clear hc ht hgd hr
        go_enter Try.func36, Try.ntmps36
        go_wp2_with fail
        refine HCk.out.mono ?_
        rintro e w1 ⟨rfl, hb⟩
        have HB := Lib.hid (HA.out.trans (hb.mono HA.out.size))
        have HS : Hid (S1 w1 w1 w.heap.size (.int .i64 T)) := ⟨(hb.cell (World.block_lt_of_cell? _ _ HBox.out)).trans HBox.out, Below.refl _ _⟩
        have HT1 := Lib.hid (HT.out.below hb)
        clear hb HCk HA HT HX HBox
        go_wp2_with fail
        go_region_held3 (fun w' => w'.cell? ⟨w.heap.size, 0, none⟩ = some (.int .i64 T) ∧ Below w1.heap.size w1 w')
          (first | assumption | exact S1.drew HS.out | exact HS.out | go_keep)
          (first | (go_at_call 51; refine (HW.out _ _ _ _ (by assumption)).mono ?_; rintro e w' ⟨rfl, hq⟩)
                 | (go_at_call 53; refine (HPd.out _ _ _ _ _ HT1.out (by assumption)).mono ?_; rintro e w' ⟨r, rfl, hn, hq⟩)
                 | (go_at_call 55; refine (HDv.out _ _ _ _ _ (by assumption) (by assumption)).mono ?_; rintro e w' ⟨rfl, hq2⟩))
        have HQ := Lib.hid (chn HB.out hq2.2)
        clear hq hq2
        go_wp2_with fail
        go_ret2
        exact ⟨by rw [HO.out]; rfl, HQ.out⟩
      | true =>
        have HO := Lib.hid (useR_ok hc hT1 hT hr)
        clear hc ht hgd hr
        go_enter Try.func36, Try.ntmps36
        go_wp2_with fail
        refine HCk.out.mono ?_
        rintro e w1 ⟨rfl, hb⟩
        have HB := Lib.hid (HA.out.trans (hb.mono HA.out.size))
        have HS : Hid (S1 w1 w1 w.heap.size (.int .i64 T)) := ⟨(hb.cell (World.block_lt_of_cell? _ _ HBox.out)).trans HBox.out, Below.refl _ _⟩
        have HT1 := Lib.hid (HT.out.below hb)
        have HX1 := Lib.hid (HX.out.below hb)
        clear hb HCk HA HT HX HBox
        go_wp2_with fail
        go_region_held3 (fun w' => w'.cell? ⟨w.heap.size, 0, none⟩ = some (.int .i64 T) ∧ Below w1.heap.size w1 w')
          (first | assumption | exact S1.drew HS.out | exact HS.out | go_keep)
          (first | (go_at_call 51; refine (HW.out _ _ _ _ (by assumption)).mono ?_; rintro e w' ⟨rfl, hq⟩)
                 | (go_at_call 53; refine (HPd.out _ _ _ _ _ HT1.out (by assumption)).mono ?_; rintro e w' ⟨r, rfl, hn, hq⟩)
                 | (go_at_call 55; refine (HDv.out _ _ _ _ _ (by assumption) (by assumption)).mono ?_; rintro e w' ⟨rfl, hq2⟩))
        have HQ := Lib.hid (chn HB.out hq2.2)
        have HAs := Lib.hid (askers_any (HT1.out.below hq2.2) (HX1.out.below hq2.2) HGd.out)
        have cb := hq2.1
        rename_i hHeld
        clear hq hn hHeld
        go_wp2_with fail
        refine HAs.out.mono ?_
        rintro e w3 ⟨r3, rfl, hav, hb⟩
        have HB2 := Lib.hid (chn HQ.out hb)
        have cb2 := (hb.cell (World.block_lt_of_cell? _ _ cb)).trans cb
        have HS := Lib.hid (sum_use (tb := w.heap.size) (F := fun i => T / per z i * asks z xs i) hav HGd.out.t.n4 (by
          rw [use_tot]
          have := HGd.out.use_le hT (Nat.le_refl n)
          have := HGd.out.t.n4
          omega) (fun i hi W hW => by
            have h1 := HGd.out.t.at' i hi
            exact ucl_any _ _ T _ h1.2.2.1 h1.2.2.2.1 hT (HGd.out.m i hi).2.2.2 ((hW.cell (World.block_lt_of_cell? _ _ cb2)).trans cb2)))
        rw [use_tot] at HS
        clear hav hb HAs cb
        go_wp2_with fail
        refine HS.out.mono ?_
        rintro e w4 ⟨rfl, hb⟩
        have HB3 := Lib.hid (chn HB2.out hb)
        clear hb
        go_wp2_with fail
        go_ret2
        exact ⟨by rw [HO.out]; rfl, HB3.out⟩
theorem multiple_any {w : World} {a : Option Addr} {cap k : Nat} {zs : List Int} {m e : Int} (hk : k = zs.length) (hl : k ≤ 9223372036854775807) (h : Row w a zs) (hr : lcmR 4096 zs = (m, e)) :
    Calls Try.prog 52 #[.slice a k cap] w (TwoB (if e = 0 then m else 0) (if e = 0 then 0 else 5) w) := by
  have HL := Lib.hid (lcm_any 4096 a cap k zs w hk hl h)
  rw [hr] at HL
  clear hk hl h hr
  cases he : (e == 0) with
  | true =>
    obtain rfl : e = 0 := by simpa using he
    go_enter Try.func52, Try.ntmps52
    go_wp2_with fail
    refine HL.out.mono ?_
    rintro e w1 ⟨rfl, hb⟩
    have HB := Lib.hid hb
    clear hb
    go_wp2_with fail
    go_ret2
    exact ⟨rfl, HB.out⟩
  | false =>
    have hne : e ≠ 0 := by simpa using he
    rw [if_neg hne, if_neg hne]
    clear hne
    go_enter Try.func52, Try.ntmps52
    go_wp2_with fail
    refine HL.out.mono ?_
    rintro e w1 ⟨rfl, hb⟩
    have HB := Lib.hid hb
    clear hb
    go_wp2_with fail
    go_ret2
    exact ⟨rfl, HB.out⟩
theorem fs_per (n : Nat) (z : Nat → Nat → Int) (p : Nat) : fs (per z) n ++ [(p : Int)] = (pers z n ++ [p]).map (fun x : Nat => (x : Int)) := by
  unfold fs pers
  rw [List.map_append, List.map_map]
  rfl
set_option maxHeartbeats 1000000 in
theorem hyper_any {w : World} {v : Value} {n : Nat} {z : Nat → Nat → Int} (h : TK w v n z) (p : Int) :
    Calls Try.prog 34 #[v, .int .i64 p] w (TwoB (hyR n z p).1 (hyR n z p).2 w) := by
  have HCk := Lib.hid (tasksMayBe_any h)
  have HT := Lib.hid h
  obtain ⟨i0, hi, hz0, hz1, hz2⟩ := info_parts infoIn
  have HI := Lib.hid (⟨hi, hz0, hz1, hz2⟩ : _ ∧ _ ∧ _ ∧ _)
  clear h hi hz0 hz1 hz2
  cases hc : tasksOK n z with
  | false =>
    rw [hc] at HCk
    have HO := Lib.hid (hyR_no1 (p := p) hc)
    clear hc
    go_enter Try.func34, Try.ntmps34
    go_wp2_with fail
    refine HCk.out.mono ?_
    rintro e w1 ⟨rfl, hb⟩
    have HB := Lib.hid hb
    clear hb
    go_wp2_with fail
    go_ret2
    exact ⟨by rw [HO.out]; rfl, HB.out⟩
  | true =>
    rw [hc] at HCk
    cases ht : inn 1 64 p with
    | false =>
      have HO := Lib.hid (hyR_no2 (n := n) (z := z) ht)
      have HW := Lib.hid (within_fit ht)
      clear hc ht
      go_enter Try.func34, Try.ntmps34
      go_wp2_with fail
      refine HCk.out.mono ?_
      rintro e w1 ⟨rfl, hb⟩
      have HB := Lib.hid hb
      clear hb
      go_wp2_with fail
      refine (HW.out _).mono ?_
      rintro e w2 ⟨rfl, rfl⟩
      go_wp2_with fail
      go_ret2
      exact ⟨by rw [HO.out]; rfl, HB.out⟩
    | true =>
      obtain ⟨P, rfl⟩ := inn_nat ht (by omega)
      have hP : 0 < P ∧ P ≤ 64 := by have := inn_iff.1 ht; omega
      have HW := Lib.hid (within_fit ht)
      have hgd := good_of hc
      have HGd := Lib.hid hgd
      have hn4 := hgd.n4
      have hL := hgd.lcm_of hP.1 hP.2
      rw [← fs_per] at hL
      obtain ⟨m, e, hme⟩ : ∃ m e : Int, (if hypL n z P ≤ 4096 then (((hypL n z P : Nat) : Int), (0 : Int)) else (0, 10)) = (m, e) := ⟨_, _, rfl⟩
      rw [hme] at hL
      have HO : Hid (hyR n z P = (if e = 0 then m else 0, if e = 0 then 0 else 5)) := by
        rw [Hid, hyR_yes hc ht]
        by_cases hq : hypL n z P ≤ 4096
        · rw [if_pos hq] at hme ⊢
          obtain ⟨rfl, rfl⟩ := Prod.mk.inj hme
          rfl
        · rw [if_neg hq] at hme ⊢
          obtain ⟨rfl, rfl⟩ := Prod.mk.inj hme
          rfl
      obtain ⟨M, hM⟩ : ∃ M : Int, (if e = 0 then m else 0) = M := ⟨_, rfl⟩
      obtain ⟨E, hE⟩ : ∃ E : Int, (if e = 0 then (0 : Int) else 5) = E := ⟨_, rfl⟩
      rw [hM, hE] at HO
      have HM := Lib.hid hM; have HE := Lib.hid hE
      have HL := Lib.hid hL
      clear hc ht hgd hme hL hP hM hE
      go_enter Try.func34, Try.ntmps34
      go_wp2_with fail
      refine HCk.out.mono ?_
      rintro e1 w1 ⟨rfl, hb⟩
      have HB := Lib.hid hb
      have HPd := Lib.hid (periods_any (HT.out.below hb) HGd.out)
      clear hb
      go_wp2_with fail
      refine (HW.out _).mono ?_
      rintro e1 w2 ⟨rfl, rfl⟩
      go_wp2_with fail
      refine HPd.out.mono ?_
      rintro e1 w3 ⟨r, rfl, hnv, hb⟩
      have HB3 := Lib.hid (chn HB.out hb)
      have HOw := Lib.hid (hnv.own hn4)
      obtain ⟨g, rfl, hgb, hgh⟩ := hnv
      have HS3 := Lib.hid (Below.size hb)
      clear hb hgb hgh HPd HCk
      have Hm1 : Hid (n + 1 ≤ maxLen) := by unfold Hid maxLen; omega
      have Hm2 : Hid ((n + 1) * 8 ≤ 140737488355328) := by unfold Hid; omega
      have Hm3 : Hid (w1.heap.size ≤ (w3.alloc (.cells #[.int .i64 P] 3)).heap.size) := by have := HS3.out; unfold Hid; simp; omega
      go_wp2_with (at_builtin; refine wpList_append_own _ rfl _ _ 50 rfl w1.heap.size 3 i0 (.int .i64 0) 1 8 Try.underlying50 HI.out.1 HI.out.2.1 HI.out.2.2.1 HI.out.2.2.2 rfl (by decide) _ n _ rfl (World.ownsRow.alloc HOw.out _) ⟨w3.heap.size, 0, none⟩ 1 1 [.int .i64 P] rfl rfl (cell_one_i _ _) (one_i _) Hm1.out Hm2.out Hm3.out ?_)
      intro v' w4 hown hgrow _
      have hown' : w4.ownsRow w1.heap.size 3 1 v' (n + 1) ((fs (per z) n ++ [(P : Int)]).map (Value.int .i64)) := by rw [List.map_append]; exact hown
      obtain ⟨a4, c4, rfl, hrow, _⟩ := rowed_of (by simp [fs_len]) hown'
      have HB4 : Hid (Below w.heap.size w w4) := HB3.out.trans (Below.grown ((Below.refl w.heap.size w3).alloc HB3.out.size _) hgrow (by have := HB3.out.size; simp; omega) (fun k hk => by
        have := (HOw.out.lt k hk).1
        have := HB.out.size
        omega))
      have HMl := Lib.hid (multiple_any (cap := c4) (k := n + 1) (by simp [fs_len]) (by omega) hrow HL.out)
      rw [HM.out, HE.out] at HMl
      clear HM HE
      clear hown hown' hgrow hrow
      go_wp2_with fail
      refine HMl.out.mono ?_
      rintro e1 w5 ⟨rfl, hb⟩
      have HB5 := Lib.hid (chn HB4.out hb)
      clear hb
      go_wp2_with fail
      go_ret2
      exact ⟨by rw [HO.out]; rfl, HB5.out⟩
end Go.Proofs.Ytbdiekolkniajaa
