/- compare, and who is ahead. -/
import Derived.Test.YtfjeoefnpcgnnaaRkWalksA
import Derived.Deep.RegionHeld3
import Derived.Sort.Grow
import Derived.StillTailTactics
import Derived.Shelf.SlSortCmp.QuietGrown
namespace Go.Proofs.Ytfjeoefnpcgnnaa.Rq
open Go.RowKit Rk
set_option linter.unusedVariables false
set_option maxRecDepth 100000

def IsN (n : Int) (w : World) (e : Ending) (w' : World) : Prop := e = .returned (.int .i64 n) ∧ w = w'
/-- one number against another -/
def ci (x y : Int) : Int := if x < y then -1 else if y < x then 1 else 0
theorem nan_any (x : Int) (w : World) : Calls Try.prog 69 #[.int .i64 x] w (IsB false w) := by
  have h : (x != x) = false := by simp
  go_enter Try.func69, Try.ntmps69
  go_wp2
  go_ret
  exact ⟨rfl, rfl⟩
theorem ci_any (x y : Int) (w : World) : Calls Try.prog 68 #[.int .i64 x, .int .i64 y] w (IsN (ci x y) w) := by
  unfold ci
  by_cases h1 : x < y
  · rw [if_pos h1]
    go_enter Try.func68, Try.ntmps68
    go_wp2_with (go_at_call 69; refine (nan_any _ _).mono ?_; rintro e w' ⟨rfl, rfl⟩)
    go_ret
    exact ⟨rfl, rfl⟩
  · rw [if_neg h1]
    have hd1 : decide (x < y) = false := by simpa using h1
    by_cases h2 : y < x
    · rw [if_pos h2]
      clear h1
      go_enter Try.func68, Try.ntmps68
      go_wp2_with (go_at_call 69; refine (nan_any _ _).mono ?_; rintro e w' ⟨rfl, rfl⟩)
      go_ret
      exact ⟨rfl, rfl⟩
    · rw [if_neg h2]
      have hd2 : decide (y < x) = false := by simpa using h2
      clear h1 h2
      go_enter Try.func68, Try.ntmps68
      go_wp2_with (go_at_call 69; refine (nan_any _ _).mono ?_; rintro e w' ⟨rfl, rfl⟩)
      go_ret
      exact ⟨rfl, rfl⟩
/-- the first one that is not zero -/
def orI (a b : Int) : Int := if a = 0 then b else a
set_option maxHeartbeats 400000 in
theorem or_any (g : Nat) (a b : Int) (w : World) (h1 : w.cell? ⟨g, 0, none⟩ = some (.int .i64 a)) (h2 : w.cell? ⟨g, 1, none⟩ = some (.int .i64 b)) : Calls Try.prog 67 #[.slice (some ⟨g, 0, none⟩) 2 2] w (IsN (orI a b) w) := by
  unfold orI
  have H1 := Lib.hid h1
  have H2 := Lib.hid h2
  by_cases ha : a = 0
  · rw [if_pos ha]
    subst ha
    by_cases hb : b = 0
    · subst hb
      go_enter Try.func67, Try.ntmps67
      go_wp2
      go_loop [8] (fun i => ∃ k : Nat, k ≤ 2 ∧ i = .int .i64 k) (fun i => 2 - (intOf i).toNat)
      case atStart => exact ⟨0, by omega, rfl⟩
      case round =>
        obtain ⟨k, hk, rfl⟩ := hrel
        by_cases hlt : k < 2
        · have hc : w.cell? ⟨g, k, none⟩ = some (.int .i64 0) := by
            rcases (show k = 0 ∨ k = 1 by omega) with rfl | rfl
            · exact H1.out
            · exact H2.out
          clear h1 h2
          go_wp2
          go_round
          case rel => exact ⟨k + 1, by omega, by go_num⟩
          case measure => simp [intOf]; omega
        · clear h1 h2
          go_wp2
          go_ret
          exact ⟨rfl, rfl⟩
    · have hbd : (b != 0) = true := by simpa using hb
      have hbe : (b == 0) = false := by simpa using hb
      clear hb
      go_enter Try.func67, Try.ntmps67
      go_wp2
      go_loop [8] (fun i => ∃ k : Nat, k ≤ 1 ∧ i = .int .i64 k) (fun i => 2 - (intOf i).toNat)
      case atStart => exact ⟨0, by omega, rfl⟩
      case round =>
        obtain ⟨k, hk, rfl⟩ := hrel
        by_cases hlt : k = 0
        · subst hlt
          go_wp2
          go_round
          case rel => exact ⟨1, by omega, rfl⟩
          case measure => simp [intOf]
        · obtain rfl : k = 1 := by omega
          go_wp2
          go_ret
          exact ⟨rfl, rfl⟩
  · rw [if_neg ha]
    have hbd : (a != 0) = true := by simpa using ha
    have hbe : (a == 0) = false := by simpa using ha
    clear ha
    go_enter Try.func67, Try.ntmps67
    go_wp2
    go_loop [8] (fun i => i = .int .i64 0) (fun i => 0)
    case atStart => rfl
    case round =>
      subst hrel
      go_wp2
      go_ret
      exact ⟨rfl, rfl⟩

/-- compare's answer -/
def cf (x y : En) : Int := orI (ci x.2 y.2) (ci x.1 y.1)
/-- draws and new blocks alone -/
def Grw (W w' : World) : Prop := ∃ q os, w' = Sort.grow (W.drewN q) os
theorem Grw.refl (W : World) : Grw W W := ⟨0, #[], by rw [Sort.grow_empty]; rfl⟩
theorem Grw.drew {W w : World} (h : Grw W w) : Grw W w.drew := by obtain ⟨q, os, rfl⟩ := h; exact ⟨q + 1, os, rfl⟩
theorem Grw.alloc {W w : World} (h : Grw W w) (o : Obj) : Grw W (w.alloc o) := by
  obtain ⟨q, os, rfl⟩ := h; exact ⟨q, os ++ #[o], by rw [Sort.alloc_eq_grow, Sort.grow_grow]⟩
theorem Grw.trans {W w w' : World} (h : Grw W w) (k : Grw w w') : Grw W w' := by
  obtain ⟨q, os, rfl⟩ := h; obtain ⟨q', os', rfl⟩ := k
  refine ⟨q + q', os ++ os', ?_⟩
  rw [← Sort.grow_grow]; simp only [Sort.grow, World.drewN, Nat.add_assoc]
theorem Grw.below {W w : World} (h : Grw W w) : Below W.heap.size W w := by
  obtain ⟨q, os, rfl⟩ := h
  refine ⟨rfl, rfl, rfl, ?_, fun k hk => ?_⟩
  · rw [Sort.size_grow]; exact Nat.le_add_right _ _
  · exact Sort.heap_grow_old (W.drewN q) os hk
def CmpP (x : Int) (w : World) (e : Ending) (w' : World) : Prop := e = .returned (.int .i64 x) ∧ Grw w w'

theorem ci_fit (x y n : Int) (w : World) (h : ci x y = n) : Calls Try.prog 68 #[.int .i64 x, .int .i64 y] w (IsN n w) := by subst h; exact ci_any x y w
/-- what is kept through the region: four cells, and how the world came about -/
def CS (W : World) (k : Nat) (a b c d : Int) (w' : World) : Prop :=
  w'.cell? ⟨k, 0, none⟩ = some (.int .i64 a) ∧ w'.cell? ⟨k, 1, none⟩ = some (.int .i64 b) ∧ w'.cell? ⟨k + 1, 0, none⟩ = some (.int .i64 c) ∧ w'.cell? ⟨k + 1, 1, none⟩ = some (.int .i64 d) ∧ Grw W w'
theorem CS.drew {W : World} {k : Nat} {a b c d : Int} {w' : World} (h : CS W k a b c d w') : CS W k a b c d w'.drew := ⟨h.1, h.2.1, h.2.2.1, h.2.2.2.1, h.2.2.2.2.drew⟩
theorem CS.alloc {W : World} {k : Nat} {a b c d : Int} {w' : World} (h : CS W k a b c d w') (o : Obj) : CS W k a b c d (w'.alloc o) :=
  ⟨by rw [World.cell?_alloc_lt _ _ _ (World.block_lt_of_cell? w' _ h.1)]; exact h.1, by rw [World.cell?_alloc_lt _ _ _ (World.block_lt_of_cell? w' _ h.2.1)]; exact h.2.1,
   by rw [World.cell?_alloc_lt _ _ _ (World.block_lt_of_cell? w' _ h.2.2.1)]; exact h.2.2.1, by rw [World.cell?_alloc_lt _ _ _ (World.block_lt_of_cell? w' _ h.2.2.2.1)]; exact h.2.2.2.1, h.2.2.2.2.alloc o⟩
theorem CS.made (w : World) (a b c d : Int) (t : TypeId) : CS w w.heap.size a b c d ((w.alloc (.cells #[.int .i64 a, .int .i64 b] t)).alloc (.cells #[.int .i64 c, .int .i64 d] t)) := by
  have e := heap_alloc2_old w (.cells #[.int .i64 a, .int .i64 b] t) (.cells #[.int .i64 c, .int .i64 d] t)
  have e' := heap_alloc2_new w (.cells #[.int .i64 a, .int .i64 b] t) (.cells #[.int .i64 c, .int .i64 d] t)
  exact ⟨by rw [cell_of_row _ _ _ _ _ _ e]; rfl, by rw [cell_of_row _ _ _ _ _ _ e]; rfl, by rw [cell_of_row _ _ _ _ _ _ e']; rfl, by rw [cell_of_row _ _ _ _ _ _ e']; rfl, ((Grw.refl w).alloc _).alloc _⟩

set_option maxHeartbeats 1000000 in
theorem cmp_any (x y : En) (w : World) : Calls Try.prog 66 #[.agg #[.int .i64 x.1, .int .i64 x.2], .agg #[.int .i64 y.1, .int .i64 y.2]] w (CmpP (cf x y) w) := by
  obtain ⟨a, b⟩ := x
  obtain ⟨c, d⟩ := y
  unfold cf
  dsimp only
  generalize hr : ci b d = r
  generalize hs : ci a c = s
  have HR := Lib.hid hr
  have HS := Lib.hid hs
  clear hr hs
  go_enter Try.func66, Try.ntmps66
  go_wp2_with fail
  have mixed : Try.prog.follows .mixedOrders = true := by kernel_rfl
  have hss := CS.made w a b c d 95
  generalize (w.alloc (Obj.cells #[Value.int IntKind.i64 a, Value.int IntKind.i64 b] 95)).alloc (Obj.cells #[Value.int IntKind.i64 c, Value.int IntKind.i64 d] 95) = W at hss ⊢
  refine wp_region_still_tail 10 mixed (by kernel_rfl) ?_
  simp only [List.take_succ_cons, List.take_zero, List.drop_succ_cons, List.drop_zero]
  change wpStill _ _ W.drew _ _ _
  have hs2 := hss.drew
  generalize W.drew = V at hs2 ⊢
  have hgW := hss.2.2.2.2
  clear hss mixed
  obtain ⟨c1, c2, c3, c4, hg⟩ := hs2
  repeat still_step
  still_call ((ci_fit _ _ _ _ HR.out).mono fun _ _ h => ⟨h.1, h.2.symm⟩)
  repeat still_step
  still_call ((ci_fit _ _ _ _ HS.out).mono fun _ _ h => ⟨h.1, h.2.symm⟩)
  refine wpStill_nil ?_
  have h1 : (W.alloc (.cells #[.int .i64 r, .int .i64 s] 3)).drew.cell? ⟨W.heap.size, 0, none⟩ = some (.int .i64 r) := (cell_of_row _ _ _ _ _ _ (heap_alloc_new W _)).trans rfl
  have h2 : (W.alloc (.cells #[.int .i64 r, .int .i64 s] 3)).drew.cell? ⟨W.heap.size, 1, none⟩ = some (.int .i64 s) := (cell_of_row _ _ _ _ _ _ (heap_alloc_new W _)).trans rfl
  have H1 := Lib.hid h1
  have H2 := Lib.hid h2
  clear h1 h2 c1 c2 c3 c4
  go_wp2_with fail
  refine (or_any _ _ _ _ H1.out H2.out).mono ?_
  rintro e w' ⟨rfl, rfl⟩
  go_wp2_with fail
  go_ret
  exact ⟨rfl, (hgW.alloc _).drew⟩

theorem cf_lt (x y : En) : decide (cf x y < 0) = decide (lt x y) := by
  unfold cf orI ci lt
  by_cases h1 : x.2 < y.2
  · simp [h1]
  · by_cases h2 : y.2 < x.2
    · have : ¬ (x.2 = y.2) := by omega
      simp [h1, h2, this]
    · have e : x.2 = y.2 := by omega
      by_cases h3 : x.1 < y.1
      · simp [h3, e]
      · by_cases h4 : y.1 < x.1 <;> simp [h3, h4, e]

def AhP (v : Bool) (w : World) (e : Ending) (w' : World) : Prop := e = .returned (.bool v) ∧ Below w.heap.size w w'
set_option maxHeartbeats 1000000 in
theorem ahead_any (w : World) (hb g cap n : Nat) (f : Nat → En) (pl : Int → Int) (a b : Nat) (v : Bool) (h : HM w hb g cap n f pl) (ha : a < n) (hb' : b < n) (hv : decide (lt (f a) (f b)) = v) :
    Calls Try.prog 64 #[.pointer (some ⟨hb, 0, none⟩), .int .i64 a, .int .i64 b] w (AhP v w) := by
  have HC := fun w' => cmp_any (f a) (f b) w'
  rw [← cf_lt] at hv
  have hle := h.le
  have hmx := h.max
  have hlh := h.P.lt
  have hlg := h.E.lt
  have c0 := h.P.cell0
  have e1 := h.E.cell1 ha
  have e2 := h.E.cell2 ha
  have e3 := h.E.cell1 hb'
  have e4 := h.E.cell2 hb'
  generalize f a = x at *
  generalize f b = y at *
  obtain ⟨x1, x2⟩ := x
  obtain ⟨y1, y2⟩ := y
  generalize cf (x1, x2) (y1, y2) = r at *
  have HV := Lib.hid hv
  unfold maxLen at hmx
  dsimp only at *
  have C0 := fun n os => cell_grown (w := w) (a := ⟨hb, 0, none⟩) hlh c0 n os
  have E1 := fun n os => cell_grown (w := w) (a := ⟨g, a * 2, none⟩) hlg e1 n os
  have E2 := fun n os => cell_grown (w := w) (a := ⟨g, a * 2 + 1, none⟩) hlg e2 n os
  have E3 := fun n os => cell_grown (w := w) (a := ⟨g, b * 2, none⟩) hlg e3 n os
  have E4 := fun n os => cell_grown (w := w) (a := ⟨g, b * 2 + 1, none⟩) hlg e4 n os
  have mixed : Try.prog.follows .mixedOrders = true := by kernel_rfl
  clear h hv c0 e1 e2 e3 e4
  go_enter Try.func64, Try.ntmps64
  go_wp2_with fail
  go_quiet_grown ((go_at_call 66; refine Calls.grown_of ((HC _).mono fun _ _ h => h)))
  clear C0 E1 E2 E3 E4 HC mixed
  go_wp2_with fail
  go_ret
  exact ⟨by rw [HV.out]; rfl, Grw.below ⟨nq, osq, rfl⟩⟩

/-- a swap, with what the entries stand for -/
def SwP (hb g cap n : Nat) (f : Nat → En) (m : Mp) (w : World) (e : Ending) (w' : World) : Prop := e = .returned (.tuple #[]) ∧ (∃ pl, HM w' hb g cap n f pl ∧ Rep f n pl m) ∧ Only (Two hb g) w w'
theorem rep_nat {f : Nat → En} {n : Nat} {pl : Int → Int} {m : Mp} (h : Rep f n pl m) {i : Nat} (hi : i < n) : ∃ j : Nat, (f i).1 = j ∧ j < 64 := by
  obtain ⟨x1, x2, _⟩ := h.ent i hi
  exact ⟨(f i).1.toNat, by omega, by omega⟩
theorem swap_rep (w : World) (hb g cap n : Nat) (f : Nat → En) (pl : Int → Int) (m : Mp) (a b : Nat) (h : HM w hb g cap n f pl) (r : Rep f n pl m) (ha : a < n) (hb' : b < n) :
    Calls Try.prog 65 #[.pointer (some ⟨hb, 0, none⟩), .int .i64 a, .int .i64 b] w (SwP hb g cap n (sw f a b) m w) := by
  obtain ⟨i, hi, hi'⟩ := rep_nat r ha
  obtain ⟨j, hj, hj'⟩ := rep_nat r hb'
  exact (swap_any w hb g cap n f pl a b i j h ha hb' hi hj hi' hj').mono fun e w' ⟨he, hm, ho⟩ => ⟨he, ⟨_, hm, r.swap ha hb'⟩, ho⟩

end Go.Proofs.Ytfjeoefnpcgnnaa.Rq
