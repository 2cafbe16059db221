/- TicksKnown: both ends of all. -/
import Derived.Test.YtebgfemnfbfnpaaWalksK
import Derived.Deep.RegionHeld3
namespace Go.Proofs.Ytebgfemnfbfnpaa
open Go.RowKit Tk
set_option linter.unusedVariables false

theorem SS.drew {w W : World} {B : Nat} {p q : Addr} {x y : Value} (h : w.cell? p = some x ∧ w.cell? q = some y ∧ Below B W w) : w.drew.cell? p = some x ∧ w.drew.cell? q = some y ∧ Below B W w.drew := ⟨h.1, h.2.1, h.2.2.drew⟩
theorem SS.alloc {w W : World} {B : Nat} {p q : Addr} {x y : Value} (hB : B ≤ W.heap.size) (h : w.cell? p = some x ∧ w.cell? q = some y ∧ Below B W w) (o : Obj) : (w.alloc o).cell? p = some x ∧ (w.alloc o).cell? q = some y ∧ Below B W (w.alloc o) :=
  ⟨by rw [World.cell?_alloc_lt _ _ _ (World.block_lt_of_cell? w p h.1)]; exact h.1, by rw [World.cell?_alloc_lt _ _ _ (World.block_lt_of_cell? w q h.2.1)]; exact h.2.1, h.2.2.alloc (Nat.le_trans hB h.2.2.size) o⟩
theorem SS.below {w w' W : World} {B : Nat} {p q : Addr} {x y : Value} (hB : B ≤ W.heap.size) (h : w.cell? p = some x ∧ w.cell? q = some y ∧ Below B W w) (hb : Below w.heap.size w w') : w'.cell? p = some x ∧ w'.cell? q = some y ∧ Below B W w' :=
  ⟨(hb.cell (World.block_lt_of_cell? w p h.1)).trans h.1, (hb.cell (World.block_lt_of_cell? w q h.2.1)).trans h.2.1, h.2.2.trans (hb.mono (Nat.le_trans hB h.2.2.size))⟩

/-- a law's call, with what is to be kept -/
def TS (B : Nat) (W : World) (p q : Addr) (x y : Value) (e : Ending) (w' : World) : Prop := e = .returned (.bool true) ∧ (w'.cell? p = some x ∧ w'.cell? q = some y ∧ Below B W w')

theorem two_S {W : World} {B : Nat} {p q : Addr} {x y : Value} (hB : B ≤ W.heap.size) (a b : Int) (w : World) (h : w.cell? p = some x ∧ w.cell? q = some y ∧ Below B W w) : Calls Try.prog 3 #[.int .i64 a, .int .i64 b] w (TS B W p q x y) :=
  (two_law a b w).mono fun e w' ⟨he, hb⟩ => ⟨he, SS.below hB h hb⟩
theorem many_S {W : World} {B : Nat} {p q : Addr} {x y : Value} (hB : B ≤ W.heap.size) (limit u v : Int) (w : World) (h : w.cell? p = some x ∧ w.cell? q = some y ∧ Below B W w) :
    Calls Try.prog 4 #[.int .i64 limit, .slice (some ⟨w.heap.size, 0, none⟩) 2 2] (w.alloc (.cells #[.int .i64 u, .int .i64 v] 3)) (TS B W p q x y) :=
  (many_law limit (some ⟨w.heap.size, 0, none⟩) 2 2 [u, v] _ rfl (by omega) (Row.made w [u, v]) (fun h => by cases h)).mono fun e w' ⟨he, hb⟩ => ⟨he, SS.below hB (SS.alloc hB h _) hb⟩

def ends : List Int := [-9223372036854775808, -1, 0, 1, 2, 63, 1048576, 1048577, 549755813888, 1099511627775, 1099511627776, 1099511627777, 9223372036854775807]

theorem Row.at0 {w : World} {g : Nat} {zs : List Int} (h : Row w (some ⟨g, 0, none⟩) zs) (i : Nat) (hi : i < zs.length) : w.cell? ⟨g, i, none⟩ = some (.int .i64 (zs.getD i 0)) := by
  rcases h with rfl | ⟨b, off, e, hc⟩
  · simp at hi
  · simp only [Option.some.injEq, Addr.mk.injEq] at e
    obtain ⟨rfl, rfl, _⟩ := e
    simpa using hc i hi

theorem all5 (w : World) : Calls Try.prog 7 #[.slice (some ⟨w.heap.size, 0, none⟩) 5 5] (w.alloc (.cells #[.int .i64 6, .int .i64 8, .int .i64 9, .int .i64 11, .int .i64 10] 3)) (TrueB (w.alloc (.cells #[.int .i64 6, .int .i64 8, .int .i64 9, .int .i64 11, .int .i64 10] 3))) :=
  all_law (some ⟨w.heap.size, 0, none⟩) 5 5 [6, 8, 9, 11, 10] _ rfl (by omega) (Row.made w [6, 8, 9, 11, 10]) (fun i => by
    rcases i with _ | _ | _ | _ | _ | i <;> simp [List.getD])

set_option maxRecDepth 100000 in
set_option maxHeartbeats 4000000 in
theorem known_law (w : World) : Calls Try.prog 8 #[] w (TrueB w) := by
  go_enter Try.func8, Try.ntmps8
  go_wp2_with fail
  go_loopw [2] (fun i wr => ∃ j : Nat, j ≤ 13 ∧ i = .int .i64 j ∧ Hid (Row wr (some ⟨w.heap.size, 0, none⟩) ends) ∧ Below w.heap.size w wr) (fun i _ => 13 - (intOf i).toNat)
  case atStart => exact ⟨0, by omega, rfl, Row.made w ends, below_alloc _ _⟩
  case round =>
    obtain ⟨j, hj, rfl, HR, HB⟩ := hrel
    by_cases hlt : j < 13
    · obtain ⟨x, HX⟩ : ∃ x, Hid (ends.getD j 0 = x) := ⟨_, rfl⟩
      have hj0 : (0 : Int) ≤ j := by omega
      have hj13 : (j : Int) < 13 := by omega
      have hjd : decide ((j : Int) < 13) = true := by simpa using hj13
      go_wp2_with fail
      obtain ⟨wo, rfl⟩ : ∃ wo : World, wo = wr := ⟨_, rfl⟩
      go_loopw [3] (fun i wr => ∃ k : Nat, k ≤ 13 ∧ i = .int .i64 k ∧ Hid (Row wr (some ⟨w.heap.size, 0, none⟩) ends) ∧ Below w.heap.size w wr) (fun i _ => 13 - (intOf i).toNat)
      case atStart => exact ⟨0, by omega, rfl, HR, HB⟩
      case round =>
        clear HR HB
        obtain ⟨k, hk, rfl, HR, HB⟩ := hrel
        by_cases hlk : k < 13
        · obtain ⟨y, HY⟩ : ∃ y, Hid (ends.getD k 0 = y) := ⟨_, rfl⟩
          have c1 := HR.out.at0 j hlt
          have c2 := HR.out.at0 k hlk
          rw [HX.out] at c1
          rw [HY.out] at c2
          have hk0 : (0 : Int) ≤ k := by omega
          have hk13 : (k : Int) < 13 := by omega
          have hss := Lib.hid (⟨c1, c2, Below.refl _ _⟩ : wr.cell? ⟨w.heap.size, j, none⟩ = some (.int .i64 x) ∧ wr.cell? ⟨w.heap.size, k, none⟩ = some (.int .i64 y) ∧ Below wr.heap.size wr wr)
          go_wp2_with fail
          go_region_held3 (fun w' => w'.cell? ⟨w.heap.size, j, none⟩ = some (.int .i64 x) ∧ w'.cell? ⟨w.heap.size, k, none⟩ = some (.int .i64 y) ∧ Below wr.heap.size wr w')
            (first | assumption | exact SS.drew hss.out | exact SS.alloc (Nat.le_refl _) (by assumption) _ | go_keep)
            (first | (go_at_call 3; refine (two_S (Nat.le_refl _) _ _ _ (by assumption)).mono ?_; rintro e w' ⟨rfl, hq⟩) | (go_at_call 4; refine (many_S (Nat.le_refl _) _ _ _ _ (by assumption)).mono ?_; rintro e w' ⟨rfl, hq⟩))
          have HR2 := Lib.hid (HR.out.below hq.2.2)
          have HB2 := Lib.hid (chain HB hq.2.2)
          go_wp2
          go_roundw
          case rel => exact ⟨k + 1, by omega, by go_num, HR2, HB2.out⟩
          case measure => simp [intOf]; omega
        · go_wp2
          go_roundw
          case rel => exact ⟨j + 1, by omega, by go_num, HR, HB⟩
          case measure => simp [intOf]; omega
    · go_wp2_with fail
      refine (works_any _).mono ?_
      rintro e w1 ⟨rfl, hb1⟩
      have hs1 : Below w.heap.size w w1 := chain HB hb1
      clear HB hb1
      go_wp2_with fail
      refine (many_law 0 none 0 0 [] _ rfl (by omega) (Or.inl rfl) (fun _ => ⟨rfl, rfl⟩)).mono ?_
      rintro e w2 ⟨rfl, hb2⟩
      have hs2 : Below w.heap.size w w2 := chain hs1 hb2
      clear hs1 hb2
      go_wp2_with fail
      refine (many_law 5 none 0 0 [] _ rfl (by omega) (Or.inl rfl) (fun _ => ⟨rfl, rfl⟩)).mono ?_
      rintro e w3 ⟨rfl, hb3⟩
      have hs3 : Below w.heap.size w w3 := chain hs2 hb3
      clear hs2 hb3
      go_wp2_with fail
      refine (many_law (-1) none 0 0 [] _ rfl (by omega) (Or.inl rfl) (fun _ => ⟨rfl, rfl⟩)).mono ?_
      rintro e w4 ⟨rfl, hb4⟩
      have hs4 : Below w.heap.size w w4 := chain hs3 hb4
      clear hs3 hb4
      go_wp2_with fail
      refine (all5 _).mono ?_
      rintro e w5 ⟨rfl, hb5⟩
      have hs5 : Below w.heap.size w w5 := chainA hs4 hb5
      clear hs4 hb5
      go_wp2_with fail
      go_ret
      exact ⟨rfl, hs5⟩

end Go.Proofs.Ytebgfemnfbfnpaa
