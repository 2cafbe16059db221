/- LevelKnown: both ends of all. -/
import Derived.Test.YtcanghpimfdedaaLevF
import Derived.Deep.RegionHeld3
namespace Go.Proofs.Ytcanghpimfdedaa
open Go.RowKit Lv
set_option linter.unusedVariables false

theorem SK.drew {w W : World} {B : Nat} {p q : Addr} {x y : Value} (h : w.cell? p = some x ∧ w.cell? q = some y ∧ Below B W w) : w.drew.cell? p = some x ∧ w.drew.cell? q = some y ∧ Below B W w.drew := ⟨h.1, h.2.1, h.2.2.drew⟩
theorem SK.alloc {w W : World} {B : Nat} {p q : Addr} {x y : Value} (hB : B ≤ W.heap.size) (h : w.cell? p = some x ∧ w.cell? q = some y ∧ Below B W w) (o : Obj) : (w.alloc o).cell? p = some x ∧ (w.alloc o).cell? q = some y ∧ Below B W (w.alloc o) :=
  ⟨by rw [World.cell?_alloc_lt _ _ _ (World.block_lt_of_cell? w p h.1)]; exact h.1, by rw [World.cell?_alloc_lt _ _ _ (World.block_lt_of_cell? w q h.2.1)]; exact h.2.1, h.2.2.alloc (Nat.le_trans hB h.2.2.size) o⟩
theorem SK.below {w w' W : World} {B : Nat} {p q : Addr} {x y : Value} (hB : B ≤ W.heap.size) (h : w.cell? p = some x ∧ w.cell? q = some y ∧ Below B W w) (hb : Below w.heap.size w w') : w'.cell? p = some x ∧ w'.cell? q = some y ∧ Below B W w' :=
  ⟨(hb.cell (World.block_lt_of_cell? w p h.1)).trans h.1, (hb.cell (World.block_lt_of_cell? w q h.2.1)).trans h.2.1, h.2.2.trans (hb.mono (Nat.le_trans hB h.2.2.size))⟩
/-- a law's call, with what is to be kept -/
def SP (B : Nat) (W : World) (p q : Addr) (x y : Value) (e : Ending) (w' : World) : Prop := e = .returned (.bool true) ∧ (w'.cell? p = some x ∧ w'.cell? q = some y ∧ Below B W w')
theorem tells_S {W : World} {p q : Addr} {x y v : Value} {n : Nat} {z : Nat → Nat → Int} (hT : TK W v n z) (a b : Int) (w : World) (h : w.cell? p = some x ∧ w.cell? q = some y ∧ Below W.heap.size W w) :
    Calls Try.prog 3 #[v, .int .i64 a, .int .i64 b] w (SP W.heap.size W p q x y) :=
  (tells_any (hT.below h.2.2) a b).mono fun e w' ⟨he, hb⟩ => ⟨he, SK.below (Nat.le_refl _) h hb⟩
theorem tells_V {W : World} {p q : Addr} {x y v : Value} (a b : Int) (w : World) (h : w.cell? p = some x ∧ w.cell? q = some y ∧ Below W.heap.size W w) (hT : ∃ n z, TK W v n z) :
    Calls Try.prog 3 #[v, .int .i64 a, .int .i64 b] w (SP W.heap.size W p q x y) := by
  obtain ⟨n, z, hT⟩ := hT; exact tells_S hT a b w h
theorem highs_S {W : World} {p q : Addr} {x y v : Value} {n : Nat} {z : Nat → Nat → Int} (hT : TK W v n z) (a b : Int) (w : World) (h : w.cell? p = some x ∧ w.cell? q = some y ∧ Below W.heap.size W w) :
    Calls Try.prog 4 #[v, .slice (some ⟨w.heap.size, 0, none⟩) 2 2] (w.alloc (.cells #[.int .i64 a, .int .i64 b] 3)) (SP W.heap.size W p q x y) :=
  (highs_any (rs := [a, b]) ((hT.below h.2.2).below ((Below.refl _ w).alloc (Nat.le_refl _) _)) (lit_is w [a, b] (by unfold maxLen; simp only [List.length_cons, List.length_nil]; decide))).mono
    fun e w' ⟨he, hb⟩ => ⟨he, SK.below (Nat.le_refl _) (SK.alloc (Nat.le_refl _) h _) hb⟩
def ends : List Int := [-9223372036854775808, -1, 0, 1, 2, 3, 4, 7, 8, 63, 64, 9223372036854775807]
def kz : List (List Int) := [[0, 1, 0, 255, 0, 0, 0, 0], [0, -4, 0, -1, 0, 0, 0, 0], [0, 4611686018427387904, 0, 4611686018427387904, 0, 0, 0, 0], [0, 0, 0, 128, 0, 0, 0, 0]]
theorem IS.at0 {w : World} {g n cap : Nat} {xs : List Int} (h : IS w (.slice (some ⟨g, 0, none⟩) n cap) xs) (i : Nat) (hi : i < n) : w.cell? ⟨g, i, none⟩ = some (.int .i64 (xs.getD i 0)) := by
  obtain ⟨b, off, e, hc⟩ := h.at hi
  simp only [Option.some.injEq, Addr.mk.injEq] at e
  obtain ⟨rfl, rfl, _⟩ := e
  simpa using hc
theorem two_lits (w : World) : TK ((w.alloc (.cells (kz.flatten.map (Value.int .i64)).toArray 31)).alloc (.cells (ends.map (Value.int .i64)).toArray 3)) (.slice (some ⟨w.heap.size, 0, none⟩) 4 4) 4 (lz kz) ∧
    IS ((w.alloc (.cells (kz.flatten.map (Value.int .i64)).toArray 31)).alloc (.cells (ends.map (Value.int .i64)).toArray 3)) (.slice (some ⟨w.heap.size + 1, 0, none⟩) 12 12) ends ∧
    Below w.heap.size w ((w.alloc (.cells (kz.flatten.map (Value.int .i64)).toArray 31)).alloc (.cells (ends.map (Value.int .i64)).toArray 3)) := by
  refine ⟨(lit_tk w kz (by decide) (by decide) (by decide)).below ((Below.refl _ _).alloc (Nat.le_refl _) _), ?_, ((Below.refl _ w).alloc (Nat.le_refl _) _).alloc (by simp) _⟩
  have := lit_is (w.alloc (.cells (kz.flatten.map (Value.int .i64)).toArray 31)) ends (by decide)
  rw [show (w.alloc (.cells (kz.flatten.map (Value.int .i64)).toArray 31)).heap.size = w.heap.size + 1 by simp] at this
  exact this

set_option maxRecDepth 100000 in
set_option maxHeartbeats 4000000 in
theorem known_law (w : World) : Calls Try.prog 7 #[] w (TrueB w) := by
  have H2 := Lib.hid (two_lits w)
  go_enter Try.func7, Try.ntmps7
  go_wp2_with fail
  go_loopw [3, 4] (fun i _ wr => ∃ j : Nat, j ≤ 12 ∧ i = .int .i64 j ∧ Hid (TK wr (.slice (some ⟨w.heap.size, 0, none⟩) 4 4) 4 (lz kz)) ∧ Hid (IS wr (.slice (some ⟨w.heap.size + 1, 0, none⟩) 12 12) ends) ∧ Hid (Below w.heap.size w wr)) (fun i _ _ => 12 - (intOf i).toNat)
  case atStart => exact ⟨0, by omega, rfl, H2.out.1, H2.out.2.1, H2.out.2.2⟩
  case round =>
    obtain ⟨j, hj, rfl, HT, HR, HB⟩ := hrel
    clear H2
    by_cases hlt : j < 12
    · obtain ⟨x, HX⟩ : ∃ x, Hid (ends.getD j 0 = x) := ⟨_, rfl⟩
      have hj0 : (0 : Int) ≤ j := by omega
      have hj13 : (j : Int) < 12 := by omega
      have hjd : decide ((j : Int) < 12) = true := by simpa using hj13
      go_wp2_with fail
      obtain ⟨wo, rfl⟩ : ∃ wo : World, wo = wr := ⟨_, rfl⟩
      go_loopw [4] (fun i wr => ∃ k : Nat, k ≤ 12 ∧ i = .int .i64 k ∧ Hid (TK wr (.slice (some ⟨w.heap.size, 0, none⟩) 4 4) 4 (lz kz)) ∧ Hid (IS wr (.slice (some ⟨w.heap.size + 1, 0, none⟩) 12 12) ends) ∧ Hid (Below w.heap.size w wr)) (fun i _ => 12 - (intOf i).toNat)
      case atStart => exact ⟨0, by omega, rfl, HT, HR, HB⟩
      case round =>
        clear HT HR HB
        obtain ⟨k, hk, rfl, HT, HR, HB⟩ := hrel
        by_cases hlk : k < 12
        · obtain ⟨y, HY⟩ : ∃ y, Hid (ends.getD k 0 = y) := ⟨_, rfl⟩
          have c1 := HR.out.at0 j hlt
          have c2 := HR.out.at0 k hlk
          rw [HX.out] at c1
          rw [HY.out] at c2
          have hk0 : (0 : Int) ≤ k := by omega
          have hk13 : (k : Int) < 12 := by omega
          have hss := Lib.hid (⟨c1, c2, Below.refl _ _⟩ : wr.cell? ⟨w.heap.size + 1, j, none⟩ = some (.int .i64 x) ∧ wr.cell? ⟨w.heap.size + 1, k, none⟩ = some (.int .i64 y) ∧ Below wr.heap.size wr wr)
          go_wp2_with fail
          go_region_held3 (fun w' => w'.cell? ⟨w.heap.size + 1, j, none⟩ = some (.int .i64 x) ∧ w'.cell? ⟨w.heap.size + 1, k, none⟩ = some (.int .i64 y) ∧ Below wr.heap.size wr w')
            (first | assumption | exact SK.drew hss.out | exact SK.alloc (Nat.le_refl _) (by assumption) _ | go_keep)
            (first | (go_at_call 3; refine (tells_V _ _ _ (by assumption) (by first | exact ⟨_, _, HT.out⟩ | exact ⟨0, lz [], TK.nil _ _⟩)).mono ?_; rintro e w' ⟨rfl, hq⟩) | (go_at_call 4; refine (highs_S HT.out _ _ _ (by assumption)).mono ?_; rintro e w' ⟨rfl, hq⟩))
          have HR2 := Lib.hid (HR.out.below hq.2.2)
          have HT2 := Lib.hid (HT.out.below hq.2.2)
          have HB2 := Lib.hid (chn HB.out hq.2.2)
          go_wp2
          go_roundw
          case rel => exact ⟨k + 1, by omega, by go_num, HT2, HR2, HB2⟩
          case measure => simp [intOf]; omega
        · go_wp2
          go_roundw
          case rel => exact ⟨j + 1, by omega, by go_num, HT, HR, HB⟩
          case measure => simp [intOf]; omega
    · go_wp2_with fail
      refine (works_any _).mono ?_
      rintro e w1 ⟨rfl, hb1⟩
      have HB1 := Lib.hid (chn HB.out hb1); have HT1 := Lib.hid (HT.out.below hb1)
      clear hb1
      go_wp2_with fail
      refine (highs_any HT1.out (IS.nil _)).mono ?_
      rintro e w2 ⟨rfl, hb2⟩
      have HB2 := Lib.hid (chn HB1.out hb2); have HT2 := Lib.hid (HT1.out.below hb2)
      clear hb2
      go_wp2_with fail
      refine (order_any HT2.out 1 2).mono ?_
      rintro e w3 ⟨rfl, hb3⟩
      have HB3 := Lib.hid (chn HB2.out hb3)
      clear hb3
      go_wp2_with fail
      go_ret
      exact ⟨rfl, HB3.out⟩
end Go.Proofs.Ytcanghpimfdedaa
