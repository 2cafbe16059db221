/- RankKnown: ranks that are none; both ends of all. -/
import Derived.Test.YtoiegoehebkjgaaWalksR
import Derived.Test.YtoiegoehebkjgaaWalksL
namespace Go.Proofs.Ytoiegoehebkjgaa
open Go.RowKit Rk
set_option linter.unusedVariables false

/-- a rank that is none -/
def NoneAt (w : World) (v : Value) : Prop := v = .pointer none ∨ ∃ zb, v = .pointer (some ⟨zb, 0, none⟩) ∧ w.heap[zb]? = some (.cells #[.pointer none] 50 (0, 0))
theorem none_isNone (w : World) (v : Value) (h : NoneAt w v) : Calls Try.prog 30 #[v] w (IsB true w) := by
  rcases h with rfl | ⟨zb, rfl, h⟩
  · go_enter Try.func30, Try.ntmps30
    go_wp2
    go_ret
    exact ⟨rfl, rfl⟩
  · have hc := cell_of_one h
    clear h
    go_enter Try.func30, Try.ntmps30
    go_wp2
    go_ret
    exact ⟨rfl, rfl⟩
theorem none_put (w : World) (v : Value) (id k : Int) (h : NoneAt w v) : Calls Try.prog 16 #[v, .int .i64 id, .int .i64 k] w (IsN 1 w) := by
  have HN := Lib.hid (none_isNone w v h)
  clear h
  go_enter Try.func16, Try.ntmps16
  go_wp2_with fail
  refine HN.out.mono ?_
  rintro e w' ⟨rfl, rfl⟩
  go_wp2_with fail
  go_ret
  exact ⟨rfl, rfl⟩
theorem none_low (w : World) (v : Value) (id k : Int) (h : NoneAt w v) : Calls Try.prog 17 #[v, .int .i64 id, .int .i64 k] w (IsN 1 w) := by
  have HN := Lib.hid (none_isNone w v h)
  clear h
  go_enter Try.func17, Try.ntmps17
  go_wp2_with fail
  refine HN.out.mono ?_
  rintro e w' ⟨rfl, rfl⟩
  go_wp2_with fail
  go_ret
  exact ⟨rfl, rfl⟩
theorem none_rem (w : World) (v : Value) (id : Int) (h : NoneAt w v) : Calls Try.prog 18 #[v, .int .i64 id] w (IsB false w) := by
  have HN := Lib.hid (none_isNone w v h)
  clear h
  go_enter Try.func18, Try.ntmps18
  go_wp2_with fail
  refine HN.out.mono ?_
  rintro e w' ⟨rfl, rfl⟩
  go_wp2_with fail
  go_ret
  exact ⟨rfl, rfl⟩
theorem none_len (w : World) (v : Value) (h : NoneAt w v) : Calls Try.prog 19 #[v] w (IsN 0 w) := by
  have HN := Lib.hid (none_isNone w v h)
  clear h
  go_enter Try.func19, Try.ntmps19
  go_wp2_with fail
  refine HN.out.mono ?_
  rintro e w' ⟨rfl, rfl⟩
  go_wp2_with fail
  go_ret
  exact ⟨rfl, rfl⟩
def IsT (v : Value) (w : World) (e : Ending) (w' : World) : Prop := e = .returned v ∧ w = w'
theorem none_first (w : World) (v : Value) (h : NoneAt w v) : Calls Try.prog 21 #[v] w (IsT (.tuple #[.int .i64 0, .int .i64 0, .bool false]) w) := by
  have HN := Lib.hid (none_len w v h)
  clear h
  go_enter Try.func21, Try.ntmps21
  go_wp2_with fail
  refine HN.out.mono ?_
  rintro e w' ⟨rfl, rfl⟩
  go_wp2_with fail
  go_ret3
  exact ⟨rfl, rfl⟩
theorem none_pop (w : World) (v : Value) (h : NoneAt w v) : Calls Try.prog 20 #[v] w (IsT (.tuple #[.int .i64 0, .int .i64 0, .bool false]) w) := by
  have HN := Lib.hid (none_first w v h)
  clear h
  go_enter Try.func20, Try.ntmps20
  go_wp2_with fail
  refine HN.out.mono ?_
  rintro e w' ⟨rfl, rfl⟩
  go_wp2_with fail
  go_ret3
  exact ⟨rfl, rfl⟩
theorem none_key (w : World) (v : Value) (id : Int) (h : NoneAt w v) : Calls Try.prog 22 #[v, .int .i64 id] w (IsT (.tuple #[.int .i64 0, .bool false]) w) := by
  have HN := Lib.hid (none_isNone w v h)
  clear h
  go_enter Try.func22, Try.ntmps22
  go_wp2_with fail
  refine HN.out.mono ?_
  rintro e w' ⟨rfl, rfl⟩
  go_wp2_with fail
  go_ret2
  exact ⟨rfl, rfl⟩
theorem none_ids (w : World) (v : Value) (h : NoneAt w v) : Calls Try.prog 11 #[v] w (IsT (.slice none 0 0) w) := by
  have HN := Lib.hid (none_isNone w v h)
  clear h
  go_enter Try.func11, Try.ntmps11
  go_wp2_with fail
  refine HN.out.mono ?_
  rintro e w' ⟨rfl, rfl⟩
  go_wp2_with fail
  go_ret
  exact ⟨rfl, rfl⟩

theorem info29 : (Try.prog.info? 29).map (fun i => (i.zero, i.size, i.bytes)) = some (some (.agg #[.int .i64 0, .int .i64 0, .int .i64 0]), 3, 24) := by kernel_rfl
/-- a list of calls of the call's own: cells that are numbers -/
def LW (w : World) (B : Nat) (v : Value) (n : Nat) : Prop := ∃ xs, w.ownsRow B 29 3 v n xs ∧ ∀ u ∈ xs, ∃ z : Int, u = .int .i64 z
theorem LW.nil (w : World) (B : Nat) : LW w B (.slice none 0 0) 0 := ⟨[], World.ownsRow_nil w B 29 3, fun u hu => by cases hu⟩
theorem LW.form {w : World} {B : Nat} {v : Value} {n : Nat} (h : LW w B v n) (hn : 0 < n) : ∃ (g cap : Nat) (zk zi zy : Nat → Int), v = .slice (some ⟨g, 0, none⟩) n cap ∧ n ≤ cap ∧ cap ≤ maxLen ∧ B ≤ g ∧ Calls3 w g 0 n zk zi zy := by
  obtain ⟨xs, ho, hx⟩ := h
  rcases ho.2 with ⟨_, h0⟩ | ⟨g, cap, cur, hv, hb, hg, h1, h2, _⟩
  · omega
  · subst hv
    have hz : ∀ j, ∃ z : Int, j < n * 3 → w.cell? ⟨g, j, none⟩ = some (.int .i64 z) := fun j => by
      by_cases hj : j < n * 3
      · have hjl : j < xs.length := by rw [ho.1]; exact hj
        obtain ⟨z, hz⟩ := hx _ (List.getElem_mem hjl)
        exact ⟨z, fun _ => by rw [ho.cellAt j hj, List.getElem?_eq_getElem hjl, hz]⟩
      · exact ⟨0, fun h => (hj h).elim⟩
    obtain ⟨z, hzz⟩ : ∃ z : Nat → Int, ∀ j, j < n * 3 → w.cell? ⟨g, j, none⟩ = some (.int .i64 (z j)) := ⟨fun j => Classical.choose (hz j), fun j => Classical.choose_spec (hz j)⟩
    refine ⟨g, cap, fun i => z (i * 3), fun i => z (i * 3 + 1), fun i => z (i * 3 + 2), rfl, h1, h2, hb, fun i hi => ?_⟩
    simp only [Nat.zero_add]
    exact ⟨hzz _ (by omega), hzz _ (by omega), hzz _ (by omega)⟩
theorem LW.own {w : World} {B : Nat} {v : Value} {n : Nat} (h : LW w B v n) : ∀ k, v.ownBlock = some k → B ≤ k := fun k hk => by obtain ⟨xs, ho, _⟩ := h; exact (ho.lt k hk).1
theorem LW.more {w : World} {B : Nat} {v : Value} {n m : Nat} {xs ys : List Value} (h : w.ownsRow B 29 3 v (n + m) (xs ++ ys)) (hx : ∀ u ∈ xs, ∃ z : Int, u = .int .i64 z) (hy : ∀ u ∈ ys, ∃ z : Int, u = .int .i64 z) : LW w B v (n + m) :=
  ⟨_, h, fun u hu => by rcases List.mem_append.1 hu with h | h; · exact hx u h
                        · exact hy u h⟩
theorem cells_new (w : World) (xs : List Value) (t : TypeId) : ∀ (j : Nat) (u : Value), xs[j]? = some u → (w.alloc (.cells xs.toArray t)).cell? ((⟨w.heap.size, 0, none⟩ : Addr).add j) = some u := by
  intro j u hj
  rw [Addr.add_lit, Nat.zero_add, cell_of_row _ _ _ _ _ _ (heap_alloc_new w _)]
  simpa using hj
theorem one_of_int {xs : List Value} (h : ∀ u ∈ xs, ∃ z : Int, u = .int .i64 z) : ∀ u ∈ xs, u.oneCell' = true := fun u hu => by obtain ⟨z, rfl⟩ := h u hu; rfl

def allInt : List Value → Bool
  | [] => true
  | .int .i64 _ :: l => allInt l
  | _ :: _ => false
theorem allInt_of : ∀ {l : List Value}, allInt l = true → ∀ u ∈ l, ∃ z : Int, u = .int .i64 z
  | [], _, u, hu => by cases hu
  | .int .i64 z :: l, h, u, hu => by
    rcases List.mem_cons.1 hu with rfl | hu
    · exact ⟨z, rfl⟩
    · exact allInt_of (l := l) h u hu
def nine : List Value := [.int .i64 0, .int .i64 64, .int .i64 0, .int .i64 0, .int .i64 (-1), .int .i64 0, .int .i64 1, .int .i64 64, .int .i64 0, .int .i64 1, .int .i64 (-1), .int .i64 0, .int .i64 2, .int .i64 70, .int .i64 0,
  .int .i64 2, .int .i64 5, .int .i64 0, .int .i64 1, .int .i64 5, .int .i64 0, .int .i64 0, .int .i64 5, .int .i64 (-9223372036854775808), .int .i64 1, .int .i64 6, .int .i64 9223372036854775807]
theorem Calls3.less {w : World} {b off n n' : Nat} {zk zi zy : Nat → Int} (h : Calls3 w b off n zk zi zy) (hn : n' ≤ n) : Calls3 w b off n' zk zi zy := fun i hi => h i (by omega)

set_option maxRecDepth 100000 in
set_option maxHeartbeats 16000000 in
theorem known_law (w : World) : Calls Try.prog 6 #[] w (TrueB w) := by
  obtain ⟨i0, hi, hz0, hz1, hz2⟩ := info_parts info29
  have HInfo := Lib.hid (⟨hi, hz0, hz1, hz2⟩ : _ ∧ _ ∧ _ ∧ _)
  clear hi hz0 hz1 hz2
  go_enter Try.func6, Try.ntmps6
  go_wp2_with fail
  go_loopw [1, 2] (fun v i wr => ∃ i' : Nat, i' ≤ 2 ∧ i = .int .i64 i' ∧ Hid (NoneAt wr v) ∧ Hid (Below w.heap.size w wr)) (fun _ i _ => 2 - (intOf i).toNat)
  case atStart => exact ⟨0, by omega, rfl, Or.inl rfl, Below.refl _ _⟩
  case round =>
    obtain ⟨i, hi, rfl, HNo, HB⟩ := hrel
    by_cases hlt : i < 2
    · go_wp2_with fail
      refine (none_first _ _ HNo.out).mono ?_
      rintro e w0 ⟨rfl, rfl⟩
      go_wp2_with fail
      refine (none_pop _ _ HNo.out).mono ?_
      rintro e w0 ⟨rfl, rfl⟩
      go_wp2_with fail
      refine (none_key _ _ _ HNo.out).mono ?_
      rintro e w0 ⟨rfl, rfl⟩
      go_wp2_with fail
      refine (none_put _ _ _ _ HNo.out).mono ?_
      rintro e w0 ⟨rfl, rfl⟩
      go_wp2_with fail
      refine (none_low _ _ _ _ HNo.out).mono ?_
      rintro e w0 ⟨rfl, rfl⟩
      go_wp2_with fail
      refine (none_rem _ _ _ HNo.out).mono ?_
      rintro e w0 ⟨rfl, rfl⟩
      go_wp2_with fail
      refine (none_len _ _ HNo.out).mono ?_
      rintro e w0 ⟨rfl, rfl⟩
      go_wp2_with fail
      refine (none_ids _ _ HNo.out).mono ?_
      rintro e w0 ⟨rfl, rfl⟩
      have HN2 : Hid (NoneAt (wr.alloc (.cells #[.pointer none] 50)) (.pointer (some ⟨wr.heap.size, 0, none⟩))) := Or.inr ⟨_, rfl, heap_alloc_new wr _⟩
      have HB2 : Hid (Below w.heap.size w (wr.alloc (.cells #[.pointer none] 50))) := HB.out.alloc HB.out.size _
      go_wp2_with fail
      go_roundw
      case rel => exact ⟨i + 1, by omega, by go_num, HN2, HB2⟩
      case measure => simp [intOf]; omega
    · obtain rfl : i = 2 := by omega
      clear HNo
      rw [show ((2 : Nat) : Int) = 2 from rfl]
      go_wp2_with fail
      go_loopw [11, 12] (fun l i wr => ∃ i' : Nat, i' ≤ 70 ∧ i = .int .i64 i' ∧ Hid (LW wr w.heap.size l (2 * i')) ∧ Hid (Below w.heap.size w wr)) (fun _ i _ => 70 - (intOf i).toNat)
      case atStart => exact ⟨0, by omega, rfl, LW.nil _ _, HB⟩
      case round =>
        clear HB
        obtain ⟨i, hi, rfl, HL, HB⟩ := hrel
        by_cases hlt : i < 70
        · obtain ⟨xs, ho, hx⟩ := HL.out
          have HOo := Lib.hid ho
          have HXx := Lib.hid hx
          clear ho hx
          have Hm1 : Hid (2 * i + 2 ≤ maxLen) := by unfold Hid maxLen; omega
          have Hm2 : Hid ((2 * i + 2) * 24 ≤ 140737488355328) := by unfold Hid; omega
          have Hm3 : ∀ o, Hid (w.heap.size ≤ (wr.alloc o).heap.size) := fun o => by have := HB.out.size; unfold Hid; simp; omega
          go_wp2_with (at_builtin; refine wpList_append_own _ rfl _ _ 22 rfl w.heap.size 29 i0 _ 3 24 Try.underlying22 HInfo.out.1 HInfo.out.2.1 HInfo.out.2.2.1 HInfo.out.2.2.2 rfl (by decide) _ (2 * i) _ rfl (World.ownsRow.alloc HOo.out _) ⟨wr.heap.size, 0, none⟩ 2 2 [.int .i64 0, .int .i64 (↑i * 37 % 66 - 1), .int .i64 (↑i % 5), .int .i64 1, .int .i64 ↑i, .int .i64 (-↑i)] rfl rfl (cells_new _ _ _) (one_of_int (allInt_of rfl)) Hm1.out Hm2.out (Hm3 _).out ?_)
          intro v' w1 hown hgrow _
          have HL2 : Hid (LW w1 w.heap.size v' (2 * (i + 1))) := LW.more (n := 2 * i) (m := 2) hown HXx.out (allInt_of rfl)
          have HB2 : Hid (Below w.heap.size w w1) := (HB.out.alloc HB.out.size _).grown hgrow (Hm3 _).out (fun k hk => HL.out.own k hk)
          clear hown hgrow Hm1 Hm2 Hm3 HOo HXx HL HB
          go_wp2_with fail
          go_roundw
          case rel => exact ⟨i + 1, by omega, by go_num, HL2, HB2⟩
          case measure => simp [intOf]; omega
        · obtain rfl : i = 70 := by omega
          rw [show ((70 : Nat) : Int) = 70 from rfl]
          obtain ⟨xs, ho, hx⟩ := HL.out
          have HOo := Lib.hid ho
          have HXx := Lib.hid hx
          clear ho hx
          have Hm1 : Hid (140 + 9 ≤ maxLen) := by unfold Hid maxLen; omega
          have Hm2 : Hid ((140 + 9) * 24 ≤ 140737488355328) := by unfold Hid; omega
          have Hm3 : ∀ o, Hid (w.heap.size ≤ (wr.alloc o).heap.size) := fun o => by have := HB.out.size; unfold Hid; simp; omega
          go_wp2_with (at_builtin; refine wpList_append_own _ rfl _ _ 22 rfl w.heap.size 29 i0 _ 3 24 Try.underlying22 HInfo.out.1 HInfo.out.2.1 HInfo.out.2.2.1 HInfo.out.2.2.2 rfl (by decide) _ 140 _ rfl (World.ownsRow.alloc HOo.out _) ⟨wr.heap.size, 0, none⟩ 9 9 nine rfl rfl (cells_new _ _ _) (one_of_int (allInt_of rfl)) Hm1.out Hm2.out (Hm3 _).out ?_)
          intro v' w1 hown hgrow _
          have HL2 : Hid (LW w1 w.heap.size v' 149) := LW.more (n := 140) (m := 9) hown HXx.out (allInt_of rfl)
          have HB2 : Hid (Below w.heap.size w w1) := (HB.out.alloc HB.out.size _).grown hgrow (Hm3 _).out (fun k hk => HL.out.own k hk)
          clear hown hgrow Hm1 Hm2 Hm3 HOo HXx HL HB
          go_wp2_with fail
          go_loopw [11, 13] (fun l i wr => ∃ i' : Nat, i' ≤ 70 ∧ i = .int .i64 i' ∧ Hid (LW wr w.heap.size l (149 + i')) ∧ Hid (Below w.heap.size w wr)) (fun _ i _ => 70 - (intOf i).toNat)
          case atStart => exact ⟨0, by omega, rfl, HL2, HB2⟩
          case round =>
            clear HL2 HB2
            obtain ⟨i, hi, rfl, HL, HB⟩ := hrel
            by_cases hlt : i < 70
            · obtain ⟨xs, ho, hx⟩ := HL.out
              have HOo := Lib.hid ho
              have HXx := Lib.hid hx
              clear ho hx
              have Hm1 : Hid (149 + i + 1 ≤ maxLen) := by unfold Hid maxLen; omega
              have Hm2 : Hid ((149 + i + 1) * 24 ≤ 140737488355328) := by unfold Hid; omega
              have Hm3 : ∀ o, Hid (w.heap.size ≤ (wr.alloc o).heap.size) := fun o => by have := HB.out.size; unfold Hid; simp; omega
              go_wp2_with (at_builtin; refine wpList_append_own _ rfl _ _ 22 rfl w.heap.size 29 i0 _ 3 24 Try.underlying22 HInfo.out.1 HInfo.out.2.1 HInfo.out.2.2.1 HInfo.out.2.2.2 rfl (by decide) _ (149 + i) _ rfl (World.ownsRow.alloc HOo.out _) ⟨wr.heap.size, 0, none⟩ 1 1 [.int .i64 3, .int .i64 0, .int .i64 0] rfl rfl (cells_new _ _ _) (one_of_int (allInt_of rfl)) Hm1.out Hm2.out (Hm3 _).out ?_)
              intro v' w1 hown hgrow _
              have HL2 : Hid (LW w1 w.heap.size v' (149 + (i + 1))) := LW.more (n := 149 + i) (m := 1) hown HXx.out (allInt_of rfl)
              have HB2 : Hid (Below w.heap.size w w1) := (HB.out.alloc HB.out.size _).grown hgrow (Hm3 _).out (fun k hk => HL.out.own k hk)
              clear hown hgrow Hm1 Hm2 Hm3 HOo HXx HL HB
              go_wp2_with fail
              go_roundw
              case rel => exact ⟨i + 1, by omega, by go_num, HL2, HB2⟩
              case measure => simp [intOf]; omega
            · obtain rfl : i = 70 := by omega
              rw [show ((70 : Nat) : Int) = 70 from rfl]
              obtain ⟨g, cap, zk, zi, zy, hv, hcap, hmx, hbg, hc3⟩ := HL.out.form (by omega)
              have HC3 := Lib.hid hc3
              have hcap2 : 140 ≤ cap := by omega
              subst hv
              unfold maxLen at hmx
              clear HL hc3 hcap hbg
              go_wp2_with fail
              refine (works_any wr).mono ?_
              rintro e w3 ⟨rfl, hb3⟩
              have HC4 := Lib.hid (HC3.out.below hb3)
              have HB3 : Hid (Below w.heap.size w w3) := HB.out.trans (hb3.mono HB.out.size)
              clear hb3 HC3 HB
              go_wp2_with fail
              refine (plays_law g 0 cap 219 zk zi zy w3 (by omega) HC4.out).mono ?_
              rintro e w4 ⟨rfl, hb4⟩
              have HC5 := Lib.hid (HC4.out.below hb4)
              have HB4 : Hid (Below w.heap.size w w4) := HB3.out.trans (hb4.mono HB3.out.size)
              clear hb4 HC4 HB3
              go_wp2_with fail
              refine (plays_nil none 0 w4).mono ?_
              rintro e w5 ⟨rfl, hb5⟩
              have HC6 := Lib.hid ((HC5.out.below hb5).less (n' := 140) (by omega))
              have HB5 : Hid (Below w.heap.size w w5) := HB4.out.trans (hb5.mono HB4.out.size)
              clear hb5 HC5 HB4
              go_wp2_with fail
              refine (order_law g 0 cap 140 zk zi zy w5 (by omega) HC6.out).mono ?_
              rintro e w6 ⟨rfl, hb6⟩
              have HB6 : Hid (Below w.heap.size w w6) := HB5.out.trans (hb6.mono HB5.out.size)
              clear hb6 HC6 HB5
              go_wp2_with fail
              go_ret
              exact ⟨rfl, HB6.out⟩

end Go.Proofs.Ytoiegoehebkjgaa
