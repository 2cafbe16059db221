/- BellKnown: bells that are none; both ends of all. -/
import Derived.Test.YtdfolbnnhglpeaaBellN
import Derived.Test.YtdfolbnnhglpeaaBellK
import Derived.Deep.RegionLawGrows
import Derived.Deep.RegionHeld3
namespace Go.Proofs.Ytdfolbnnhglpeaa
open Go.RowKit Rk
set_option linter.unusedVariables false

/-- bells that are none -/
def NoneAt (w : World) (v : Value) : Prop := v = .pointer none ∨ ∃ zb, v = .pointer (some ⟨zb, 0, none⟩) ∧ w.heap[zb]? = some (.cells #[.pointer none] 49 (0, 0))
theorem none_isNone (w : World) (v : Value) (h : NoneAt w v) : Calls Try.prog 27 #[v] w (IsB true w) := by
  rcases h with rfl | ⟨zb, rfl, h⟩
  · go_enter Try.func27, Try.ntmps27
    go_wp2
    go_ret
    exact ⟨rfl, rfl⟩
  · have hc := cell_of_one h
    clear h
    go_enter Try.func27, Try.ntmps27
    go_wp2
    go_ret
    exact ⟨rfl, rfl⟩
def IsT (v : Value) (w : World) (e : Ending) (w' : World) : Prop := e = .returned v ∧ w = w'
theorem none_arm (w : World) (v : Value) (kind : Int) (id : Int) (k : Int) (h : NoneAt w v) : Calls Try.prog 19 #[v, .int .i64 kind, .int .i64 id, .int .i64 k] w (IsN 1 w) := by
  have HN := Lib.hid (none_isNone w v h)
  clear h
  go_enter Try.func19, Try.ntmps19
  go_wp2_with fail
  refine HN.out.mono ?_
  rintro e w' ⟨rfl, rfl⟩
  go_wp2_with fail
  go_ret
  exact ⟨rfl, rfl⟩
theorem none_can (w : World) (v : Value) (kind : Int) (id : Int) (h : NoneAt w v) : Calls Try.prog 20 #[v, .int .i64 kind, .int .i64 id] w (IsB false w) := by
  have HN := Lib.hid (none_isNone w v h)
  clear h
  go_enter Try.func20, Try.ntmps20
  go_wp2_with fail
  refine HN.out.mono ?_
  rintro e w' ⟨rfl, rfl⟩
  go_wp2_with fail
  go_ret
  exact ⟨rfl, rfl⟩
theorem none_at (w : World) (v : Value) (kind : Int) (id : Int) (h : NoneAt w v) : Calls Try.prog 12 #[v, .int .i64 kind, .int .i64 id] w (IsT (.tuple #[.int .i64 0, .bool false]) w) := by
  have HN := Lib.hid (none_isNone w v h)
  clear h
  go_enter Try.func12, Try.ntmps12
  go_wp2_with fail
  refine HN.out.mono ?_
  rintro e w' ⟨rfl, rfl⟩
  go_wp2_with fail
  go_ret2
  exact ⟨rfl, rfl⟩
theorem none_next (w : World) (v : Value)  (h : NoneAt w v) : Calls Try.prog 22 #[v] w (IsT (.tuple #[.int .i64 0, .bool false]) w) := by
  have HN := Lib.hid (none_isNone w v h)
  clear h
  go_enter Try.func22, Try.ntmps22
  go_wp2_with fail
  refine HN.out.mono ?_
  rintro e w' ⟨rfl, rfl⟩
  go_wp2_with fail
  go_ret2
  exact ⟨rfl, rfl⟩
theorem none_count (w : World) (v : Value)  (h : NoneAt w v) : Calls Try.prog 10 #[v] w (IsN 0 w) := by
  have HN := Lib.hid (none_isNone w v h)
  clear h
  go_enter Try.func10, Try.ntmps10
  go_wp2_with fail
  refine HN.out.mono ?_
  rintro e w' ⟨rfl, rfl⟩
  go_wp2_with fail
  go_ret
  exact ⟨rfl, rfl⟩
theorem none_due (w : World) (v : Value) (now : Int) (h : NoneAt w v) : Calls Try.prog 15 #[v, .int .i64 now] w (IsT (.slice none 0 0) w) := by
  have HN := Lib.hid (none_next w v h)
  clear h
  go_enter Try.func15, Try.ntmps15
  go_wp2_with fail
  go_loop [5] (fun o => o = .slice none 0 0) (fun _ => 0)
  case atStart => rfl
  case round =>
    subst hrel
    go_wp2_with fail
    refine HN.out.mono ?_
    rintro e w' ⟨rfl, rfl⟩
    go_wp2_with fail
    go_ret
    exact ⟨rfl, rfl⟩

theorem infoDo : (Try.prog.info? 29).map (fun i => (i.zero, i.size, i.bytes)) = some (some (.agg #[.int .i64 0, .int .i64 0, .int .i64 0, .int .i64 0]), 4, 32) := by kernel_rfl
/-- a list of calls of the call's own: cells that are numbers -/
def LW (w : World) (B : Nat) (v : Value) (n : Nat) : Prop := ∃ xs, w.ownsRow B 29 4 v n xs ∧ ∀ u ∈ xs, ∃ z : Int, u = .int .i64 z
theorem LW.nil (w : World) (B : Nat) : LW w B (.slice none 0 0) 0 := ⟨[], World.ownsRow_nil w B 29 4, fun u hu => by cases hu⟩
theorem LW.form {w : World} {B : Nat} {v : Value} {n : Nat} (h : LW w B v n) (hn : 0 < n) : ∃ (g cap : Nat) (zw zk zi za : Nat → Int), v = .slice (some ⟨g, 0, none⟩) n cap ∧ n ≤ cap ∧ cap ≤ maxLen ∧ B ≤ g ∧ Calls4 w g 0 n zw zk zi za := by
  obtain ⟨xs, ho, hx⟩ := h
  rcases ho.2 with ⟨_, h0⟩ | ⟨g, cap, cur, hv, hb, hg, h1, h2, _⟩
  · omega
  · subst hv
    have hz : ∀ j, ∃ z : Int, j < n * 4 → w.cell? ⟨g, j, none⟩ = some (.int .i64 z) := fun j => by
      by_cases hj : j < n * 4
      · have hjl : j < xs.length := by rw [ho.1]; exact hj
        obtain ⟨z, hz⟩ := hx _ (List.getElem_mem hjl)
        exact ⟨z, fun _ => by rw [ho.cellAt j hj, List.getElem?_eq_getElem hjl, hz]⟩
      · exact ⟨0, fun h => (hj h).elim⟩
    obtain ⟨z, hzz⟩ : ∃ z : Nat → Int, ∀ j, j < n * 4 → w.cell? ⟨g, j, none⟩ = some (.int .i64 (z j)) := ⟨fun j => Classical.choose (hz j), fun j => Classical.choose_spec (hz j)⟩
    refine ⟨g, cap, fun i => z (i * 4), fun i => z (i * 4 + 1), fun i => z (i * 4 + 2), fun i => z (i * 4 + 3), rfl, h1, h2, hb, fun i hi => ?_⟩
    simp only [Nat.zero_add]
    exact ⟨hzz _ (by omega), hzz _ (by omega), hzz _ (by omega), hzz _ (by omega)⟩
theorem LW.own {w : World} {B : Nat} {v : Value} {n : Nat} (h : LW w B v n) : ∀ k, v.ownBlock = some k → B ≤ k := fun k hk => by obtain ⟨xs, ho, _⟩ := h; exact (ho.lt k hk).1
theorem LW.more {w : World} {B : Nat} {v : Value} {n m : Nat} {xs ys : List Value} (h : w.ownsRow B 29 4 v (n + m) (xs ++ ys)) (hx : ∀ u ∈ xs, ∃ z : Int, u = .int .i64 z) (hy : ∀ u ∈ ys, ∃ z : Int, u = .int .i64 z) : LW w B v (n + m) :=
  ⟨_, h, fun u hu => by rcases List.mem_append.1 hu with h | h; · exact hx u h
                        · exact hy u h⟩
theorem cells_new (w : World) (xs : List Value) (t : TypeId) : ∀ (j : Nat) (u : Value), xs[j]? = some u → (w.alloc (.cells xs.toArray t)).cell? ((⟨w.heap.size, 0, none⟩ : Addr).add j) = some u := by
  intro j u hj
  rw [Addr.add_lit, Nat.zero_add, cell_of_row _ _ _ _ _ _ (heap_alloc_new w _)]
  simpa using hj
theorem one_of_int {xs : List Value} (h : ∀ u ∈ xs, ∃ z : Int, u = .int .i64 z) : ∀ u ∈ xs, u.oneCell' = true := fun u hu => by obtain ⟨z, rfl⟩ := h u hu; rfl
def allInt : List Value → Bool
  | [] => true
  | .int .i64 _ :: l => allInt l
  | _ :: _ => false
theorem allInt_of : ∀ {l : List Value}, allInt l = true → ∀ u ∈ l, ∃ z : Int, u = .int .i64 z
  | [], _, u, hu => by cases hu
  | .int .i64 z :: l, h, u, hu => by
    rcases List.mem_cons.1 hu with rfl | hu
    · exact ⟨z, rfl⟩
    · exact allInt_of (l := l) h u hu
/-- a block of numbers -/
theorem ints_new (w : World) (xs : List Value) (t : TypeId) (h : allInt xs = true) : ∀ j, j < xs.length → ∃ z : Int, (w.alloc (.cells xs.toArray t)).cell? ⟨w.heap.size, j, none⟩ = some (.int .i64 z) := by
  intro j hj
  obtain ⟨z, hz⟩ := allInt_of h _ (List.getElem_mem hj)
  refine ⟨z, ?_⟩
  rw [cell_of_row _ _ _ _ _ _ (heap_alloc_new w _)]
  simp [hj, hz]
def ends : List Value := [.int .i64 (-9223372036854775808), .int .i64 (-1), .int .i64 0, .int .i64 1, .int .i64 3, .int .i64 4, .int .i64 15, .int .i64 16, .int .i64 1099511627776, .int .i64 1099511627777, .int .i64 9223372036854775807]

theorem ownsRow_alloc_drew {w : World} {B n : Nat} {v : Value} {xs : List Value} (h : w.ownsRow B 29 4 v n xs) (o : Obj) : (w.alloc o).drew.ownsRow B 29 4 v n xs := World.ownsRow.drew (World.ownsRow.alloc h o)
theorem cells_newD (w : World) (xs : List Value) (t : TypeId) : ∀ (j : Nat) (u : Value), xs[j]? = some u → (w.alloc (.cells xs.toArray t)).drew.cell? ((⟨w.heap.size, 0, none⟩ : Addr).add j) = some u := cells_new w xs t
theorem far_cell {w w1 : World} {o : Obj} {row : Option Nat} {b i : Nat} {z : Value} (hg : (w.alloc o).drew.grownBy w1 row) (hc : w.cell? ⟨b, i, none⟩ = some z) (hb : b < w.heap.size) (hne : some b ≠ row) : w1.cell? ⟨b, i, none⟩ = some z :=
  (World.cell?_of_block (w := w) (w' := w1) (a := ⟨b, i, none⟩) ((hg.block b (by show b < (w.alloc o).heap.size; simp; omega) hne).trans (Below.heap_alloc w o b hb))).trans hc
/-- an append to a row of the call's own, as one step of a region that draws -/
theorem step_append_own {P : Program} {ops : Array Oper} {o : Oper} {a : Act} {w : World} {K : Act → World → Prop} {Q : Exit → Act → World → Prop} {E : Prop}
    (hg : o.guard = none) (s x : Operand) (t : TypeId) (hop : o.op = Op.call { callee := Callee.builtin Builtin.append, args := #[s, x], argTypes := #[t, t] })
    (base : Nat) (e : TypeId) (i : TypeInfo) (z : Value) (size bytes : Nat) (ht : P.underlying t = some (.slice e)) (hi : P.info? e = some i) (hz : i.zero = some z)
    (hsize : i.size = size) (hby : i.bytes = bytes) (hzs : z.cells.size = size) (hsz : 0 < size)
    (v : Value) (n : Nat) (xs : List Value) (hs : a.eval s = v) (hown : w.ownsRow base e size v n xs)
    (ad : Addr) (m c : Nat) (news : List Value) (hx : a.eval x = .slice (some ad) m c) (hl : news.length = m * size) (hnews : ∀ j u, news[j]? = some u → w.cell? (ad.add j) = some u) (h1 : ∀ u ∈ news, u.oneCell' = true)
    (h63 : n + m ≤ maxLen) (hbytes : (n + m) * bytes ≤ 140737488355328) (hbase : base ≤ w.heap.size)
    (hK : ∀ v' w', w'.ownsRow base e size v' (n + m) (xs ++ news) → w.grownBy w' v.ownBlock → K (a.put o.dst v') w') :
    if Region.wanted o (yielded ops a.tmps) = true then Oper.wp P o a w K Q else E := by
  obtain ⟨v', w', hrun, h2, h3, _⟩ := run_append_own (P := P) w base t o.type e i z size bytes ht hi hz hsize hby hzs hsz v n xs hown ad m c news hl hnews h1 h63 hbytes hbase
  exact step_append_eq hg s x t hop v _ v' hs hx hrun (hK v' w' h2 h3)

set_option maxRecDepth 100000 in
set_option maxHeartbeats 16000000 in
theorem known_law (w : World) : Calls Try.prog 6 #[] w (TrueB w) := by
  obtain ⟨i0, hi, hz0, hz1, hz2⟩ := info_parts infoDo
  have HInfo := Lib.hid (⟨hi, hz0, hz1, hz2⟩ : _ ∧ _ ∧ _ ∧ _)
  clear hi hz0 hz1 hz2
  go_enter Try.func6, Try.ntmps6
  go_wp2_with fail
  go_loopw [1, 2] (fun v i wr => ∃ i' : Nat, i' ≤ 2 ∧ i = .int .i64 i' ∧ Hid (NoneAt wr v) ∧ Hid (Below w.heap.size w wr)) (fun _ i _ => 2 - (intOf i).toNat)
  case atStart => exact ⟨0, by omega, rfl, Or.inl rfl, Below.refl _ _⟩
  case round =>
    obtain ⟨i, hi, rfl, HNo, HB⟩ := hrel
    by_cases hlt : i < 2
    · go_wp2_with fail
      refine (none_at _ _ _ _ HNo.out).mono ?_
      rintro e w0 ⟨rfl, rfl⟩
      go_wp2_with fail
      refine (none_next _ _ HNo.out).mono ?_
      rintro e w0 ⟨rfl, rfl⟩
      go_wp2_with fail
      refine (none_arm _ _ _ _ _ HNo.out).mono ?_
      rintro e w0 ⟨rfl, rfl⟩
      go_wp2_with fail
      refine (none_can _ _ _ _ HNo.out).mono ?_
      rintro e w0 ⟨rfl, rfl⟩
      go_wp2_with fail
      refine (none_due _ _ _ HNo.out).mono ?_
      rintro e w0 ⟨rfl, rfl⟩
      go_wp2_with fail
      refine (none_count _ _ HNo.out).mono ?_
      rintro e w0 ⟨rfl, rfl⟩
      have HN2 : Hid (NoneAt (wr.alloc (.cells #[.pointer none] 49)) (.pointer (some ⟨wr.heap.size, 0, none⟩))) := Or.inr ⟨_, rfl, heap_alloc_new wr _⟩
      have HB2 : Hid (Below w.heap.size w (wr.alloc (.cells #[.pointer none] 49))) := HB.out.alloc HB.out.size _
      go_wp2_with fail
      go_roundw
      case rel => exact ⟨i + 1, by omega, by go_num, HN2, HB2⟩
      case measure => simp [intOf]; omega
    · obtain rfl : i = 2 := by omega
      clear HNo
      rw [show ((2 : Nat) : Int) = 2 from rfl]
      have HE : Hid (∀ j, j < 11 → ∃ z : Int, (wr.alloc (.cells ends.toArray 3)).cell? ⟨wr.heap.size, j, none⟩ = some (.int .i64 z)) := ints_new wr ends 3 rfl
      have HBe : Hid (Below w.heap.size w (wr.alloc (.cells ends.toArray 3))) := HB.out.alloc HB.out.size _
      have hes : (wr.alloc (.cells ends.toArray 3)).heap.size = wr.heap.size + 1 := by simp
      go_wp2_with fail
      change Code.wp _ _ _ _ (wr.alloc (.cells ends.toArray 3))
      generalize wr.alloc (.cells ends.toArray 3) = we at HE HBe hes ⊢
      generalize wr.heap.size = eb at HE hes ⊢
      have heb : eb < we.heap.size := by omega
      clear HB hes
      go_loopw [7, 9] (fun l i wr => ∃ i' : Nat, i' ≤ 11 ∧ i = .int .i64 i' ∧ Hid (LW wr we.heap.size l (7 * i')) ∧ Hid (Below we.heap.size we wr)) (fun _ i _ => 11 - (intOf i).toNat)
      case atStart => exact ⟨0, by omega, rfl, LW.nil _ _, Below.refl _ _⟩
      case round =>
        obtain ⟨i, hi, rfl, HL, HB⟩ := hrel
        by_cases hlt : i < 11
        · obtain ⟨xs, ho, hx⟩ := HL.out
          have HOo := Lib.hid ho
          have HXx := Lib.hid hx
          obtain ⟨z, hz⟩ := HE.out i hlt
          have d1 : wr.drew.cell? ⟨eb, i, none⟩ = some (.int .i64 z) := (HB.out.cell (p := ⟨eb, i, none⟩) heb).trans hz
          clear ho hx hz
          have Hm1 : Hid (7 * i + 7 ≤ maxLen) := by unfold Hid maxLen; omega
          have Hm2 : Hid ((7 * i + 7) * 32 ≤ 140737488355328) := by unfold Hid; omega
          have hsz : we.heap.size ≤ wr.heap.size := HB.out.size
          have c1 : wr.cell? ⟨eb, i, none⟩ = some (.int .i64 z) := d1
          clear d1
          go_wp2_with fail
          have hebr : eb < wr.heap.size := by omega
          have hne : Hid (some eb ≠ u7.ownBlock) := fun e => by have := HL.out.own eb e.symm; omega
          go_region_held3 (fun w' => w'.cell? ⟨eb, i, none⟩ = some (.int .i64 z)) (first | assumption | go_keep)
            ((refine step_append_own rfl (.tmp 59) (.tmp 88) 22 rfl we.heap.size 29 i0 _ 4 32 Try.underlying22 HInfo.out.1 HInfo.out.2.1 HInfo.out.2.2.1 HInfo.out.2.2.2 rfl (by decide) _ (7 * i) _ (by simp [Act.eval]) (ownsRow_alloc_drew HOo.out _) ⟨wr.heap.size, 0, none⟩ 7 7 _ (by simp [Act.eval]) rfl (cells_newD _ _ _) (one_of_int (allInt_of rfl)) Hm1.out Hm2.out (by simp; omega) ?_; intro v' w1 hown hgrow; have hq := far_cell hgrow c1 hebr hne.out))
          all_goals
            have HL2 : Hid (LW w1 we.heap.size v' (7 * (i + 1))) := LW.more (n := 7 * i) (m := 7) hown HXx.out (allInt_of rfl)
            have HB2 : Hid (Below we.heap.size we w1) := ((HB.out.alloc hsz _).drew).grown hgrow (by simp; omega) (fun k hk => HL.out.own k hk)
            clear hown hgrow HOo HXx HL HB c1
            go_wp2_with fail
            go_roundw
            case rel => exact ⟨i + 1, by omega, by go_num, HL2, HB2⟩
            case measure => simp [intOf]; omega
        · obtain rfl : i = 11 := by omega
          rw [show ((11 : Nat) : Int) = 11 from rfl]
          have HL77 : Hid (LW wr we.heap.size u7 77) := HL.out
          obtain ⟨g1, cap1, zw1, zk1, zi1, za1, hv, hcap1, hmx1, hbg1, hc1⟩ := HL77.out.form (by omega)
          have HC1 := Lib.hid hc1
          have HBw : Hid (Below w.heap.size w wr) := HBe.out.trans (HB.out.mono HBe.out.size)
          subst hv
          unfold maxLen at hmx1
          clear HL HL77 hc1 hbg1 HE HB HBe heb
          go_wp2_with fail
          obtain ⟨wx, hwx⟩ : ∃ wx, wr = wx := ⟨_, rfl⟩
          rw [hwx] at HC1 HBw ⊢
          clear hwx
          go_loopw [10, 11] (fun l i wr => ∃ i' : Nat, i' ≤ 64 ∧ i = .int .i64 i' ∧ Hid (LW wr wx.heap.size l i') ∧ Hid (Below wx.heap.size wx wr)) (fun _ i _ => 64 - (intOf i).toNat)
          case atStart => exact ⟨0, by omega, rfl, LW.nil _ _, Below.refl _ _⟩
          case round =>
            obtain ⟨i, hi, rfl, HL, HB⟩ := hrel
            by_cases hlt : i < 64
            · obtain ⟨xs, ho, hx⟩ := HL.out
              have HOo := Lib.hid ho
              have HXx := Lib.hid hx
              clear ho hx
              have Hm1 : Hid (i + 1 ≤ maxLen) := by unfold Hid maxLen; omega
              have Hm2 : Hid ((i + 1) * 32 ≤ 140737488355328) := by unfold Hid; omega
              have Hm3 : ∀ o, Hid (wx.heap.size ≤ (wr.alloc o).heap.size) := fun o => by have := HB.out.size; unfold Hid; simp; omega
              go_wp2_with (at_builtin; refine wpList_append_own _ rfl _ _ 22 rfl wx.heap.size 29 i0 _ 4 32 Try.underlying22 HInfo.out.1 HInfo.out.2.1 HInfo.out.2.2.1 HInfo.out.2.2.2 rfl (by decide) _ i _ rfl (World.ownsRow.alloc HOo.out _) ⟨wr.heap.size, 0, none⟩ 1 1 [.int .i64 0, .int .i64 _, .int .i64 _, .int .i64 _] rfl rfl (cells_new _ _ _) (one_of_int (allInt_of rfl)) Hm1.out Hm2.out (Hm3 _).out ?_)
              intro v' w1 hown hgrow _
              have HL2 : Hid (LW w1 wx.heap.size v' (i + 1)) := LW.more (n := i) (m := 1) hown HXx.out (allInt_of rfl)
              have HB2 : Hid (Below wx.heap.size wx w1) := (HB.out.alloc HB.out.size _).grown hgrow (Hm3 _).out (fun k hk => HL.out.own k hk)
              clear hown hgrow Hm1 Hm2 Hm3 HOo HXx HL HB
              go_wp2_with fail
              go_roundw
              case rel => exact ⟨i + 1, by omega, by go_num, HL2, HB2⟩
              case measure => simp [intOf]; omega
            · obtain rfl : i = 64 := by omega
              rw [show ((64 : Nat) : Int) = 64 from rfl]
              obtain ⟨g2, cap2, zw2, zk2, zi2, za2, hv, hcap2, hmx2, hbg2, hc2⟩ := HL.out.form (by omega)
              have HC2 := Lib.hid hc2
              have HD1 : Hid (Calls4 wr g1 0 77 zw1 zk1 zi1 za1) := HC1.out.below HB.out
              have HB2 : Hid (Below w.heap.size w wr) := HBw.out.trans (HB.out.mono HBw.out.size)
              subst hv
              unfold maxLen at hmx2
              clear HL hc2 hbg2 HB HBw HC1
              go_wp2_with fail
              refine (works_any wr).mono ?_
              rintro e w3 ⟨rfl, hb3⟩
              have HD3 := Lib.hid (HD1.out.below hb3)
              have HC3 := Lib.hid (HC2.out.below hb3)
              have HB3 : Hid (Below w.heap.size w w3) := HB2.out.trans (hb3.mono HB2.out.size)
              clear hb3 HD1 HC2 HB2
              go_wp2_with fail
              refine (plays_law g1 0 cap1 77 zw1 zk1 zi1 za1 w3 hcap1 hmx1 (by omega) HD3.out).mono ?_
              rintro e w4 ⟨rfl, hb4⟩
              have HC4 := Lib.hid (HC3.out.below hb4)
              have HB4 : Hid (Below w.heap.size w w4) := HB3.out.trans (hb4.mono HB3.out.size)
              clear hb4 HC3 HB3 HD3
              go_wp2_with fail
              refine (plays_law g2 0 cap2 64 zw2 zk2 zi2 za2 w4 hcap2 hmx2 (by omega) HC4.out).mono ?_
              rintro e w5 ⟨rfl, hb5⟩
              have HC5 := Lib.hid (HC4.out.below hb5)
              have HB5 : Hid (Below w.heap.size w w5) := HB4.out.trans (hb5.mono HB4.out.size)
              clear hb5 HC4 HB4
              go_wp2_with fail
              refine (next_law g2 0 cap2 64 zw2 zk2 zi2 za2 w5 hcap2 hmx2 (by omega) HC5.out).mono ?_
              rintro e w6 ⟨rfl, hb6⟩
              have HC6 := Lib.hid (HC5.out.below hb6)
              have HB6 : Hid (Below w.heap.size w w6) := HB5.out.trans (hb6.mono HB5.out.size)
              clear hb6 HC5 HB5
              go_wp2_with fail
              refine (once_law g2 0 cap2 64 zw2 zk2 zi2 za2 w6 hcap2 hmx2 (by omega) HC6.out).mono ?_
              rintro e w7 ⟨rfl, hb7⟩
              have HB7 : Hid (Below w.heap.size w w7) := HB6.out.trans (hb7.mono HB6.out.size)
              clear hb7 HC6 HB6
              go_wp2_with fail
              go_ret
              exact ⟨rfl, HB7.out⟩

end Go.Proofs.Ytdfolbnnhglpeaa
