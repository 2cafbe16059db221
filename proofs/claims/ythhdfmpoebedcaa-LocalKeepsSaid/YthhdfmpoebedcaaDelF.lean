/- Of, More: the program's. -/
import Derived.Test.YthhdfmpoebedcaaDelE
namespace Go.Proofs.Ythhdfmpoebedcaa
open Go.RowKit Tk De Dl
set_option linter.unusedVariables false

/-- the first k numbers are written, the rest are nothing -/
def FI (cur : Array Value) (F : Nat → Int) (k n : Nat) : Prop := cur = (((List.range k).map fun i => Value.int .i64 (F i)) ++ List.replicate (n - k) (Value.int .i64 0)).toArray
theorem FI.start (F : Nat → Int) (n : Nat) : FI (madeCells #[.int .i64 0] n) F 0 n := by
  unfold FI madeCells
  apply Array.ext_getElem?
  intro i
  simp only [Array.getElem?_map, List.range_zero, List.map_nil, List.nil_append, Nat.sub_zero, List.getElem?_toArray]
  by_cases h : i < n
  · rw [Array.getElem?_eq_getElem (by simpa using h), List.getElem?_eq_getElem (by simpa using h)]
    simp [Nat.mod_one]
  · rw [Array.getElem?_eq_none (by simpa using h), List.getElem?_eq_none (by simpa using h)]
    rfl
theorem FI.size {cur : Array Value} {F : Nat → Int} {k n : Nat} (h : FI cur F k n) (hk : k ≤ n) : cur.size = n := by rw [h]; simp; omega
theorem FI.step {cur : Array Value} {F : Nat → Int} {k n : Nat} (h : FI cur F k n) (hk : k < n) : FI (cur.setIfInBounds k (.int .i64 (F k))) F (k + 1) n := by
  have hs := h.size (by omega)
  unfold FI at h ⊢
  apply Array.ext_getElem?
  intro i
  rw [Array.getElem?_setIfInBounds, h]
  simp only [List.getElem?_toArray, List.size_toArray, List.length_append, List.length_map, List.length_range, List.length_replicate]
  by_cases e : k = i
  · subst e
    rw [if_pos rfl, if_pos (by omega), List.getElem?_append_left (by simp)]
    simp
  · rw [if_neg e]
    by_cases hl : i < k
    · rw [List.getElem?_append_left (by simpa using hl), List.getElem?_append_left (by simp; omega)]
      rw [List.getElem?_map, List.getElem?_map, List.getElem?_range (by omega), List.getElem?_range (by omega)]
    · rw [List.getElem?_append_right (by simp; omega), List.getElem?_append_right (by simp; omega)]
      simp only [List.length_map, List.length_range]
      by_cases hn : i < n
      · rw [List.getElem?_replicate, List.getElem?_replicate, if_pos (by omega), if_pos (by omega)]
      · rw [List.getElem?_replicate, List.getElem?_replicate, if_neg (by omega), if_neg (by omega)]
theorem fi_row {w : World} {g n : Nat} {F : Nat → Int} {cur : Array Value} (h : w.heap[g]? = some (.cells cur 3 (0, 0))) (hF : FI cur F n n) (hn : n ≤ maxLen) : IS w (.slice (some ⟨g, 0, none⟩) n n) ((List.range n).map F) := by
  have hl : ((List.range n).map F).length = n := by simp
  refine ⟨_, _, by rw [hl], by rw [hl]; exact Nat.le_refl _, hn, (fun h => by cases h), fun hp => ⟨g, 0, rfl, fun i hi => ?_⟩⟩
  rw [hl] at hi
  rw [cell_of_row w g (0 + i) _ _ _ h, Nat.zero_add, hF, Nat.sub_self]
  simp [List.getD, hi]
set_option maxRecDepth 100000 in
set_option maxHeartbeats 4000000 in
theorem Of_any {w : World} {v : Value} {ps : List Pn} (h : PS w v ps) (q T : Int) : Calls Try.prog 37 #[v, .int .i64 q, .int .i64 T] w (TwoB (deR ps q T).1 (deR ps q T).2 w) := by
  obtain ⟨a, cap, rfl, hn1, hn2⟩ := h.slice
  obtain ⟨m, hm⟩ : ∃ m, m = ps.length := ⟨_, rfl⟩
  rw [← hm] at h hn1 ⊢
  clear hn1 hn2
  rcases look_cases hm q with ⟨E, hE, hne⟩ | ⟨q, rfl, hq, hok⟩
  · rw [deR_no hm T hE]
    have HL := Lib.hid (look_no h hE)
    clear hE hm h
    go_enter Try.func37, Try.ntmps37
    go_wp2_with fail
    refine HL.out.mono ?_
    rintro e w1 ⟨rfl, hb⟩
    have HB : Hid (Below w.heap.size w (w1.alloc lzo)) := chn hb ((Below.refl _ w1).alloc (Nat.le_refl _) lzo)
    unfold lzo at HB
    clear hb HL
    go_wp2_with fail
    go_ret2
    exact ⟨rfl, HB.out⟩
  · have HL := Lib.hid (look_yes h hok hq)
    have HR : Hid (deR ps q T = if T < 0 then (0, 2) else (del ps q T (ps.getD q p0).n, 0)) := by
      unfold Hid deR
      have e : ((q : Int)).toNat = q := by omega
      rw [hok, if_pos rfl, if_pos (by omega), e]
    obtain ⟨X, hX⟩ : ∃ X, X = deR ps q T := ⟨_, rfl⟩
    rw [← hX]
    have HX : Hid (X = if T < 0 then (0, 2) else (del ps q T (ps.getD q p0).n, 0)) := hX.trans HR.out
    clear h hm hok HR hX
    go_enter Try.func37, Try.ntmps37
    go_wp2_with fail
    refine HL.out.mono ?_
    rintro e w1 ⟨ta, tcap, rfl, hL, hb⟩
    have HLB := Lib.hid (LB.start w1 (ps.getD q p0).per (ps.getD q p0).bud ta (ps.getD q p0).n tcap a m cap q)
    have HB := Lib.hid (chn hb HLB.out.b)
    have HD := Lib.hid (del_any (hL.below HLB.out.b) T)
    unfold lkv at HD ⊢
    clear HL hb hL
    generalize (ps.getD q p0).n = n at *
    generalize (ps.getD q p0).per = per at *
    generalize (ps.getD q p0).bud = bud at *
    unfold lv at HD ⊢
    obtain ⟨c0, c1, c2, c3, c4⟩ := HLB.out.c
    unfold lvo at c0 c1 c2 c3 c4 HLB HB HD
    cases ht : decide (T < 0) with
    | true =>
      have HE : Hid (X = (0, 2)) := HX.out.trans (if_pos (of_decide_eq_true ht))
      clear HD HX
      go_wp2_with fail
      go_ret2
      exact ⟨by rw [HE.out]; rfl, HB.out⟩
    | false =>
      have HE : Hid (X = (del ps q T n, 0)) := HX.out.trans (if_neg (of_decide_eq_false ht))
      clear HX
      generalize del ps q T n = D at *
      go_wp2_with fail
      refine HD.out.mono ?_
      rintro e w2 ⟨rfl, hb⟩
      have HB2 := Lib.hid (chn HB.out hb)
      clear hb HD c0 c1 c2 c3 c4
      go_wp2_with fail
      go_ret2
      exact ⟨by rw [HE.out]; rfl, HB2.out⟩
theorem cell_at {w : World} {g i : Nat} {c : Array Value} {t : TypeId} (h : w.heap[g]? = some (.cells c t (0, 0))) (hi : i < c.size) : ∃ u, w.cell? ⟨g, i, none⟩ = some u :=
  ⟨c[i], cell_of_row _ _ i _ _ _ h |>.trans (Array.getElem?_eq_getElem hi)⟩
/-- numbers and an error are answered -/
def MoP (x : List Int × Int) (w : World) (e : Ending) (w' : World) : Prop := ∃ v, e = .returned (.tuple #[v, .int .i64 x.2]) ∧ IS w' v x.1 ∧ Below w.heap.size w w'
/-- they lie in a row that is new -/
def MoQ (x : List Int × Int) (w : World) (e : Ending) (w' : World) : Prop := ∃ v, e = .returned (.tuple #[v, .int .i64 x.2]) ∧ IS w' v x.1 ∧ Below w.heap.size w w' ∧ ∀ b, v.ownBlock = some b → w.heap.size ≤ b
theorem more_start {w V : World} {o : Obj} {n : Nat} (F : Nat → Int)
    (hown : V.ownsRow (w.alloc o).heap.size 3 1 (.slice (some ⟨(w.alloc o).heap.size, 0, none⟩) n n) n (madeCells (Value.int .i64 0).cells (n * 1)).toList)
    (hgrow : (w.alloc o).grownBy V none) : Hid (V.heap[w.heap.size + 1]? = some (.cells (madeCells (Value.int .i64 0).cells (n * 1)) 3 (0, 0))) ∧ Hid (Below (w.heap.size + 1) (w.alloc o) V) ∧ Hid (FI (madeCells (Value.int .i64 0).cells (n * 1)) F 0 n) := by
  have hk := (own_full hown).1
  rw [World.size_alloc] at hk
  refine ⟨hk, (Below.refl _ _).grown hgrow (by rw [World.size_alloc]; exact Nat.le_refl _) (fun k hk => by cases hk), ?_⟩
  unfold Hid
  rw [Nat.mul_one]
  exact FI.start F n
set_option maxRecDepth 100000 in
set_option maxHeartbeats 4000000 in
theorem More_new {w : World} {v : Value} {ps : List Pn} (h : PS w v ps) (q : Int) : Calls Try.prog 25 #[v, .int .i64 q] w (MoQ (moR ps q) w) := by
  obtain ⟨a, cap, rfl, hn1, hn2⟩ := h.slice
  obtain ⟨m, hm⟩ : ∃ m, m = ps.length := ⟨_, rfl⟩
  rw [← hm] at h hn1 ⊢
  clear hn1 hn2
  rcases look_cases hm q with ⟨E, hE, hne⟩ | ⟨q, rfl, hq, hok⟩
  · rw [moR_no hm hE]
    have HL := Lib.hid (look_no h hE)
    clear hE hm h
    go_enter Try.func25, Try.ntmps25
    go_wp2_with fail
    refine HL.out.mono ?_
    rintro e w1 ⟨rfl, hb⟩
    have HB : Hid (Below w.heap.size w (w1.alloc lzo)) := chn hb ((Below.refl _ w1).alloc (Nat.le_refl _) lzo)
    unfold lzo at HB
    clear hb HL
    go_wp2_with fail
    go_ret2
    exact ⟨_, rfl, IS.nil _, HB.out, fun b h => by cases h⟩
  · obtain ⟨i0, hi, hz0, hz1, hz2⟩ := info_parts infoIn
    have HL := Lib.hid (look_yes h hok hq)
    obtain ⟨X, hX⟩ : ∃ X, X = moR ps q := ⟨_, rfl⟩
    have HX : Hid (X = (mors ps q, 0)) := by
      unfold Hid
      rw [hX]
      unfold moR
      have e : ((q : Int)).toNat = q := by omega
      rw [hok, if_pos rfl, if_pos (by omega), e]
    rw [← hX]
    clear h hm hok hX
    go_enter Try.func25, Try.ntmps25
    go_wp2_with fail
    refine HL.out.mono ?_
    rintro e w1 ⟨ta, tcap, rfl, hL, hb⟩
    have hpb := hL.tb
    have hn4 := hpb.n4
    have HTB := Lib.hid hpb.t
    have HLB := Lib.hid (LB.start w1 (ps.getD q p0).per (ps.getD q p0).bud ta (ps.getD q p0).n tcap a m cap q)
    have HB := Lib.hid (chn hb HLB.out.b)
    have HPS := Lib.hid (hL.p.below HLB.out.b)
    have HTK := Lib.hid (hL.t.below HLB.out.b)
    have HOK := Lib.hid hL.ok
    have HMS : Hid (mors ps q = (List.range (ps.getD q p0).n).map fun i => mor ps q ((ps.getD q p0).z i)) := rfl
    unfold lkv
    clear HL hb hL hpb
    generalize (ps.getD q p0).n = n at *
    generalize (ps.getD q p0).z = z at *
    generalize (ps.getD q p0).per = per at *
    generalize (ps.getD q p0).bud = bud at *
    unfold lv
    have hml : n ≤ maxLen := by unfold maxLen; omega
    have hmx : n ≤ 9223372036854775807 := by omega
    have HM1 := Lib.hid (fun W (b : Below (w1.alloc (lvo per bud ta n tcap a m cap q)).heap.size (w1.alloc (lvo per bud ta n tcap a m cap q)) W) i (hi : i < n) => more1_any (per := per) (bud := bud) (ta := ta) (n := n) (tcap := tcap) (q := q) (HPS.out.below b) HOK.out (HTB.out i hi))
    obtain ⟨c0, c1, c2, c3, c4⟩ := HLB.out.c
    unfold lv tv at HM1
    unfold lvo at c0 c1 c2 c3 c4 HLB HB HPS HTK HM1
    go_wp2_with (at_make; refine wpList_make_full _ rfl _ _ 38 rfl (w1.alloc (.cells #[.int .i64 per, .int .i64 bud, .slice ta n tcap, .slice a m cap, .int .i64 q] 82)).heap.size 3 i0 _ 1 Try.underlying38 hi hz0 hz1 .i64 .i64 _ _ n rfl rfl rfl rfl (by rw [hz2]; omega) hml (Nat.le_refl _) ?_; intro V hown hgrow; obtain ⟨HG0, HV0, HF0⟩ := more_start (fun i => mor ps q (z i)) hown hgrow; clear hown hgrow; have c2 := (HV0.out.cell (p := ⟨w1.heap.size, 2, none⟩) (Nat.lt_succ_self _)).trans c2)
    have HS1 : Hid ((w1.alloc (.cells #[.int .i64 per, .int .i64 bud, .slice ta n tcap, .slice a m cap, .int .i64 q] 82)).heap.size = w1.heap.size + 1) := World.size_alloc _ _
    have HK := Lib.hid HLB.out.k
    unfold lvo at HK
    clear c0 c1 c2 c3 c4 HLB hi hz0 hz1 hz2
    generalize w1.alloc (.cells #[.int .i64 per, .int .i64 bud, .slice ta n tcap, .slice a m cap, .int .i64 q] 82) = W1 at *
    generalize madeCells (Value.int .i64 0).cells (n * 1) = cur0 at *
    obtain ⟨b1, hb1⟩ : ∃ b1, b1 = w1.heap.size := ⟨_, rfl⟩
    rw [← hb1] at HG0 HV0 HS1 HK ⊢
    have HB1 := Lib.hid hb1
    clear hb1
    go_wp2_with fail
    go_loopw [29] (fun i wr => ∃ (k : Nat) (cur : Array Value), k ≤ n ∧ i = .int .i64 k ∧ Hid (FI cur (fun i => mor ps q (z i)) k n) ∧ Hid (wr.heap[b1 + 1]? = some (.cells cur 3 (0, 0))) ∧ Hid (Below (b1 + 1) W1 wr)) (fun i _ => n - (intOf i).toNat)
    case atStart => exact ⟨0, cur0, by omega, rfl, HF0, HG0, HV0⟩
    case round =>
      clear HG0 HV0 HF0
      obtain ⟨k, cur, hk, rfl, HF, HGc, HV⟩ := hrel
      by_cases hlt : k < n
      · have hV : Below W1.heap.size W1 wr := by rw [HS1.out]; exact HV.out
        obtain ⟨tb, off, rfl, t0, t1, t2, t3, t4, t5, t6, t7⟩ := (HTK.out.below hV).at hlt
        have hA := (Below.refl wr.heap.size wr).alloc (Nat.le_refl _) (tko (z k))
        have hsz : b1 + 1 ≤ wr.heap.size := Nat.le_of_lt (lt_of_block HGc.out)
        have hV2 := HV.out.alloc hsz (tko (z k))
        have hC := HM1.out _ (by rw [HS1.out]; exact hV2) k hlt
        have hK2 := (hV2.block b1 (Nat.lt_succ_self _)).trans HK.out
        have e0 := cell_of_row _ _ 0 _ _ _ hK2
        have e1 := cell_of_row _ _ 1 _ _ _ hK2
        have e2 := cell_of_row _ _ 2 _ _ _ hK2
        have e3 := cell_of_row _ _ 3 _ _ _ hK2
        have e4 := cell_of_row _ _ 4 _ _ _ hK2
        change _ = some (Value.int .i64 per) at e0
        change _ = some (Value.int .i64 bud) at e1
        change _ = some (Value.slice _ n tcap) at e2
        change _ = some (Value.slice a m cap) at e3
        change _ = some (Value.int .i64 q) at e4
        have hG2 := (hA.block _ (lt_of_block HGc.out)).trans HGc.out
        have HF2 := Lib.hid (HF.out.step hlt)
        have hcs := HF.out.size hk
        have HC := Lib.hid hC; have HV2 := Lib.hid hV2; have HG2 := Lib.hid hG2; have HSZ := Lib.hid hsz
        clear hA hC hV hV2 hK2 hG2 hsz HF HGc HV
        generalize mor ps q (z k) = X at *
        unfold tko at HC HV2 HG2 e0 e1 e2 e3 e4
        go_wp2_with fail
        refine HC.out.mono ?_
        rintro e w2 ⟨rfl, hb⟩
        have HG3 := Lib.hid ((hb.block _ (lt_of_block HG2.out)).trans HG2.out)
        have HV3 := Lib.hid (HV2.out.trans (hb.mono (Nat.le_of_lt (lt_of_block HG2.out))))
        obtain ⟨q0, f0⟩ : ∃ u, w2.cell? ⟨b1 + 1, k, none⟩ = some u := cell_at HG3.out (i := k) (by omega)
        have g0 : w2.frozen? ⟨b1 + 1, k, none⟩ = false := frozen_of_row _ _ k _ _ HG3.out
        clear hb HC HG2 HV2 e0 e1 e2 e3 e4 t0 t1 t2 t3 t4 t5 t6 t7
        go_wp2_with fail
        go_roundw
        case rel => exact ⟨k + 1, _, by omega, by go_num, HF2, heap_set_same HG3.out, HV3.out.setCell (p := ⟨b1 + 1, k, none⟩) (Nat.le_refl _) _⟩
        case measure => simp [intOf]; omega
      · obtain rfl : k = n := by omega
        go_wp2_with fail
        go_ret2
        refine ⟨_, by rw [HX.out]; rfl, ?_, HB.out.trans (HV.out.mono (by have h1 := HB.out.size; have h2 := HS1.out; omega)), fun b h => by
          have e1 : b1 + 1 = b := Option.some.inj h
          have h1 := HB.out.size; have h2 := HS1.out; omega⟩
        rw [HX.out]
        show IS _ _ (mors ps q)
        rw [HMS.out]
        exact fi_row HGc.out HF.out hml
theorem More_any {w : World} {v : Value} {ps : List Pn} (h : PS w v ps) (q : Int) : Calls Try.prog 25 #[v, .int .i64 q] w (MoP (moR ps q) w) :=
  (More_new h q).mono fun _ _ ⟨v, h1, h2, h3, _⟩ => ⟨v, h1, h2, h3⟩
end Go.Proofs.Ythhdfmpoebedcaa
