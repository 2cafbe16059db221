/- The document's readPart. -/
import Derived.Test.YthbhkcofhhkcoaaConfW
import Derived.Test.YthbhkcofhhkcoaaConfG
import Derived.Deep.RegionLawGrows
namespace Go.Proofs.Ythbhkcofhhkcoaa
open Go.RowKit Pk Cn
set_option linter.unusedVariables false

theorem own_only {S : Nat → Prop} {w w' : World} {B e size n : Nat} {v : Value} {xs : List Value} (h : w.ownsRow B e size v n xs) (o : Only S w w') (hS : ∀ k, S k → k < B) : w'.ownsRow B e size v n xs := by
  refine ⟨h.1, ?_⟩
  rcases h.2 with hn | ⟨g, cap, cur, rfl, hb, hg, rest⟩
  · exact Or.inl hn
  · exact Or.inr ⟨g, cap, cur, rfl, hb, (o.block g (Array.getElem?_eq_some_iff.1 hg).1 (fun s => by have := hS g s; omega)).trans hg, rest⟩
theorem own_keep {S : Nat → Prop} {w w' : World} {B e size n : Nat} {v : Value} {xs : List Value} (h : w.ownsRow B e size v n xs) (o : Only S w w') (hS : ∀ k, S k → v.ownBlock ≠ some k) : w'.ownsRow B e size v n xs := by
  refine ⟨h.1, ?_⟩
  rcases h.2 with hn | ⟨g, cap, cur, rfl, hb, hg, rest⟩
  · exact Or.inl hn
  · exact Or.inr ⟨g, cap, cur, rfl, hb, (o.block g (Array.getElem?_eq_some_iff.1 hg).1 (fun s => hS g s rfl)).trans hg, rest⟩
/-- a row that is not empty, its block -/
theorem oi_block {w : World} {B : Nat} {v : Value} {xs : List Int} (h : Oi w B v xs) (hp : 0 < xs.length) : ∃ g cap cur, v = .slice (some ⟨g, 0, none⟩) xs.length cap ∧ B ≤ g ∧ xs.length ≤ cap ∧ cap ≤ maxLen ∧ w.heap[g]? = some (.cells cur 3 (0, 0)) ∧ ∀ j, j < xs.length → cur[j]? = some (.int .i64 (xs.getD j 0)) := by
  rcases h.2 with ⟨_, h0⟩ | ⟨g, cap, cur, rfl, hb, hg, h1, h2, h3, h4⟩
  · omega
  · refine ⟨g, cap, cur, rfl, hb, h1, h2, hg, fun j hj => ?_⟩
    have e : (cur.toList.take (xs.length * 1))[j]? = (xs.map (Value.int .i64))[j]? := by rw [h4]
    rw [List.getElem?_take, if_pos (by omega), List.getElem?_map, List.getElem?_eq_getElem hj] at e
    rw [← Array.getElem?_toList, e]
    simp [List.getD, List.getElem?_eq_getElem hj]
/-- an append to a row of the call's own, as one step of a region that draws -/
theorem step_append_own {P : Program} {ops : Array Oper} {o : Oper} {a : Act} {w : World} {K : Act → World → Prop} {Q : Exit → Act → World → Prop} {E : Prop}
    (hg : o.guard = none) (s x : Operand) (t : TypeId) (hop : o.op = Op.call { callee := Callee.builtin Builtin.append, args := #[s, x], argTypes := #[t, t] })
    (base : Nat) (e : TypeId) (i : TypeInfo) (z : Value) (size bytes : Nat) (ht : P.underlying t = some (.slice e)) (hi : P.info? e = some i) (hz : i.zero = some z)
    (hsize : i.size = size) (hby : i.bytes = bytes) (hzs : z.cells.size = size) (hsz : 0 < size)
    (v : Value) (n : Nat) (xs : List Value) (hs : a.eval s = v) (hown : w.ownsRow base e size v n xs)
    (ad : Addr) (m c : Nat) (news : List Value) (hx : a.eval x = .slice (some ad) m c) (hl : news.length = m * size) (hnews : ∀ j u, news[j]? = some u → w.cell? (ad.add j) = some u) (h1 : ∀ u ∈ news, u.oneCell' = true)
    (h63 : n + m ≤ maxLen) (hbytes : (n + m) * bytes ≤ 140737488355328) (hbase : base ≤ w.heap.size)
    (hK : ∀ v' w', w'.ownsRow base e size v' (n + m) (xs ++ news) → w.grownBy w' v.ownBlock → K (a.put o.dst v') w') :
    if Region.wanted o (yielded ops a.tmps) = true then Oper.wp P o a w K Q else E := by
  obtain ⟨v', w', hrun, h2, h3, _⟩ := run_append_own (P := P) w base t o.type e i z size bytes ht hi hz hsize hby hzs hsz v n xs hown ad m c news hl hnews h1 h63 hbytes hbase
  have key : Oper.wp P o a w K Q := by
    unfold Oper.wp
    simp [execOp, hop, resolve, invoke, builtin, hs, hx, hrun, Result.andThen]
    exact hK v' w' h2 h3
  unfold Region.wanted
  rw [hg]
  simpa using key
theorem own_drew {w : World} {B e size n : Nat} {v : Value} {xs : List Value} (h : w.ownsRow B e size v n xs) (o : Obj) : (w.drew.alloc o).ownsRow B e size v n xs := World.ownsRow.alloc (w := w.drew) h o
theorem own_drew2 {w : World} {B e size n : Nat} {v : Value} {xs : List Value} (h : w.ownsRow B e size v n xs) (o : Obj) : (w.alloc o).drew.ownsRow B e size v n xs := World.ownsRow.alloc h o

theorem far_cell {w w1 : World} {o : Obj} {row : Option Nat} {b i : Nat} {z : Value} (hg : (w.alloc o).drew.grownBy w1 row) (hc : w.cell? ⟨b, i, none⟩ = some z) (hb : b < w.heap.size) (hne : some b ≠ row) : w1.cell? ⟨b, i, none⟩ = some z :=
  (World.cell?_of_block (w := w) (w' := w1) (a := ⟨b, i, none⟩) ((hg.block b (by show b < (w.alloc o).heap.size; simp; omega) hne).trans (Below.heap_alloc w o b hb))).trans hc
theorem own_form {w : World} {B e size n : Nat} {v : Value} {xs : List Value} (h : w.ownsRow B e size v n xs) : ∃ a cap, v = .slice a n cap := by
  rcases h.2 with ⟨rfl, rfl⟩ | ⟨g, cap, cur, rfl, _⟩
  · exact ⟨_, _, rfl⟩
  · exact ⟨_, _, rfl⟩
theorem set_far {w : World} {b i g j : Nat} {y z : Value} (h : w.cell? ⟨g, j, none⟩ = some z) (hne : g ≠ b) : (w.setCell ⟨b, i, none⟩ y).cell? ⟨g, j, none⟩ = some z := (World.cell?_of_block (a := ⟨g, j, none⟩) (heap_set_other hne)).trans h
theorem far_blk {w w1 : World} {o x : Obj} {row : Option Nat} {b : Nat} (hg : (w.alloc o).drew.grownBy w1 row) (hc : w.heap[b]? = some x) (hne : some b ≠ row) : w1.heap[b]? = some x := by
  have hb := (Array.getElem?_eq_some_iff.1 hc).1
  exact ((hg.block b (by show b < (w.alloc o).heap.size; simp; omega) hne).trans (Below.heap_alloc w o b hb)).trans hc
/-- a partition is stored into three cells -/
theorem three_end {w : World} {r : Nat} {x y z P O U : Value} (hR : w.heap[r]? = some (.cells #[x, y, z] 28 (0, 0))) :
    (((w.setCell ⟨r, 0, none⟩ P).setCell ⟨r, 1, none⟩ O).setCell ⟨r, 2, none⟩ U).heap[r]? = some (.cells #[P, O, U] 28 (0, 0)) ∧
    Only (fun b => b = r) w (((w.setCell ⟨r, 0, none⟩ P).setCell ⟨r, 1, none⟩ O).setCell ⟨r, 2, none⟩ U) := by
  have h1 := heap_set_same (i := 0) (v := P) hR
  have h2 := heap_set_same (i := 1) (v := O) h1
  have h3 := heap_set_same (i := 2) (v := U) h2
  have o1 : Only (fun b => b = r) w (w.setCell ⟨r, 0, none⟩ P) := Only.setCell (S := fun b => b = r) (a := w) (b := w) (Only.refl _ w) (p := ⟨r, 0, none⟩) (Or.inl rfl) P
  have o2 := Only.setCell o1 (p := ⟨r, 1, none⟩) (Or.inl rfl) O
  exact ⟨h3, Only.setCell o2 (p := ⟨r, 2, none⟩) (Or.inl rfl) U⟩
set_option maxRecDepth 100000 in
set_option maxHeartbeats 4000000 in
theorem rpart_read {w : World} {rb : Nat} {xs : List Int} {er : Int} (h : RR w rb xs er) : Calls Try.prog 37 #[.pointer (some ⟨rb, 0, none⟩)] w
    (fun e w' => ∃ (a b : Int) (tv : Value), e = .returned (.tuple #[.agg #[.int .i64 a, .int .i64 b, tv], .bool (refPt (xs, er)).isSome]) ∧ Only (fun k => k = rb) w w' ∧ (∃ ta tn tc, tv = .slice ta tn tc) ∧
      ∀ r, refPt (xs, er) = some r → a = r.1.per ∧ b = r.1.bud ∧ TW w' w.heap.size tv r.1.ts ∧ RR w' rb r.2.1 r.2.2) := by
  obtain ⟨i0, hi, hz0, hz1, hz2⟩ := info_parts infoTk
  have hrl := h.lt
  have hA := (Below.refl w.heap.size w).alloc (Nat.le_refl _) (.cells #[.int .i64 0, .int .i64 0, .slice none 0 0] 28)
  have HRW := Lib.hid (rrow_any (m := 3) (h.below hA) (by decide))
  have HR0 := Lib.hid (heap_alloc_new w (.cells #[.int .i64 0, .int .i64 0, .slice none 0 0] 28))
  have HA := Lib.hid hA
  have HW0 : Hid ((w.alloc (.cells #[.int .i64 0, .int .i64 0, .slice none 0 0] 28)).heap.size = w.heap.size + 1) := by unfold Hid; simp
  obtain ⟨s, hs⟩ : ∃ s : St, s = (xs, er) := ⟨_, rfl⟩
  rw [← hs] at HRW ⊢
  have hbys : Bys s.1 := by rw [hs]; obtain ⟨_, _, _, h3, _⟩ := h; exact h3
  have hp2 : 0 ≤ (rowN 3 s).1.getD 2 0 := by rw [(row3 s).2.2.1]; exact rd_nonneg _ _ ((row_good 2).bys s hbys)
  clear hA h hs hbys
  have hl3 := rowN_length 3 s
  have HPT : Hid (refPt s = if (rowN 3 s).1.getD 2 0 > 4 then none else some (⟨(rowN 3 s).1.getD 0 0, (rowN 3 s).1.getD 1 0, (many rdTk ((rowN 3 s).1.getD 2 0).toNat (rowN 3 s).2).1⟩, (many rdTk ((rowN 3 s).1.getD 2 0).toNat (rowN 3 s).2).2)) := rfl
  obtain ⟨q, hq⟩ : ∃ q, q = rowN 3 s := ⟨_, rfl⟩
  rw [← hq] at HRW hl3 HPT hp2
  clear hq
  obtain ⟨l, s1⟩ := q
  dsimp only at hl3 HPT HRW hp2
  match l, hl3 with
  | [p0, p1, p2], _ =>
  go_enter Try.func37, Try.ntmps37
  go_wp2_with fail
  refine HRW.out.mono ?_
  rintro e w1 ⟨v3, rfl, ho3, hr1, hw1⟩
  obtain ⟨g3, cap3, cur3, rfl, hg3, hc3, hm3, hb3, hcell⟩ := oi_block ho3 (by simp)
  rw [HW0.out] at hg3
  have k0 : cur3[0]? = some (.int .i64 p0) := hcell 0 (by simp)
  have k1 : cur3[1]? = some (.int .i64 p1) := hcell 1 (by simp)
  have k2 : cur3[2]? = some (.int .i64 p2) := hcell 2 (by simp)
  have c0 : w1.cell? ⟨g3, 0, none⟩ = some (.int .i64 p0) := (cell_of_row w1 g3 0 _ _ _ hb3).trans k0
  have c1 : w1.cell? ⟨g3, 1, none⟩ = some (.int .i64 p1) := (cell_of_row w1 g3 1 _ _ _ hb3).trans k1
  have hl : ([p0, p1, p2] : List Int).length = 3 := rfl
  rw [hl]
  have hc3' : 3 ≤ cap3 := hc3
  clear hcell ho3 hl hc3
  go_wp2_with fail
  go_region_held3 (fun w' => w'.cell? ⟨g3, 0, none⟩ = some (.int .i64 p0) ∧ w'.cell? ⟨g3, 1, none⟩ = some (.int .i64 p1)) (first | assumption | go_keep) (fail)
  obtain ⟨W2, hW2⟩ : ∃ W2, W2 = (w1.alloc (.cells #[.int .i64 p0, .int .i64 p1, .slice none 0 0] 28)).drew := ⟨_, rfl⟩
  have hA2 : Below w1.heap.size w1 W2 := by rw [hW2]; exact ((Below.refl w1.heap.size w1).alloc (Nat.le_refl _) _).drew
  have hpb : W2.heap[w1.heap.size]? = some (.cells #[.int .i64 p0, .int .i64 p1, .slice none 0 0] 28 (0, 0)) := by rw [hW2]; exact heap_alloc_new w1 _
  rw [← hW2]
  have hs1 := hw1.size
  rw [HW0.out] at hs1
  have HPB := Lib.hid hpb
  have HG3 := Lib.hid (blk hb3 hA2)
  have HRZ := Lib.hid (blk ((hw1.block w.heap.size (by rw [HW0.out]; omega) (by omega)).trans HR0.out) hA2)
  have HRR := Lib.hid (hr1.below hA2)
  have HOW : Hid (Only (fun k => k = rb) w W2) := (((Only.of_below HA.out).trans hw1).trans (Only.of_below hA2))
  have hg3l : g3 < w1.heap.size := (Array.getElem?_eq_some_iff.1 hb3).1
  have hsW : w1.heap.size < W2.heap.size := (Array.getElem?_eq_some_iff.1 hpb).1
  have HNN : Hid (0 ≤ p2) := hp2
  clear hW2 hA2 hpb hr1 hw1 hb3 c0 c1 HRW HR0 hp2
  generalize w1.heap.size = pb at *
  have c2 : W2.cell? ⟨g3, 2, none⟩ = some (.int .i64 p2) := (cell_of_row W2 g3 2 _ _ _ HG3.out).trans k2
  cases h4 : decide (p2 > 4) with
  | true =>
    have HN : Hid (refPt s = none) := by rw [HPT.out]; exact if_pos (of_decide_eq_true h4)
    obtain ⟨x0, x1, x2⟩ := pz_of HPB.out
    obtain ⟨y0, y1, y2⟩ := pz_of HRZ.out
    have f0 : W2.frozen? ⟨w.heap.size, 0, none⟩ = false := frozen_of_row _ _ 0 _ _ HRZ.out
    have f1 : W2.frozen? ⟨w.heap.size, 1, none⟩ = false := frozen_of_row _ _ 1 _ _ HRZ.out
    have f2 : W2.frozen? ⟨w.heap.size, 2, none⟩ = false := frozen_of_row _ _ 2 _ _ HRZ.out
    go_wp2_with fail
    clear x0 x1 x2 y0 y1 y2 f0 f1 f2 c2
    obtain ⟨eh, eo⟩ := three_end (P := .int .i64 p0) (O := .int .i64 p1) (U := .slice none 0 0) HRZ.out
    obtain ⟨e0, e1, e2⟩ := pz_of eh
    refine bodyPost_ret (v := .tuple #[.agg #[.int .i64 p0, .int .i64 p1, .slice none 0 0], .bool false]) (by simp [results, Try.results37, go_sem, e0, e1, e2]) rfl ?_
    refine ⟨p0, p1, _, by rw [HN.out]; rfl, ?_, ⟨_, _, _, rfl⟩, fun r hr => by rw [HN.out] at hr; cases hr⟩
    exact HOW.out.trans' eo (fun j hj ht => by omega)
  | false =>
    obtain ⟨n, rfl⟩ := Int.eq_ofNat_of_zero_le HNN.out
    have hn4 : n ≤ 4 := by have := of_decide_eq_false h4; omega
    have HS : Hid (refPt s = some (⟨p0, p1, (many rdTk n s1).1⟩, (many rdTk n s1).2)) := by
      rw [HPT.out]
      exact if_neg (of_decide_eq_false h4)
    have HTW0 : Hid (TW W2 w.heap.size (.slice none 0 0) (many rdTk 0 s1).1) := World.ownsRow_nil _ _ _ _
    have HRR0 : Hid (RR W2 rb (many rdTk 0 s1).2.1 (many rdTk 0 s1).2.2) := HRR.out
    go_wp2_with fail
    go_loopw [6] (fun i wr => ∃ (k : Nat) (sv : Value), k ≤ n ∧ i = .int .i64 k ∧ Hid (TW wr w.heap.size sv (many rdTk k s1).1) ∧ Hid (RR wr rb (many rdTk k s1).2.1 (many rdTk k s1).2.2) ∧ Hid (wr.heap[pb]? = some (.cells #[.int .i64 p0, .int .i64 p1, sv] 28 (0, 0))) ∧ Hid (wr.heap[g3]? = some (.cells cur3 3 (0, 0))) ∧
      Hid (wr.heap[w.heap.size]? = some (.cells #[.int .i64 0, .int .i64 0, .slice none 0 0] 28 (0, 0))) ∧ Hid (Only (fun k => k = rb) w wr)) (fun i _ => n - (intOf i).toNat)
    case atStart => exact ⟨0, _, by omega, rfl, HTW0, HRR0, HPB, HG3, HRZ, HOW⟩
    case round =>
      clear HTW0 HRR0 HPB HG3 HRZ HOW HRR c2
      obtain ⟨k, sv, hk, rfl, HTW, HRR, HPB, HG3, HRZ, HOW⟩ := hrel
      have c2 : wr.cell? ⟨g3, 2, none⟩ = some (.int .i64 (n : Int)) := (cell_of_row wr g3 2 _ _ _ HG3.out).trans k2
      have hpl := (Array.getElem?_eq_some_iff.1 HPB.out).1
      have hgl := (Array.getElem?_eq_some_iff.1 HG3.out).1
      have hzl := (Array.getElem?_eq_some_iff.1 HRZ.out).1
      by_cases hkn : k < n
      · have HRW := Lib.hid (rrow_any (m := 8) HRR.out (by decide))
        have HL : Hid ((many rdTk k s1).1.length = k) := many_length _ _ _
        have HSN : Hid (many rdTk (k + 1) s1 = ((many rdTk k s1).1 ++ [Tk.of (rowN 8 (many rdTk k s1).2).1], (rowN 8 (many rdTk k s1).2).2)) := many_snoc _ _ _
        have hl8 := rowN_length 8 (many rdTk k s1).2
        have he8 : rowN 8 ((many rdTk k s1).2.1, (many rdTk k s1).2.2) = rowN 8 (many rdTk k s1).2 := rfl
        rw [he8] at HRW
        obtain ⟨q, hq⟩ : ∃ q, q = rowN 8 (many rdTk k s1).2 := ⟨_, rfl⟩
        rw [← hq] at HRW HSN hl8
        clear hq he8
        obtain ⟨l8, s2⟩ := q
        dsimp only at HRW HSN hl8
        match l8, hl8 with
        | [a0, a1, a2, a3, a4, a5, a6, a7], _ =>
        go_wp2_with fail
        refine HRW.out.mono ?_
        rintro e w2 ⟨v8, rfl, ho8, hr8, hw8⟩
        obtain ⟨g8, cap8, cur8, rfl, hg8, hc8, hm8, hb8, hcell⟩ := oi_block ho8 (by simp)
        have hl : ([a0, a1, a2, a3, a4, a5, a6, a7] : List Int).length = 8 := rfl
        rw [hl] at hc8 ⊢
        have q0 : w2.cell? ⟨g8, 0, none⟩ = some (.int .i64 a0) := (cell_of_row w2 g8 0 _ _ _ hb8).trans (hcell 0 (by simp))
        have q1 : w2.cell? ⟨g8, 1, none⟩ = some (.int .i64 a1) := (cell_of_row w2 g8 1 _ _ _ hb8).trans (hcell 1 (by simp))
        have q2 : w2.cell? ⟨g8, 2, none⟩ = some (.int .i64 a2) := (cell_of_row w2 g8 2 _ _ _ hb8).trans (hcell 2 (by simp))
        have q3 : w2.cell? ⟨g8, 3, none⟩ = some (.int .i64 a3) := (cell_of_row w2 g8 3 _ _ _ hb8).trans (hcell 3 (by simp))
        have q4 : w2.cell? ⟨g8, 4, none⟩ = some (.int .i64 a4) := (cell_of_row w2 g8 4 _ _ _ hb8).trans (hcell 4 (by simp))
        have q5 : w2.cell? ⟨g8, 5, none⟩ = some (.int .i64 a5) := (cell_of_row w2 g8 5 _ _ _ hb8).trans (hcell 5 (by simp))
        have q6 : w2.cell? ⟨g8, 6, none⟩ = some (.int .i64 a6) := (cell_of_row w2 g8 6 _ _ _ hb8).trans (hcell 6 (by simp))
        have q7 : w2.cell? ⟨g8, 7, none⟩ = some (.int .i64 a7) := (cell_of_row w2 g8 7 _ _ _ hb8).trans (hcell 7 (by simp))
        have htw2 : TW w2 w.heap.size sv (many rdTk k s1).1 := own_only HTW.out hw8 (fun j hj => by omega)
        have hpb2 := (hw8.block pb hpl (by omega)).trans HPB.out
        have x2 : w2.cell? ⟨pb, 2, none⟩ = some sv := cell_of_row w2 pb 2 _ _ _ hpb2
        have HG32 := Lib.hid ((hw8.block g3 hgl (by omega)).trans HG3.out)
        have HRZ2 := Lib.hid ((hw8.block w.heap.size hzl (by omega)).trans HRZ.out)
        have HOW2 := Lib.hid (HOW.out.trans hw8)
        have HRR2 := Lib.hid hr8
        have how : w2.ownsRow w.heap.size 30 8 sv k (tcs (many rdTk k s1).1) := by have := htw2; unfold TW at this; rwa [HL.out] at this
        have HOWR := Lib.hid how
        have HPB2 := Lib.hid hpb2
        have hne8 : Hid (some g8 ≠ sv.ownBlock) := fun e => own_ne how hb8 (by decide) e.symm
        have hnep : Hid (some pb ≠ sv.ownBlock) := fun e => own_ne how hpb2 (by decide) e.symm
        have hg8l : g8 < w2.heap.size := (Array.getElem?_eq_some_iff.1 hb8).1
        have hpl2 : pb < w2.heap.size := (Array.getElem?_eq_some_iff.1 hpb2).1
        have hg8p : g8 ≠ pb := by omega
        have hszw : w.heap.size ≤ w2.heap.size := by omega
        obtain ⟨sa, scap, hsv, _⟩ := (TW.ts htw2).slice
        rw [HL.out] at hsv
        have Hm1 : Hid (k + 1 ≤ maxLen) := by unfold Hid maxLen; omega
        have Hm2 : Hid ((k + 1) * 64 ≤ 140737488355328) := by unfold Hid; omega
        have HINF := Lib.hid (⟨hi, hz0, hz1, hz2⟩ : _ ∧ _ ∧ _ ∧ _)
        clear hcell ho8 hr8 hw8 hpb2 htw2 how hb8 HTW HRR HPB HG3 HRZ HOW HRW c2 hl hm8
        subst hsv
        go_wp2_with fail
        refine wp_region_held_drew (S := fun w' => w'.cell? ⟨g8, 0, none⟩ = some (.int .i64 a0) ∧ w'.cell? ⟨g8, 1, none⟩ = some (.int .i64 a1) ∧ w'.cell? ⟨g8, 2, none⟩ = some (.int .i64 a2) ∧ w'.cell? ⟨g8, 3, none⟩ = some (.int .i64 a3) ∧ w'.cell? ⟨g8, 4, none⟩ = some (.int .i64 a4) ∧ w'.cell? ⟨g8, 5, none⟩ = some (.int .i64 a5) ∧ w'.cell? ⟨g8, 6, none⟩ = some (.int .i64 a6) ∧ w'.cell? ⟨g8, 7, none⟩ = some (.int .i64 a7)) (by kernel_rfl) (by (try dsimp only); first | assumption | go_keep) (fun hHeld => ?_)
        refine wpAnyH_take (i := 0) (oi := _) (v := ?_) rfl (by kernel_rfl) (by kernel_rfl) (by kernel_rfl) (fun _ _ _ h => h) (Or.inl ⟨by rfl, ?_⟩) (by assumption) ?_; rotate_left
        · (intro w hSw; (try dsimp only at hSw); go_simp; try with_reducible rfl)
        try simp only [Act.put, List.setIfInBounds_toArray]
        refine wpAnyH_take (i := 2) (oi := _) (v := ?_) rfl (by kernel_rfl) (by kernel_rfl) (by kernel_rfl) (fun _ _ _ h => h) (Or.inl ⟨by rfl, ?_⟩) (by assumption) ?_; rotate_left
        · (intro w hSw; (try dsimp only at hSw); go_simp; try with_reducible rfl)
        try simp only [Act.put]
        refine wpAnyH_take (i := 3) (oi := _) (v := ?_) rfl (by kernel_rfl) (by kernel_rfl) (by kernel_rfl) (fun _ _ _ h => h) (Or.inl ⟨by rfl, ?_⟩) (by assumption) ?_; rotate_left
        · (intro w hSw; (try dsimp only at hSw); go_simp; try with_reducible rfl)
        try simp only [Act.put]
        refine wpAnyH_take (i := 4) (oi := _) (v := ?_) rfl (by kernel_rfl) (by kernel_rfl) (by kernel_rfl) (fun _ _ _ h => h) (Or.inl ⟨by rfl, ?_⟩) (by assumption) ?_; rotate_left
        · (intro w hSw; (try dsimp only at hSw); go_simp; try with_reducible rfl)
        try simp only [Act.put]
        refine wpAnyH_take (i := 5) (oi := _) (v := ?_) rfl (by kernel_rfl) (by kernel_rfl) (by kernel_rfl) (fun _ _ _ h => h) (Or.inl ⟨by rfl, ?_⟩) (by assumption) ?_; rotate_left
        · (intro w hSw; (try dsimp only at hSw); go_simp; try with_reducible rfl)
        try simp only [Act.put]
        refine wpAnyH_take (i := 6) (oi := _) (v := ?_) rfl (by kernel_rfl) (by kernel_rfl) (by kernel_rfl) (fun _ _ _ h => h) (Or.inl ⟨by rfl, ?_⟩) (by assumption) ?_; rotate_left
        · (intro w hSw; (try dsimp only at hSw); go_simp; try with_reducible rfl)
        try simp only [Act.put]
        refine wpAnyH_take (i := 7) (oi := _) (v := ?_) rfl (by kernel_rfl) (by kernel_rfl) (by kernel_rfl) (fun _ _ _ h => h) (Or.inl ⟨by rfl, ?_⟩) (by assumption) ?_; rotate_left
        · (intro w hSw; (try dsimp only at hSw); go_simp; try with_reducible rfl)
        try simp only [Act.put]
        refine wpAnyH_take (i := 8) (oi := _) (v := ?_) rfl (by kernel_rfl) (by kernel_rfl) (by kernel_rfl) (fun _ _ _ h => h) (Or.inl ⟨by rfl, ?_⟩) (by assumption) ?_; rotate_left
        · (intro w hSw; (try dsimp only at hSw); go_simp; try with_reducible rfl)
        try simp only [Act.put]
        refine wpAnyH_take (i := 9) (oi := _) (v := ?_) rfl (by kernel_rfl) (by kernel_rfl) (by kernel_rfl) (fun _ _ _ h => h) (Or.inl ⟨by rfl, ?_⟩) (by assumption) ?_; rotate_left
        · (intro w hSw; (try dsimp only at hSw); go_simp; try with_reducible rfl)
        try simp only [Act.put]
        refine wpAnyH_take (i := 10) (oi := _) (v := ?_) rfl (by kernel_rfl) (by kernel_rfl) (by kernel_rfl) (fun _ _ _ h => h) (Or.inl ⟨by rfl, ?_⟩) (by assumption) ?_; rotate_left
        · (intro w hSw; (try dsimp only at hSw); go_simp; try with_reducible rfl)
        try simp only [Act.put]
        refine wpAnyH_take (i := 11) (oi := _) (v := ?_) rfl (by kernel_rfl) (by kernel_rfl) (by kernel_rfl) (fun _ _ _ h => h) (Or.inl ⟨by rfl, ?_⟩) (by assumption) ?_; rotate_left
        · (intro w hSw; (try dsimp only at hSw); go_simp; try with_reducible rfl)
        try simp only [Act.put]
        refine wpAnyH_take (i := 12) (oi := _) (v := ?_) rfl (by kernel_rfl) (by kernel_rfl) (by kernel_rfl) (fun _ _ _ h => h) (Or.inl ⟨by rfl, ?_⟩) (by assumption) ?_; rotate_left
        · (intro w hSw; (try dsimp only at hSw); go_simp; try with_reducible rfl)
        try simp only [Act.put]
        refine wpAnyH_take (i := 13) (oi := _) (v := ?_) rfl (by kernel_rfl) (by kernel_rfl) (by kernel_rfl) (fun _ _ _ h => h) (Or.inl ⟨by rfl, ?_⟩) (by assumption) ?_; rotate_left
        · (intro w hSw; (try dsimp only at hSw); go_simp; try with_reducible rfl)
        try simp only [Act.put]
        refine wpAnyH_take (i := 14) (oi := _) (v := ?_) rfl (by kernel_rfl) (by kernel_rfl) (by kernel_rfl) (fun _ _ _ h => h) (Or.inl ⟨by rfl, ?_⟩) (by assumption) ?_; rotate_left
        · (intro w hSw; (try dsimp only at hSw); go_simp; try with_reducible rfl)
        try simp only [Act.put]
        refine wpAnyH_take (i := 15) (oi := _) (v := ?_) rfl (by kernel_rfl) (by kernel_rfl) (by kernel_rfl) (fun _ _ _ h => h) (Or.inl ⟨by rfl, ?_⟩) (by assumption) ?_; rotate_left
        · (intro w hSw; (try dsimp only at hSw); go_simp; try with_reducible rfl)
        try simp only [Act.put]
        refine wpAnyH_take (i := 16) (oi := _) (v := ?_) rfl (by kernel_rfl) (by kernel_rfl) (by kernel_rfl) (fun _ _ _ h => h) (Or.inl ⟨by rfl, ?_⟩) (by assumption) ?_; rotate_left
        · (intro w hSw; (try dsimp only at hSw); go_simp; try with_reducible rfl)
        try simp only [Act.put]
        refine wpAnyH_take (i := 17) (oi := _) (v := ?_) rfl (by kernel_rfl) (by kernel_rfl) (by kernel_rfl) (fun _ _ _ h => h) (Or.inl ⟨by rfl, ?_⟩) (by assumption) ?_; rotate_left
        · (intro w hSw; (try dsimp only at hSw); go_simp; try with_reducible rfl)
        try simp only [Act.put]
        refine wpAnyH_take (i := 18) (oi := _) (v := ?_) rfl (by kernel_rfl) (by kernel_rfl) (by kernel_rfl) (fun _ _ _ h => h) (Or.inl ⟨by rfl, ?_⟩) (by assumption) ?_; rotate_left
        · (intro w hSw; (try dsimp only at hSw); go_simp; try with_reducible rfl)
        try simp only [Act.put]
        refine wpAnyH_take (i := 19) (oi := _) (v := ?_) rfl (by kernel_rfl) (by kernel_rfl) (by kernel_rfl) (fun _ _ _ h => h) (Or.inl ⟨by rfl, ?_⟩) (by assumption) ?_; rotate_left
        · (intro w hSw; (try dsimp only at hSw); go_simp; try with_reducible rfl)
        try simp only [Act.put]
        refine wpAnyH_take (i := 20) (oi := _) (v := ?_) rfl (by kernel_rfl) (by kernel_rfl) (by kernel_rfl) (fun _ _ _ h => h) (Or.inl ⟨by rfl, ?_⟩) (by assumption) ?_; rotate_left
        · (intro w hSw; (try dsimp only at hSw); go_simp; try with_reducible rfl)
        try simp only [Act.put]
        refine wpAnyH_take (i := 21) (oi := _) (v := ?_) rfl (by kernel_rfl) (by kernel_rfl) (by kernel_rfl) (fun _ _ _ h => h) (Or.inl ⟨by rfl, ?_⟩) (by assumption) ?_; rotate_left
        · (intro w hSw; (try dsimp only at hSw); go_simp; try with_reducible rfl)
        try simp only [Act.put]
        refine wpAnyH_take (i := 22) (oi := _) (v := ?_) rfl (by kernel_rfl) (by kernel_rfl) (by kernel_rfl) (fun _ _ _ h => h) (Or.inl ⟨by rfl, ?_⟩) (by assumption) ?_; rotate_left
        · (intro w hSw; (try dsimp only at hSw); go_simp; try with_reducible rfl)
        try simp only [Act.put]
        refine wpAnyH_take (i := 23) (oi := _) (v := ?_) rfl (by kernel_rfl) (by kernel_rfl) (by kernel_rfl) (fun _ _ _ h => h) (Or.inl ⟨by rfl, ?_⟩) (by assumption) ?_; rotate_left
        · (intro w hSw; (try dsimp only at hSw); go_simp; try with_reducible rfl)
        try simp only [Act.put]
        refine wpAnyH_take (i := 24) (oi := _) (v := ?_) rfl (by kernel_rfl) (by kernel_rfl) (by kernel_rfl) (fun _ _ _ h => h) (Or.inl ⟨by rfl, ?_⟩) (by assumption) ?_; rotate_left
        · (intro w hSw; (try dsimp only at hSw); go_simp; try with_reducible rfl)
        try simp only [Act.put]
        refine wpAnyH_take (i := 25) (oi := _) (v := ?_) rfl (by kernel_rfl) (by kernel_rfl) (by kernel_rfl) (fun _ _ _ h => h) (Or.inl ⟨by rfl, ?_⟩) (by assumption) ?_; rotate_left
        · (intro w hSw; (try dsimp only at hSw); go_simp; try with_reducible rfl)
        try simp only [Act.put]
        refine wpAnyH_take (i := 26) (oi := _) (v := ?_) rfl (by kernel_rfl) (by kernel_rfl) (by kernel_rfl) (fun _ _ _ h => h) (Or.inl ⟨by rfl, ?_⟩) (by assumption) ?_; rotate_left
        · (intro w hSw; (try dsimp only at hSw); go_simp; try with_reducible rfl)
        try simp only [Act.put]
        refine wpAnyH_ready (rs := [1, 27]) (by kernel_rfl) (by simp) (AllReadyH.cons (o := _) rfl (fun K hK => ?_) (AllReadyH.cons (o := _) rfl (fun K hK => ?_) AllReadyH.nil))
        · go_simp
          refine hK.out _ _ (by (try dsimp only); first | assumption | go_keep) (fun hHeld => ?_)
          clear hK K
          try simp only [Act.put, List.setIfInBounds_toArray, List.set_cons_zero, List.set_cons_succ]
          refine wpAnyH_ready (rs := [27]) (by kernel_rfl) (by simp) (AllReadyH.cons (o := _) rfl (fun K hK => ?_) AllReadyH.nil)
          go_simp
          refine hK.out _ _ (by (try dsimp only); first | assumption | go_keep) (fun hHeld => ?_)
          clear hK K
          try simp only [Act.put, List.setIfInBounds_toArray, List.set_cons_zero, List.set_cons_succ]
          refine wpAnyH_ready (rs := [28]) (by kernel_rfl) (by simp) (AllReadyH.cons (o := _) rfl (fun K hK => ?_) AllReadyH.nil)
          refine step_append_own rfl (.tmp 32) (.tmp 58) 26 rfl w.heap.size 30 i0 _ 8 64 Try.underlying26 HINF.out.1 HINF.out.2.1 HINF.out.2.2.1 HINF.out.2.2.2 rfl (by decide) _ k _ (by simp [Act.eval]) (own_drew2 HOWR.out _) ⟨w2.heap.size, 0, none⟩ 1 1 [.int .i64 a0, .int .i64 a1, .int .i64 a2, .int .i64 a3, .int .i64 a4, .int .i64 a5, .int .i64 a6, .int .i64 a7] (by simp [Act.eval]) rfl (lit_add (W := w2) rfl _ _) (one_i64 [a0, a1, a2, a3, a4, a5, a6, a7]) Hm1.out Hm2.out (by simp; omega) ?_
          intro v' w3 hown hgrow
          obtain ⟨va, vcap, hva⟩ := own_form hown
          subst hva
          have r0 := far_cell hgrow q0 hg8l hne8.out
          have r1 := far_cell hgrow q1 hg8l hne8.out
          have r2 := far_cell hgrow q2 hg8l hne8.out
          have r3 := far_cell hgrow q3 hg8l hne8.out
          have r4 := far_cell hgrow q4 hg8l hne8.out
          have r5 := far_cell hgrow q5 hg8l hne8.out
          have r6 := far_cell hgrow q6 hg8l hne8.out
          have r7 := far_cell hgrow q7 hg8l hne8.out
          have t0 := set_far (b := pb) (i := 2) (y := Value.slice va (k + 1) vcap) r0 hg8p
          have t1 := set_far (b := pb) (i := 2) (y := Value.slice va (k + 1) vcap) r1 hg8p
          have t2 := set_far (b := pb) (i := 2) (y := Value.slice va (k + 1) vcap) r2 hg8p
          have t3 := set_far (b := pb) (i := 2) (y := Value.slice va (k + 1) vcap) r3 hg8p
          have t4 := set_far (b := pb) (i := 2) (y := Value.slice va (k + 1) vcap) r4 hg8p
          have t5 := set_far (b := pb) (i := 2) (y := Value.slice va (k + 1) vcap) r5 hg8p
          have t6 := set_far (b := pb) (i := 2) (y := Value.slice va (k + 1) vcap) r6 hg8p
          have t7 := set_far (b := pb) (i := 2) (y := Value.slice va (k + 1) vcap) r7 hg8p
          have hpb3 := far_blk hgrow HPB2.out hnep.out
          have f3 : w3.frozen? ⟨pb, 2, none⟩ = false := frozen_of_row w3 pb 2 _ _ hpb3
          have x3 : w3.cell? ⟨pb, 2, none⟩ = some (.slice sa k scap) := cell_of_row w3 pb 2 _ _ _ hpb3
          refine hK.out _ _ (by (try dsimp only); first | assumption | go_keep) (fun hHeld => ?_)
          clear hK K
          try simp only [Act.put, List.setIfInBounds_toArray]
          refine wpAnyH_take (i := 29) (oi := _) (v := ?_) rfl (by kernel_rfl) (by kernel_rfl) (by kernel_rfl) (fun _ _ _ h => h) (Or.inl ⟨by rfl, ?_⟩) (by assumption) ?_; rotate_left
          · (intro w hSw; (try dsimp only at hSw); go_simp; try with_reducible rfl)
          try simp only [Act.put]
          refine wpAnyH_ready (rs := [30]) (by kernel_rfl) (by simp) (AllReadyH.cons (o := _) rfl (fun K hK => ?_) AllReadyH.nil)
          go_simp
          refine hK.out _ _ (by (try dsimp only); first | assumption | go_keep) (fun hHeld => ?_)
          clear hK K
          try simp only [Act.put, List.setIfInBounds_toArray, List.set_cons_zero, List.set_cons_succ]
          refine wpAnyH_done (by kernel_rfl) ?_ _
          have htw3 : TW w3 w.heap.size (.slice va (k + 1) vcap) (many rdTk (k + 1) s1).1 := by
            rw [HSN.out]
            unfold TW
            rw [List.length_append, HL.out]
            have e : tcs ((many rdTk k s1).1 ++ [Tk.of [a0, a1, a2, a3, a4, a5, a6, a7]]) = tcs (many rdTk k s1).1 ++ [.int .i64 a0, .int .i64 a1, .int .i64 a2, .int .i64 a3, .int .i64 a4, .int .i64 a5, .int .i64 a6, .int .i64 a7] := by
              unfold tcs; rw [List.flatMap_append]; rfl
            rw [e]
            exact hown
          have HTW3 : Hid (TW (w3.setCell ⟨pb, 2, none⟩ (.slice va (k + 1) vcap)) w.heap.size (.slice va (k + 1) vcap) (many rdTk (k + 1) s1).1) := World.ownsRow.kept htw3 set_grown (Or.inr (own_ne htw3 hpb3 (by decide)))
          have HPB3 : Hid ((w3.setCell ⟨pb, 2, none⟩ (.slice va (k + 1) vcap)).heap[pb]? = some (.cells #[.int .i64 p0, .int .i64 p1, .slice va (k + 1) vcap] 28 (0, 0))) := heap_set_same hpb3
          have HG33 : Hid ((w3.setCell ⟨pb, 2, none⟩ (.slice va (k + 1) vcap)).heap[g3]? = some (.cells cur3 3 (0, 0))) := (heap_set_other (by omega)).trans (far_blk hgrow HG32.out (fun e => own_ne HOWR.out HG32.out (by decide) e.symm))
          have HRZ3 : Hid ((w3.setCell ⟨pb, 2, none⟩ (.slice va (k + 1) vcap)).heap[w.heap.size]? = some (.cells #[.int .i64 0, .int .i64 0, .slice none 0 0] 28 (0, 0))) := (heap_set_other (by omega)).trans (far_blk hgrow HRZ2.out (fun e => own_ne HOWR.out HRZ2.out (by decide) e.symm))
          have how3 := (HOW2.out.alloc (.cells #[.int .i64 a0, .int .i64 a1, .int .i64 a2, .int .i64 a3, .int .i64 a4, .int .i64 a5, .int .i64 a6, .int .i64 a7] 30)).drew.grown hgrow (fun j hj => (HOWR.out.lt j hj).1)
          have HOW3 : Hid (Only (fun k => k = rb) w (w3.setCell ⟨pb, 2, none⟩ (.slice va (k + 1) vcap))) := how3.setCell (Or.inr (by show w.heap.size ≤ pb; omega)) _
          have HRR3 : Hid (RR (w3.setCell ⟨pb, 2, none⟩ (.slice va (k + 1) vcap)) rb (many rdTk (k + 1) s1).2.1 (many rdTk (k + 1) s1).2.2) := by
            rw [HSN.out]
            refine HRR2.out.keep (fun j hj => ?_)
            exact (heap_set_other (by omega)).trans ((hgrow.block j (by show j < (w2.alloc _).heap.size; simp; omega) (fun e => by have := (HOWR.out.lt j e.symm).1; omega)).trans (Below.heap_alloc w2 _ j (by omega)))
          clear hown hgrow htw3 how3 r0 r1 r2 r3 r4 r5 r6 r7 t0 t1 t2 t3 t4 t5 t6 t7 q0 q1 q2 q3 q4 q5 q6 q7 hpb3 f3 x3 x2 HOWR HPB2 HG32 HRZ2 HOW2 HRR2 hne8 hnep
          go_wp2_with fail
          go_roundw
          case rel => exact ⟨k + 1, _, by omega, by go_num, HTW3, HRR3, HPB3, HG33, HRZ3, HOW3⟩
          case measure => simp [intOf]; omega
        · go_simp
          refine hK.out _ _ (by (try dsimp only); first | assumption | go_keep) (fun hHeld => ?_)
          clear hK K
          try simp only [Act.put, List.setIfInBounds_toArray, List.set_cons_zero, List.set_cons_succ]
          refine wpAnyH_ready (rs := [1]) (by kernel_rfl) (by simp) (AllReadyH.cons (o := _) rfl (fun K hK => ?_) AllReadyH.nil)
          go_simp
          refine hK.out _ _ (by (try dsimp only); first | assumption | go_keep) (fun hHeld => ?_)
          clear hK K
          try simp only [Act.put, List.setIfInBounds_toArray, List.set_cons_zero, List.set_cons_succ]
          refine wpAnyH_ready (rs := [28]) (by kernel_rfl) (by simp) (AllReadyH.cons (o := _) rfl (fun K hK => ?_) AllReadyH.nil)
          refine step_append_own rfl (.tmp 32) (.tmp 58) 26 rfl w.heap.size 30 i0 _ 8 64 Try.underlying26 HINF.out.1 HINF.out.2.1 HINF.out.2.2.1 HINF.out.2.2.2 rfl (by decide) _ k _ (by simp [Act.eval]) (own_drew2 HOWR.out _) ⟨w2.heap.size, 0, none⟩ 1 1 [.int .i64 a0, .int .i64 a1, .int .i64 a2, .int .i64 a3, .int .i64 a4, .int .i64 a5, .int .i64 a6, .int .i64 a7] (by simp [Act.eval]) rfl (lit_add (W := w2) rfl _ _) (one_i64 [a0, a1, a2, a3, a4, a5, a6, a7]) Hm1.out Hm2.out (by simp; omega) ?_
          intro v' w3 hown hgrow
          obtain ⟨va, vcap, hva⟩ := own_form hown
          subst hva
          have r0 := far_cell hgrow q0 hg8l hne8.out
          have r1 := far_cell hgrow q1 hg8l hne8.out
          have r2 := far_cell hgrow q2 hg8l hne8.out
          have r3 := far_cell hgrow q3 hg8l hne8.out
          have r4 := far_cell hgrow q4 hg8l hne8.out
          have r5 := far_cell hgrow q5 hg8l hne8.out
          have r6 := far_cell hgrow q6 hg8l hne8.out
          have r7 := far_cell hgrow q7 hg8l hne8.out
          have t0 := set_far (b := pb) (i := 2) (y := Value.slice va (k + 1) vcap) r0 hg8p
          have t1 := set_far (b := pb) (i := 2) (y := Value.slice va (k + 1) vcap) r1 hg8p
          have t2 := set_far (b := pb) (i := 2) (y := Value.slice va (k + 1) vcap) r2 hg8p
          have t3 := set_far (b := pb) (i := 2) (y := Value.slice va (k + 1) vcap) r3 hg8p
          have t4 := set_far (b := pb) (i := 2) (y := Value.slice va (k + 1) vcap) r4 hg8p
          have t5 := set_far (b := pb) (i := 2) (y := Value.slice va (k + 1) vcap) r5 hg8p
          have t6 := set_far (b := pb) (i := 2) (y := Value.slice va (k + 1) vcap) r6 hg8p
          have t7 := set_far (b := pb) (i := 2) (y := Value.slice va (k + 1) vcap) r7 hg8p
          have hpb3 := far_blk hgrow HPB2.out hnep.out
          have f3 : w3.frozen? ⟨pb, 2, none⟩ = false := frozen_of_row w3 pb 2 _ _ hpb3
          have x3 : w3.cell? ⟨pb, 2, none⟩ = some (.slice sa k scap) := cell_of_row w3 pb 2 _ _ _ hpb3
          refine hK.out _ _ (by (try dsimp only); first | assumption | go_keep) (fun hHeld => ?_)
          clear hK K
          try simp only [Act.put, List.setIfInBounds_toArray]
          refine wpAnyH_take (i := 29) (oi := _) (v := ?_) rfl (by kernel_rfl) (by kernel_rfl) (by kernel_rfl) (fun _ _ _ h => h) (Or.inl ⟨by rfl, ?_⟩) (by assumption) ?_; rotate_left
          · (intro w hSw; (try dsimp only at hSw); go_simp; try with_reducible rfl)
          try simp only [Act.put]
          refine wpAnyH_ready (rs := [30]) (by kernel_rfl) (by simp) (AllReadyH.cons (o := _) rfl (fun K hK => ?_) AllReadyH.nil)
          go_simp
          refine hK.out _ _ (by (try dsimp only); first | assumption | go_keep) (fun hHeld => ?_)
          clear hK K
          try simp only [Act.put, List.setIfInBounds_toArray, List.set_cons_zero, List.set_cons_succ]
          refine wpAnyH_done (by kernel_rfl) ?_ _
          have htw3 : TW w3 w.heap.size (.slice va (k + 1) vcap) (many rdTk (k + 1) s1).1 := by
            rw [HSN.out]
            unfold TW
            rw [List.length_append, HL.out]
            have e : tcs ((many rdTk k s1).1 ++ [Tk.of [a0, a1, a2, a3, a4, a5, a6, a7]]) = tcs (many rdTk k s1).1 ++ [.int .i64 a0, .int .i64 a1, .int .i64 a2, .int .i64 a3, .int .i64 a4, .int .i64 a5, .int .i64 a6, .int .i64 a7] := by
              unfold tcs; rw [List.flatMap_append]; rfl
            rw [e]
            exact hown
          have HTW3 : Hid (TW (w3.setCell ⟨pb, 2, none⟩ (.slice va (k + 1) vcap)) w.heap.size (.slice va (k + 1) vcap) (many rdTk (k + 1) s1).1) := World.ownsRow.kept htw3 set_grown (Or.inr (own_ne htw3 hpb3 (by decide)))
          have HPB3 : Hid ((w3.setCell ⟨pb, 2, none⟩ (.slice va (k + 1) vcap)).heap[pb]? = some (.cells #[.int .i64 p0, .int .i64 p1, .slice va (k + 1) vcap] 28 (0, 0))) := heap_set_same hpb3
          have HG33 : Hid ((w3.setCell ⟨pb, 2, none⟩ (.slice va (k + 1) vcap)).heap[g3]? = some (.cells cur3 3 (0, 0))) := (heap_set_other (by omega)).trans (far_blk hgrow HG32.out (fun e => own_ne HOWR.out HG32.out (by decide) e.symm))
          have HRZ3 : Hid ((w3.setCell ⟨pb, 2, none⟩ (.slice va (k + 1) vcap)).heap[w.heap.size]? = some (.cells #[.int .i64 0, .int .i64 0, .slice none 0 0] 28 (0, 0))) := (heap_set_other (by omega)).trans (far_blk hgrow HRZ2.out (fun e => own_ne HOWR.out HRZ2.out (by decide) e.symm))
          have how3 := (HOW2.out.alloc (.cells #[.int .i64 a0, .int .i64 a1, .int .i64 a2, .int .i64 a3, .int .i64 a4, .int .i64 a5, .int .i64 a6, .int .i64 a7] 30)).drew.grown hgrow (fun j hj => (HOWR.out.lt j hj).1)
          have HOW3 : Hid (Only (fun k => k = rb) w (w3.setCell ⟨pb, 2, none⟩ (.slice va (k + 1) vcap))) := how3.setCell (Or.inr (by show w.heap.size ≤ pb; omega)) _
          have HRR3 : Hid (RR (w3.setCell ⟨pb, 2, none⟩ (.slice va (k + 1) vcap)) rb (many rdTk (k + 1) s1).2.1 (many rdTk (k + 1) s1).2.2) := by
            rw [HSN.out]
            refine HRR2.out.keep (fun j hj => ?_)
            exact (heap_set_other (by omega)).trans ((hgrow.block j (by show j < (w2.alloc _).heap.size; simp; omega) (fun e => by have := (HOWR.out.lt j e.symm).1; omega)).trans (Below.heap_alloc w2 _ j (by omega)))
          clear hown hgrow htw3 how3 r0 r1 r2 r3 r4 r5 r6 r7 t0 t1 t2 t3 t4 t5 t6 t7 q0 q1 q2 q3 q4 q5 q6 q7 hpb3 f3 x3 x2 HOWR HPB2 HG32 HRZ2 HOW2 HRR2 hne8 hnep
          go_wp2_with fail
          go_roundw
          case rel => exact ⟨k + 1, _, by omega, by go_num, HTW3, HRR3, HPB3, HG33, HRZ3, HOW3⟩
          case measure => simp [intOf]; omega
      · have e : k = n := by omega
        subst e
        have HL : Hid ((many rdTk k s1).1.length = k) := many_length _ _ _
        obtain ⟨sa, scap, hsv, _⟩ := (TW.ts HTW.out).slice
        obtain ⟨x0, x1, x2⟩ := pz_of HPB.out
        obtain ⟨y0, y1, y2⟩ := pz_of HRZ.out
        have f0 : wr.frozen? ⟨w.heap.size, 0, none⟩ = false := frozen_of_row _ _ 0 _ _ HRZ.out
        have f1 : wr.frozen? ⟨w.heap.size, 1, none⟩ = false := frozen_of_row _ _ 1 _ _ HRZ.out
        have f2 : wr.frozen? ⟨w.heap.size, 2, none⟩ = false := frozen_of_row _ _ 2 _ _ HRZ.out
        rw [HL.out] at hsv
        subst hsv
        go_wp2_with fail
        clear x0 x1 x2 y0 y1 y2 f0 f1 f2 c2
        obtain ⟨eh, eo⟩ := three_end (P := .int .i64 p0) (O := .int .i64 p1) (U := .slice sa k scap) HRZ.out
        obtain ⟨e0, e1, e2⟩ := pz_of eh
        refine bodyPost_ret (v := .tuple #[.agg #[.int .i64 p0, .int .i64 p1, .slice sa k scap], .bool true]) (by simp [results, Try.results37, go_sem, e0, e1, e2]) rfl ?_
        refine ⟨p0, p1, _, by rw [HS.out]; rfl, HOW.out.trans' eo (fun j hj ht => by omega), ⟨_, _, _, rfl⟩, fun r hr => ?_⟩
        rw [HS.out] at hr
        obtain rfl := Option.some.inj hr
        refine ⟨rfl, rfl, ?_, HRR.out.keep (fun j hj => eo.block j (by omega) (by omega))⟩
        exact own_keep HTW.out eo (fun j hj e => by subst hj; exact own_ne HTW.out HRZ.out (by decide) e)
end Go.Proofs.Ythbhkcofhhkcoaa
