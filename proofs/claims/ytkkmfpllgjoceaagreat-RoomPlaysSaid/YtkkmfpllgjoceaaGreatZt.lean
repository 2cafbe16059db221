/- The program's stack, read: Held, Len, Top, Ceiling. -/
import Derived.Test.YtkkmfpllgjoceaaGreatZs
import Derived.ArgAppend
import Derived.Deep.RegionLawGrows
import Derived.Deep.Upon
namespace Go.Proofs.YtkkmfpllgjoceaaGreat.St
open Go.RowKit Lv Sk Go.Sort
set_option linter.unusedVariables false
set_option maxRecDepth 100000

theorem NR.base {w : World} {C B : Nat} {v : Value} {xs : List Int} (h : NR w B v xs) (q : C ≤ B) : NR w C v xs := own_base h q
theorem NR.kept {w w' : World} {C : Nat} {v : Value} {xs : List Int} (h : NR w C v xs) (q : Below w.heap.size w w') : NR w' C v xs :=
  World.ownsRow.kept (row := none) h ⟨q.os, q.tape, q.output, q.size, fun k hk _ => q.block k hk⟩ (by cases v.ownBlock <;> simp)
theorem nums_at (xs : List Int) (i : Nat) (h : i < xs.length) : (nums xs)[i]? = some (.int .i64 (xs.getD i 0)) := by
  unfold nums
  rw [List.getElem?_map, List.getElem?_eq_getElem h, List.getD_eq_getElem?_getD, List.getElem?_eq_getElem h]
  rfl
theorem NR.is {w : World} {C : Nat} {v : Value} {xs : List Int} (h : NR w C v xs) : IS w v xs := by
  have hc := fun g => World.ownsRow.cells h (g := g)
  rcases h.2 with ⟨rfl, h0⟩ | ⟨g, cap, cur, rfl, hb, hh, hnc, hcm, _⟩
  · rw [List.eq_nil_of_length_eq_zero h0]; exact IS.nil w
  · refine ⟨_, cap, rfl, hnc, hcm, (fun e => by cases e), fun _ => ⟨g, 0, rfl, fun i hi => ?_⟩⟩
    have q1 := hc g rfl _ _ (nums_at xs i hi)
    rw [Addr.add_lit] at q1
    exact q1
set_option maxHeartbeats 2000000 in
theorem held_any {w : World} {sb n : Nat} {z : Nat → Nat → Int} {l : List En} {tv lv : Value} (h : SO w sb n z l tv lv) (hl : l.length ≤ 1000) (t : Int) : Calls Tryz.prog 72 #[.pointer (some ⟨sb, 0, none⟩), .int .i64 t] w (HeldP w (held l t)) := by
  obtain ⟨a, cap, rfl, hn1, hn2⟩ := h.pe.es.slice
  obtain ⟨c0, c1⟩ := h.cells
  have HN := Lib.hid (none_any h)
  have HP := Lib.hid h
  have HL := Lib.hid hl
  have HE := Lib.hid h.pe.es
  obtain ⟨m, hm⟩ : ∃ m, m = l.length := ⟨_, rfl⟩
  rw [← hm] at hl hn1 HP c1 HE
  clear h hm
  have mixed : Tryz.prog.follows .mixedOrders = true := by kernel_rfl
  go_enter Tryz.func72, Tryz.ntmps72
  go_wp2_with fail
  refine HN.out.mono ?_
  rintro e w1 ⟨rfl, rfl⟩
  clear HN
  go_wp2_with fail
  have HS0 := Lib.hid (And.intro c1 (Below.refl w.heap.size w))
  go_region_held3 (fun w' => w'.cell? ⟨sb, 0 + 1, none⟩ = some (.slice a m cap) ∧ Below w.heap.size w w')
    (first | assumption | exact HS0.out | exact ⟨HS0.out.1, HS0.out.2.drew⟩ | go_keep)
    (first | (go_at_call 125; refine (isby_any _ t).mono ?_; rintro e w2 ⟨B, rfl, hcb, hb2⟩; have HCB := Lib.hid hcb; have HB2 := Lib.hid (show Below w.heap.size w w2 from chn (Below.drew (Below.refl _ _)) hb2); have hS2 : w2.cell? ⟨sb, 0 + 1, none⟩ = some (.slice a m cap) ∧ Below w.heap.size w w2 := ⟨(HB2.out.cell (lt_of_cell c1)).trans c1, HB2.out⟩)
           | (go_at_call 124; refine (resby_any (HE.out.below HB2.out) HCB.out HL.out).mono ?_; rintro e w3 ⟨r, rfl, hr, hb3⟩; have HR := Lib.hid hr; have HB3 := Lib.hid (chn HB2.out hb3); have hS3 : w3.cell? ⟨sb, 0 + 1, none⟩ = some (.slice a m cap) ∧ Below w.heap.size w w3 := ⟨(HB3.out.cell (lt_of_cell c1)).trans c1, HB3.out⟩))
  all_goals
    go_wp2_with fail
    go_ret
    exact ⟨r, rfl, HR.out.base HB2.out.size, HB3.out⟩
set_option maxHeartbeats 1000000 in
theorem top_any {w : World} {sb n : Nat} {z : Nat → Nat → Int} {l : List En} {tv lv : Value} (h : SO w sb n z l tv lv) (hl : l.length ≤ 1000) : Calls Tryz.prog 76 #[.pointer (some ⟨sb, 0, none⟩)] w (TopP (topT l) (topB l) w) := by
  obtain ⟨a, cap, rfl, hn1, hn2⟩ := h.pe.es.slice
  obtain ⟨c0, c1⟩ := h.cells
  have HN := Lib.hid (none_any h)
  have HP := Lib.hid h
  have HX := Lib.hid (lastany_any h.pe.es hl)
  obtain ⟨m, hm⟩ : ∃ m, m = l.length := ⟨_, rfl⟩
  have HA : Hid (topT l = (if m = 0 then 0 else (l.getD (m - 1) e0).1) ∧ topB l = decide (0 < m)) := by rw [hm]; exact ⟨rfl, rfl⟩
  rw [← hm] at hl hn1 HP c1 HX
  clear h hm
  cases m with
  | zero =>
    go_enter Tryz.func76, Tryz.ntmps76
    go_wp2_with fail
    refine HN.out.mono ?_
    rintro e w1 ⟨rfl, rfl⟩
    go_wp2_with fail
    refine HX.out.mono ?_
    rintro e w2 ⟨rfl, hb⟩
    rw [show oN (lst 0) = 0 from rfl, show (lst 0).isSome = false from rfl]
    have HB := Lib.hid hb
    clear hb HX HN
    go_wp2_with fail
    go_ret2
    exact ⟨by rw [HA.out.1, HA.out.2]; rfl, HB.out⟩
  | succ k =>
    have HA2 : Hid (topT l = (l.getD k e0).1 ∧ topB l = true) := ⟨by rw [HA.out.1, if_neg (Nat.succ_ne_zero k)]; rfl, by rw [HA.out.2]; simp⟩
    clear HA
    go_enter Tryz.func76, Tryz.ntmps76
    go_wp2_with fail
    refine HN.out.mono ?_
    rintro e w1 ⟨rfl, rfl⟩
    go_wp2_with fail
    refine HX.out.mono ?_
    rintro e w2 ⟨rfl, hb⟩
    rw [show oN (lst (k + 1)) = (k : Int) from rfl, show (lst (k + 1)).isSome = true from rfl]
    have HB := Lib.hid hb
    obtain ⟨c2, c3⟩ := (HP.out.below hb).cells
    obtain ⟨b, off, rfl, d0, d1⟩ := (HP.out.below hb).pe.es.at (Nat.lt_succ_self k)
    have hk1 : k < k + 1 := Nat.lt_succ_self k
    generalize (l.getD k e0).1 = x at *
    generalize (l.getD k e0).2 = y at *
    obtain ⟨j, hj⟩ : ∃ j, j = k + 1 := ⟨_, rfl⟩
    rw [← hj] at *
    clear hb HX HN HP
    go_wp2_with fail
    go_ret2
    exact ⟨by rw [HA2.out.1, HA2.out.2]; rfl, HB.out⟩
theorem hi_map (c : Int → Int) (l : List En) : ∀ k, k ≤ l.length → hi c (l.map (·.2)) k = cls c l k
  | 0, _ => rfl
  | k + 1, h => by
    unfold hi cls
    rw [hi_map c l k (by omega)]
    have e : (l.map (·.2)).getD k 0 = (l.getD k e0).2 := by
      rw [List.getD_eq_getElem?_getD, List.getD_eq_getElem?_getD, List.getElem?_map, List.getElem?_eq_getElem (by omega)]
      rfl
    rw [e]
set_option maxHeartbeats 2000000 in
theorem cls_any {w : World} {sb n : Nat} {z : Nat → Nat → Int} {l : List En} {tv lv : Value} (h : SO w sb n z l tv lv) (hl : l.length ≤ 1000) (hnm : n ≤ 1000000) : Calls Tryz.prog 131 #[.pointer (some ⟨sb, 0, none⟩)] w (YI (cls (ceil n (dl z) (lo z)) l l.length) w) := by
  obtain ⟨a, cap, rfl, hn1, hn2⟩ := h.pe.es.slice
  obtain ⟨ta, tcap, rfl, ht1, ht2⟩ := h.tk.slice
  obtain ⟨c0, c1⟩ := h.cells
  have HN := Lib.hid (none_any h)
  have HL := Lib.hid hl
  have HE := Lib.hid h.pe.es
  have HT := Lib.hid h.tk
  have HH : Hid (hi (ceil n (dl z) (lo z)) (l.map (·.2)) l.length = cls (ceil n (dl z) (lo z)) l l.length) := hi_map _ l _ (Nat.le_refl _)
  obtain ⟨q, hq⟩ : ∃ q, q = cls (ceil n (dl z) (lo z)) l l.length := ⟨_, rfl⟩
  rw [← hq] at HH ⊢
  clear hq
  obtain ⟨m, hm⟩ : ∃ m, m = l.length := ⟨_, rfl⟩
  rw [← hm] at hl hn1 c1 HE
  clear h hm
  have mixed : Tryz.prog.follows .mixedOrders = true := by kernel_rfl
  go_enter Tryz.func131, Tryz.ntmps131
  go_wp2_with fail
  refine HN.out.mono ?_
  rintro e w1 ⟨rfl, rfl⟩
  clear HN
  go_wp2_with fail
  have HS0 := Lib.hid (And.intro c0 (And.intro c1 (Below.refl w.heap.size w)))
  go_region_held3 (fun w' => w'.cell? ⟨sb, 0, none⟩ = some (.slice ta n tcap) ∧ w'.cell? ⟨sb, 0 + 1, none⟩ = some (.slice a m cap) ∧ Below w.heap.size w w')
    (first | assumption | exact HS0.out | exact ⟨HS0.out.1, HS0.out.2.1, HS0.out.2.2.drew⟩ | go_keep)
    (first | (go_at_call 124; refine (resany_any (HE.out.below (Below.drew (Below.refl _ _))) HL.out).mono ?_; rintro e w3 ⟨r, rfl, hr, hb3⟩; have HR := Lib.hid hr; have HB3 := Lib.hid (show Below w.heap.size w w3 from chn (Below.drew (Below.refl _ _)) hb3); have hS3 : w3.cell? ⟨sb, 0, none⟩ = some (.slice ta n tcap) ∧ w3.cell? ⟨sb, 0 + 1, none⟩ = some (.slice a m cap) ∧ Below w.heap.size w w3 := ⟨(HB3.out.cell (lt_of_cell c0)).trans c0, (HB3.out.cell (lt_of_cell c1)).trans c1, HB3.out⟩)
           | (go_at_call 175; refine (high_any (HT.out.below HB3.out) HR.out.is hnm).mono ?_; rintro e w4 ⟨rfl, hb4⟩; have HB4 := Lib.hid (chn HB3.out hb4); have hS4 : w4.cell? ⟨sb, 0, none⟩ = some (.slice ta n tcap) ∧ w4.cell? ⟨sb, 0 + 1, none⟩ = some (.slice a m cap) ∧ Below w.heap.size w w4 := ⟨(HB4.out.cell (lt_of_cell c0)).trans c0, (HB4.out.cell (lt_of_cell c1)).trans c1, HB4.out⟩))
  all_goals
    go_wp2_with fail
    go_ret
    exact ⟨by rw [← HH.out]; rfl, HB4.out⟩
end Go.Proofs.YtkkmfpllgjoceaaGreat.St

namespace Go.Proofs.YtkkmfpllgjoceaaGreat.St
open Go.RowKit Lv Sk Go.Sort
set_option linter.unusedVariables false
set_option maxRecDepth 100000

/-- an entry more: where it was, if there is room, or anew -/
theorem app_pent {w : World} {B : Nat} {v : Value} {l : List En} (ty : TypeId) (x y : Int) {g : Nat} (h : PE w B v l) (hg : w.heap[g]? = some (.cells #[.int .i64 x, .int .i64 y] 161 (0, 0))) (hB : B ≤ w.heap.size) (hn : l.length ≤ 1000) :
    ∃ v' w', (Builtin.append_ #[125, 125] ty #[v, .slice (some ⟨g, 0, none⟩) 1 1]).run Tryz.prog w = .ok v' w' ∧ PE w' B v' (l ++ [(x, y)]) ∧ (∃ a c, v' = .slice a (l.length + 1) c) ∧ w.grownBy w' v.ownBlock ∧ (v'.ownBlock = v.ownBlock ∨ ∀ k, v'.ownBlock = some k → w.heap.size ≤ k) := by
  obtain ⟨i0, hi, hz0, hz1, hz2⟩ := info_parts infoPn
  have hnews : ∀ (j : Nat) (u : Value), ([Value.int .i64 x, .int .i64 y] : List Value)[j]? = some u → w.cell? ((⟨g, 0, none⟩ : Addr).add j) = some u := by
    intro j u hj
    rw [Addr.add_lit, Nat.zero_add, cell_of_row _ _ j _ _ _ hg, List.getElem?_toArray]
    exact hj
  have hone : ∀ u ∈ ([Value.int .i64 x, .int .i64 y] : List Value), u.oneCell' = true := by
    intro u hu
    simp at hu
    rcases hu with rfl | rfl <;> rfl
  have hm1 : l.length + 1 ≤ maxLen := by unfold maxLen; omega
  have e1 : (l ++ [(x, y)]).length = l.length + 1 := by simp
  have e2 : ecells (l ++ [(x, y)]) = ecells l ++ [.int .i64 x, .int .i64 y] := ecells_append _ _
  have fin : ∀ {w' : World} {v' : Value} {C : Nat}, B ≤ C → w'.ownsRow C 161 2 v' (l.length + 1) (ecells l ++ [.int .i64 x, .int .i64 y]) → PE w' B v' (l ++ [(x, y)]) ∧ (∃ a c, v' = .slice a (l.length + 1) c) := fun hC hown =>
    ⟨PE.of_own (by rw [e1, e2]; exact own_base hown hC), own_slice hown⟩
  rcases h with ⟨rfl, rfl⟩ | ⟨g0, cap, rfl, h1, h2, h3, h4, h5, h6⟩
  · obtain ⟨v', w', hrun, hown', hgr, _⟩ := run_append_own (P := Tryz.prog) w w.heap.size 125 ty 161 i0 _ 2 16 Tryz.underlying125 hi hz0 hz1 hz2 rfl (by decide) (.slice none 0 0) 0 [] (World.ownsRow_nil w w.heap.size 161 2) ⟨g, 0, none⟩ 1 1 _ rfl hnews hone hm1 (by simp) (Nat.le_refl _)
    obtain ⟨f1, f2⟩ := fin hB hown'
    exact ⟨v', w', hrun, f1, f2, hgr, Or.inr fun k hk => (hown'.lt k hk).1⟩
  · by_cases hroom : l.length + 1 ≤ cap
    · have hown : w.ownsRow B 161 2 (.slice (some ⟨g0, 0, none⟩) l.length cap) l.length (ecells l) := by
        rcases h6 with e | e
        · omega
        · exact e
      obtain ⟨w', hrun, hown', hgr⟩ := run_append_fits (P := Tryz.prog) w B 125 ty 161 i0 2 Tryz.underlying125 hi hz1 g0 l.length cap _ hown ⟨g, 0, none⟩ 1 1 _ rfl hnews hone hroom
      obtain ⟨f1, f2⟩ := fin (Nat.le_refl _) hown'
      exact ⟨_, w', hrun, f1, f2, hgr, Or.inl rfl⟩
    · obtain ⟨v', w', hrun, hown', hgr⟩ := run_append_arg_grows (P := Tryz.prog) w 125 ty 161 i0 _ 2 16 Tryz.underlying125 hi hz0 hz1 hz2 rfl (by decide) ⟨g0, 0, none⟩ l.length cap _ (ecells_len l) h5 ⟨g, 0, none⟩ 1 1 _ rfl hnews (by omega) hm1 (by omega)
      obtain ⟨f1, f2⟩ := fin hB hown'
      exact ⟨v', w', hrun, f1, f2, ⟨hgr.os, hgr.tape, hgr.output, hgr.size, fun k hk _ => hgr.block k hk (by simp)⟩, Or.inr fun k hk => (hown'.lt k hk).1⟩
/-- other entries, where they lie: the field is set -/
theorem SO.put {w wr w1 : World} {sb n : Nat} {z : Nat → Nat → Int} {l l' : List En} {tv lv v' : Value} (h : SO w sb n z l tv lv) (q : Below w.heap.size w wr)
    (hpe : PE w1 (sb + 1) v' l') (hgr : wr.grownBy w1 lv.ownBlock) (hb : v'.ownBlock = lv.ownBlock ∨ ∀ k, v'.ownBlock = some k → wr.heap.size ≤ k) :
    SO (w1.setCell ⟨sb, 1, none⟩ v') sb n z l' tv v' ∧ Only (SB sb lv) w (w1.setCell ⟨sb, 1, none⟩ v') ∧ Mv w lv v' := by
  have h' := h.below q
  have hmb : some sb ≠ lv.ownBlock := fun e => by have := (h'.pe.lt sb e.symm).1; omega
  have hml := lt_of_block h'.ob
  have hob : w1.heap[sb]? = some (.cells #[tv, lv] 127 (0, 0)) := (hgr.block sb hml hmb).trans h'.ob
  have hvl : ∀ k, v'.ownBlock = some k → sb + 1 ≤ k := fun k hk => (hpe.lt k hk).1
  have hMv : Mv w lv v' := fun k hk => by
    rcases hb with e | e
    · exact Or.inl (e ▸ hk)
    · exact Or.inr (Nat.le_trans q.size (e k hk))
  refine ⟨⟨heap_setCell_same w1 sb 1 _ _ v' hob, ?_, h.nz, ?_, ?_, ?_⟩, ⟨?_, ?_, ?_, ?_, ?_⟩, hMv⟩
  · refine h'.tk.keep fun k hk => (Below.heap_setCell _ _ _ _ (h'.tb k hk).1).trans (hgr.block k (h'.tb k hk).2 fun e => h'.ap k e.symm hk)
  · intro k hk
    exact ⟨(h'.tb k hk).1, by have := (h'.tb k hk).2; have := hgr.size; simp [World.setCell]; omega⟩
  · exact hpe.kept (row := some sb) ⟨rfl, rfl, rfl, by simp [World.setCell], fun k hk hne => Below.heap_setCell _ _ _ _ (fun e => hne (by rw [e]))⟩ (Or.inr fun e => by have := hvl sb e; omega)
  · intro k hk e
    rcases hb with q' | q'
    · exact h'.ap k (q'.symm.trans hk) e
    · have h1 := q' k hk
      have h2 := (h'.tb k e).2
      omega
  · exact hgr.os.trans q.os
  · exact hgr.tape.trans q.tape
  · exact hgr.output.trans q.output
  · have := q.size; have := hgr.size; simp [World.setCell]; omega
  · intro k hk hS
    have h1 : k ≠ sb := fun e => hS (Or.inl e)
    have h2 : some k ≠ lv.ownBlock := fun e => hS (Or.inr e.symm)
    exact (Below.heap_setCell _ _ _ _ h1).trans ((hgr.block k (Nat.lt_of_lt_of_le hk q.size) h2).trans (q.block k hk))
/-- a value is answered, the entries are these -/
def StQ (w : World) (sb n : Nat) (z : Nat → Nat → Int) (tv lv : Value) (r : Value) (l' : List En) (e : Ending) (w' : World) : Prop :=
  e = .returned r ∧ ∃ lv', SO w' sb n z l' tv lv' ∧ Only (SB sb lv) w w' ∧ Mv w lv lv'
theorem StQ.same {w w' : World} {sb n : Nat} {z : Nat → Nat → Int} {l : List En} {tv lv r : Value} (h : SO w sb n z l tv lv) (q : Below w.heap.size w w') : StQ w sb n z tv lv r l (.returned r) w' :=
  ⟨rfl, lv, h.below q, Only.of_below q, Mv.refl w lv⟩
set_option maxHeartbeats 4000000 in
theorem lock_any {w : World} {sb n : Nat} {z : Nat → Nat → Int} {l : List En} {tv lv : Value} (h : SO w sb n z l tv lv) (hl : l.length ≤ 900) (h4 : ∀ t, (held l t).length ≤ 4) (t r : Int) :
    Calls Tryz.prog 82 #[.pointer (some ⟨sb, 0, none⟩), .int .i64 t, .int .i64 r] w (StQ w sb n z tv lv (.int .i64 (lockE n (us n (lo z) r t) l t r)) (lockL n (us n (lo z) r t) l t r)) := by
  obtain ⟨ta, tcap, rfl, ht1, ht2⟩ := h.tk.slice
  obtain ⟨a, cap, rfl, hn1, hn2⟩ := h.pe.es.slice
  obtain ⟨c0, c1⟩ := h.cells
  have HP := Lib.hid h
  have HN := Lib.hid (none_any h)
  have HT := Lib.hid (task_any h t)
  obtain ⟨u, hu⟩ : ∃ u, u = us n (lo z) r t := ⟨_, rfl⟩
  have HU := Lib.hid (uses_any h.tk t r)
  rw [← hu] at HU ⊢
  clear hu
  have HL := Lib.hid hl
  have H4 := Lib.hid (h4 t)
  obtain ⟨m, hm⟩ : ∃ m, m = l.length := ⟨_, rfl⟩
  have HM := Lib.hid hm
  rw [← hm] at hl hn1 HP c1 ⊢
  clear h hm h4
  have mixed : Tryz.prog.follows .mixedOrders = true := by kernel_rfl
  cases h0 : (decide (0 ≤ t) && decide (t < (n : Int))) with
  | false =>
    rw [h0] at HT
    have HE : Hid (lockE n u l t r = 9 ∧ lockL n u l t r = l) := by
      have : lockE n u l t r = 9 := if_neg (by simpa using h0)
      exact ⟨this, by unfold lockL; rw [this]; rfl⟩
    clear h0
    go_enter Tryz.func82, Tryz.ntmps82
    go_wp2_with fail
    refine HN.out.mono ?_
    rintro e w1 ⟨rfl, rfl⟩
    go_wp2_with fail
    refine HT.out.mono ?_
    rintro e w1 ⟨rfl, rfl⟩
    go_wp2_with fail
    go_ret
    rw [HE.out.1, HE.out.2]
    exact StQ.same HP.out (Below.refl _ _)
  | true =>
  rw [h0] at HT
  have HLE : Hid (lockE n u l t r = if u then (if has l r then 131 else if (held l t).length = 4 then 130 else 0) else 133) := if_pos (by simpa using h0)
  clear h0
  cases u with
  | false =>
    have HE : Hid (lockE n false l t r = 133 ∧ lockL n false l t r = l) := by
      have : lockE n false l t r = 133 := by rw [HLE.out]; rfl
      exact ⟨this, by unfold lockL; rw [this]; rfl⟩
    clear HLE
    go_enter Tryz.func82, Tryz.ntmps82
    go_wp2_with fail
    refine HN.out.mono ?_
    rintro e w1 ⟨rfl, rfl⟩
    go_wp2_with fail
    refine HT.out.mono ?_
    rintro e w1 ⟨rfl, rfl⟩
    go_wp2_with fail
    refine HU.out.mono ?_
    rintro e w1 ⟨rfl, rfl⟩
    go_wp2_with fail
    go_ret
    rw [HE.out.1, HE.out.2]
    exact StQ.same HP.out (Below.refl _ _)
  | true =>
  have HS0 := Lib.hid (And.intro c1 (Below.refl w.heap.size w))
  cases hh : has l r with
  | true =>
    have HE : Hid (lockE n true l t r = 131 ∧ lockL n true l t r = l) := by
      have : lockE n true l t r = 131 := by rw [HLE.out, if_pos rfl, if_pos hh]
      exact ⟨this, by unfold lockL; rw [this]; rfl⟩
    have HH := Lib.hid hh
    clear HLE hh
    go_enter Tryz.func82, Tryz.ntmps82
    go_wp2_with fail
    refine HN.out.mono ?_
    rintro e w1 ⟨rfl, rfl⟩
    go_wp2_with fail
    refine HT.out.mono ?_
    rintro e w1 ⟨rfl, rfl⟩
    go_wp2_with fail
    refine HU.out.mono ?_
    rintro e w1 ⟨rfl, rfl⟩
    go_wp2_with fail
    clear HU HT HN
    go_region_held3 (fun w' => w'.cell? ⟨sb, 0 + 1, none⟩ = some (.slice a m cap) ∧ Below w.heap.size w w')
      (first | assumption | exact HS0.out | exact ⟨HS0.out.1, HS0.out.2.drew⟩ | go_keep)
      (first | (go_at_call 144; refine (isof_any _ r).mono ?_; rintro e w2 ⟨B, rfl, hcb, hb2⟩; have HCB := Lib.hid hcb; have HB2 := Lib.hid (show Below w.heap.size w w2 from chn (Below.drew (Below.refl _ _)) hb2); have hS2 : w2.cell? ⟨sb, 0 + 1, none⟩ = some (.slice a m cap) ∧ Below w.heap.size w w2 := ⟨(HB2.out.cell (lt_of_cell c1)).trans c1, HB2.out⟩)
             | (go_at_call 143; refine (contains_any (HP.out.below HB2.out).pe.es HCB.out (by rw [← HM.out]; omega)).mono ?_; rw [HH.out]; rintro e w3 ⟨rfl, hb3⟩; have HB3 := Lib.hid (chn HB2.out hb3); have hS3 : w3.cell? ⟨sb, 0 + 1, none⟩ = some (.slice a m cap) ∧ Below w.heap.size w w3 := ⟨(HB3.out.cell (lt_of_cell c1)).trans c1, HB3.out⟩))
    all_goals
      go_wp2_with fail
      go_ret
      rw [HE.out.1, HE.out.2]
      exact StQ.same HP.out HB3.out
  | false =>
    have HLE2 : Hid (lockE n true l t r = if (held l t).length = 4 then 130 else 0) := by unfold Hid; rw [HLE.out, if_pos rfl, hh]; rfl
    have HH := Lib.hid hh
    clear HLE hh
    go_enter Tryz.func82, Tryz.ntmps82
    go_wp2_with fail
    refine HN.out.mono ?_
    rintro e w1 ⟨rfl, rfl⟩
    go_wp2_with fail
    refine HT.out.mono ?_
    rintro e w1 ⟨rfl, rfl⟩
    go_wp2_with fail
    refine HU.out.mono ?_
    rintro e w1 ⟨rfl, rfl⟩
    go_wp2_with fail
    clear HU HT HN
    go_region_held3 (fun w' => w'.cell? ⟨sb, 0 + 1, none⟩ = some (.slice a m cap) ∧ Below w.heap.size w w')
      (first | assumption | exact HS0.out | exact ⟨HS0.out.1, HS0.out.2.drew⟩ | go_keep)
      (first | (go_at_call 144; refine (isof_any _ r).mono ?_; rintro e w2 ⟨B, rfl, hcb, hb2⟩; have HCB := Lib.hid hcb; have HB2 := Lib.hid (show Below w.heap.size w w2 from chn (Below.drew (Below.refl _ _)) hb2); have hS2 : w2.cell? ⟨sb, 0 + 1, none⟩ = some (.slice a m cap) ∧ Below w.heap.size w w2 := ⟨(HB2.out.cell (lt_of_cell c1)).trans c1, HB2.out⟩)
             | (go_at_call 143; refine (contains_any (HP.out.below HB2.out).pe.es HCB.out (by rw [← HM.out]; omega)).mono ?_; rw [HH.out]; rintro e w3 ⟨rfl, hb3⟩; have HB3 := Lib.hid (chn HB2.out hb3); have hS3 : w3.cell? ⟨sb, 0 + 1, none⟩ = some (.slice a m cap) ∧ Below w.heap.size w w3 := ⟨(HB3.out.cell (lt_of_cell c1)).trans c1, HB3.out⟩))
    all_goals
      rename_i hHeld
      have HG := Lib.hid (held_any (HP.out.below HB3.out) (by rw [← HM.out]; omega) t)
      clear HS0 HCB hcb hb2 hS2 hb3 hS3 hHeld
      go_wp2_with fail
      refine HG.out.mono ?_
      rintro e w4 ⟨rv, rfl, hnr, hb4⟩
      obtain ⟨ra, rcap, rfl⟩ := hnr.is_form
      have HB4 := Lib.hid (chn HB3.out hb4)
      obtain ⟨q, hq⟩ : ∃ q, q = (held l t).length := ⟨_, rfl⟩
      have hq4 : q ≤ 4 := by rw [hq]; exact H4.out
      rw [← hq] at HLE2 ⊢
      have HP4 := Lib.hid (HP.out.below HB4.out)
      obtain ⟨c0, c1⟩ := HP4.out.cells
      clear hnr hb4 HG hq
      by_cases h4 : q = 4
      · subst h4
        have HE : Hid (lockE n true l t r = 130 ∧ lockL n true l t r = l) := by
          have : lockE n true l t r = 130 := by rw [HLE2.out]; rfl
          exact ⟨this, by unfold lockL; rw [this]; rfl⟩
        go_wp2_with fail
        go_ret
        rw [HE.out.1, HE.out.2]
        exact StQ.same HP.out HB4.out
      · have HE : Hid (lockE n true l t r = 0 ∧ lockL n true l t r = l ++ [(t, r)]) := by
          have : lockE n true l t r = 0 := by rw [HLE2.out, if_neg h4]
          exact ⟨this, by unfold lockL; rw [this]; rfl⟩
        have h5 : decide ((4 : Int) ≤ (q : Int)) = false := by simp; omega
        obtain ⟨v', w5, hrun, hpe, ⟨va, vcap, hvs⟩, hgr, hbk⟩ := app_pent (w := w4.alloc (.cells #[.int .i64 t, .int .i64 r] 161)) 125 t r (HP4.out.pe.kept (World.grownBy_alloc w4 _ none) (by cases Value.ownBlock _ <;> simp)) (g := w4.heap.size) (heap_alloc_new w4 _) (by have := lt_of_block HP4.out.ob; simp; omega) (by rw [← HM.out]; omega)
        subst hvs
        have hob3 : w5.heap[sb]? = some (.cells #[.slice ta n tcap, .slice a m cap] 127 (0, 0)) := (hgr.block sb (by have := lt_of_block HP4.out.ob; simp; omega) (fun e => by have := (HP4.out.pe.lt sb e.symm).1; omega)).trans ((Below.heap_alloc _ _ _ (lt_of_block HP4.out.ob)).trans HP4.out.ob)
        have s1 : w5.cell? ⟨sb, 0 + 1, none⟩ = some (.slice a m cap) := cell_of_row _ _ 1 _ _ _ hob3
        have s2 : w5.frozen? ⟨sb, 0 + 1, none⟩ = false := frozen_of_row _ _ _ _ _ hob3
        clear hob3
        have HRUN := Lib.hid hrun
        have HPUT := Lib.hid (SO.put HP.out (HB4.out.alloc HB4.out.size _) hpe hgr hbk)
        clear hrun hpe hgr hbk h4 HLE2
        go_wp2_with (at_builtin; refine wpList_append_eq rfl _ _ 125 125 rfl _ _ _ _ rfl rfl HRUN.out ?_)
        go_ret
        rw [HE.out.1, HE.out.2]
        exact ⟨rfl, _, HPUT.out⟩
end Go.Proofs.YtkkmfpllgjoceaaGreat.St

namespace Go.Proofs.YtkkmfpllgjoceaaGreat.St
open Go.RowKit Lv Sk Go.Sort
set_option linter.unusedVariables false
set_option maxRecDepth 100000

theorem step_append_eq {P : Program} {ops : Array Oper} {o : Oper} {a : Act} {w w' : World} {K : Act → World → Prop} {Q : Exit → Act → World → Prop} {E : Prop}
    (hg : o.guard = none) (s x : Operand) (t : TypeId) (hop : o.op = Op.call { callee := Callee.builtin Builtin.append, args := #[s, x], argTypes := #[t, t] })
    (sv xv v' : Value) (hs : a.eval s = sv) (hx : a.eval x = xv) (hrun : (Builtin.append_ #[t, t] o.type #[sv, xv]).run P w = .ok v' w') (hK : K (a.put o.dst v') w') :
    if Region.wanted o (yielded ops a.tmps) = true then Oper.wp P o a w K Q else E := by
  have hw : Region.wanted o (yielded ops a.tmps) = true := by simp [Region.wanted, hg]
  rw [if_pos hw]
  unfold Oper.wp
  simp [execOp, hop, resolve, invoke, builtin, hs, hx, hrun, Result.andThen]
  exact hK
/-- entries without one: where they were, without room, or anew -/
def WoP (w : World) (B : Nat) (v : Value) (l' : List En) (e : Ending) (w' : World) : Prop :=
  ∃ a c, e = .returned (.slice a l'.length c) ∧ PE w' B (.slice a l'.length c) l' ∧ Below w.heap.size w w' ∧ ((Value.slice a l'.length c).ownBlock = v.ownBlock ∨ ∀ k, (Value.slice a l'.length c).ownBlock = some k → w.heap.size ≤ k)
set_option maxHeartbeats 4000000 in
theorem without_any {w : World} {B : Nat} {v : Value} {l : List En} {k : Nat} (h : PE w B v l) (hk : k < l.length) (hB : B ≤ w.heap.size) (hl : l.length ≤ 1000) :
    Calls Tryz.prog 147 #[v, .int .i64 k] w (WoP w B v (cut l k)) := by
  rcases h with ⟨rfl, rfl⟩ | ⟨g, cap, rfl, h1, h2, h3, h4, h5, h6⟩
  · exact absurd hk (by simp)
  obtain ⟨i0, hi, hz0, hz1, hz2⟩ := info_parts infoPn
  have hmx : l.length ≤ 9223372036854775807 := by omega
  have HW : Hid (IntKind.i64.wrap ((k : Int) + 1) = k + 1 ∧ wrap64 ((k : Int) + 1) = k + 1) := ⟨IntWalk.i64_in _ (by omega), by unfold wrap64; omega⟩
  have hk0 : (0 : Int) ≤ k := by omega
  have hk1 : (0 : Int) ≤ (k : Int) + 1 := by omega
  have hkn : ((k : Int) + 1).toNat = k + 1 := by omega
  have hcl := cut_len hk
  by_cases hm : l.length = k + 1
  · have hct : cut l k = l.take k := by
      unfold cut
      rw [show l.drop (k + 1) = [] from List.eq_nil_of_length_eq_zero (by rw [List.length_drop]; omega), List.append_nil]
    have hlk : (cut l k).length = k := by omega
    have HWO : Hid (∀ W : World, Below w.heap.size w W → WoP w B (.slice (some ⟨g, 0, none⟩) l.length cap) (cut l k) (.returned (.slice (some ⟨g, 0, none⟩) k k)) W) := fun W hW => by
      refine ⟨some ⟨g, 0, none⟩, k, by rw [hlk], Or.inr ⟨g, k, by rw [hlk], h1, Nat.lt_of_lt_of_le h2 hW.size, by omega, by unfold maxLen; omega, fun j u hj => ?_, Or.inl hlk.symm⟩, hW, Or.inl rfl⟩
      rw [hct, ← ecells_take, List.getElem?_take] at hj
      split at hj
      · have := h5 j u hj
        rw [Addr.add_lit] at this ⊢
        exact (hW.cell (by exact h2)).trans this
      · cases hj
    have hrun : ∀ (a : Addr) (c : Nat) (W : World), (Builtin.append_ #[125, 125] 125 #[.slice (some ⟨g, 0, none⟩) k k, .slice (some a) 0 c]).run Tryz.prog W = .ok (.slice (some ⟨g, 0, none⟩) k k) W := fun a c W =>
      run_append_room_cells (P := Tryz.prog) W 125 125 161 i0 Tryz.underlying125 hi g 0 k k a 0 c [] (by simp) (by intro j u hj; simp at hj) (by simp) (by omega) (by intro j hj; simp at hj) (by intro j hj; simp at hj)
    have HRUN := Lib.hid hrun
    obtain ⟨m, hmm⟩ : ∃ m, m = l.length := ⟨_, rfl⟩
    obtain ⟨L, hL⟩ : ∃ L, L = cut l k := ⟨_, rfl⟩
    rw [← hL] at HWO ⊢
    rw [← hmm] at hk hl h3 hmx hm HWO ⊢
    clear hcl hlk hct h5 h6 hrun hmm hL hz0 hz1 hz2 hi
    subst hm
    have hle : (k : Int) ≤ (k : Int) + 1 := by omega
    have hle2 : (k : Int) ≤ (cap : Int) := by omega
    have hle3 : k ≤ cap := by omega
    have hle4 : (k : Int) + 1 ≤ (cap : Int) := by omega
    by_cases hcc : cap = k + 1
    · subst hcc
      obtain ⟨hw, hw2⟩ := HW.out
      go_enter Tryz.func147, Tryz.ntmps147
      go_wp2_with fail
      go_region_law (refine step_append_eq rfl (.tmp 8) (.tmp 12) 125 rfl _ _ _ (by simp [Act.eval]) (by simp [Act.eval]) (HRUN.out _ _ _) ?_)
      all_goals
        go_wp2_with fail
        go_ret
        exact HWO.out _ (Below.refl _ _).drew
    · obtain ⟨hw, hw2⟩ := HW.out
      go_enter Tryz.func147, Tryz.ntmps147
      go_wp2_with fail
      go_region_law (refine step_append_eq rfl (.tmp 8) (.tmp 12) 125 rfl _ _ _ (by simp [Act.eval]) (by simp [Act.eval]) (HRUN.out _ _ _) ?_)
      all_goals
        go_wp2_with fail
        go_ret
        exact HWO.out _ (Below.refl _ _).drew
  · have hd : (l.drop (k + 1)).length = l.length - (k + 1) := List.length_drop
    have ht : (l.take k).length = k := by rw [List.length_take]; omega
    have hlk : (cut l k).length = l.length - 1 := by omega
    obtain ⟨v', w1, hrun, hown, hgr⟩ := run_append_arg_grows (P := Tryz.prog) w.drew 125 125 161 i0 _ 2 16 Tryz.underlying125 hi hz0 hz1 hz2 rfl (by decide) ⟨g, 0, none⟩ k k (ecells (l.take k)) (by rw [ecells_len, ht])
      (fun j u hj => by
        rw [← ecells_take, List.getElem?_take] at hj
        split at hj
        · exact h5 j u hj
        · cases hj) ⟨g, (k + 1) * 2, none⟩ (l.length - (k + 1)) (cap - (k + 1)) (ecells (l.drop (k + 1))) (by rw [ecells_len, hd])
      (fun j u hj => by
        rw [← ecells_drop, List.getElem?_drop] at hj
        have := h5 _ _ hj
        rw [Addr.add_lit] at this ⊢
        simp only [Nat.zero_add] at this
        exact this) (by omega) (by unfold maxLen; omega) (by omega)
    rw [← ecells_append, show k + (l.length - (k + 1)) = (cut l k).length by omega] at hown
    obtain ⟨va, vc, rfl⟩ := own_slice hown
    have HWO : Hid (WoP w B (.slice (some ⟨g, 0, none⟩) l.length cap) (cut l k) (.returned (.slice va (cut l k).length vc)) w1) :=
      ⟨va, vc, rfl, PE.of_own (own_base hown hB), ⟨hgr.os, hgr.tape, hgr.output, hgr.size, fun j hj => hgr.block j hj (by simp)⟩, Or.inr fun j hj => (hown.lt j hj).1⟩
    have HRUN := Lib.hid hrun
    obtain ⟨m, hmm⟩ : ∃ m, m = l.length := ⟨_, rfl⟩
    obtain ⟨L, hL⟩ : ∃ L, L = cut l k := ⟨_, rfl⟩
    rw [← hL] at HWO HRUN ⊢
    rw [← hmm] at hk hl h3 hmx hm HWO HRUN ⊢
    have hcc : ¬ cap = k + 1 := by omega
    have hkm : k + 1 < m := by omega
    have hkc : k + 1 < cap := by omega
    have hkm2 : k + 1 ≤ m := by omega
    have hle2 : (k : Int) ≤ (cap : Int) := by omega
    have hle3 : k ≤ cap := by omega
    have hle4 : (k : Int) + 1 ≤ (cap : Int) := by omega
    have hle5 : (k : Int) + 1 ≤ (m : Int) := by omega
    clear hcl hlk hd ht h5 h6 hrun hmm hL hz0 hz1 hz2 hi hown hgr
    obtain ⟨hw, hw2⟩ := HW.out
    go_enter Tryz.func147, Tryz.ntmps147
    go_wp2_with fail
    go_region_law (refine step_append_eq rfl (.tmp 8) (.tmp 12) 125 rfl _ _ _ (by simp [Act.eval, Act.put]) (by simp [Act.eval, Act.put]) HRUN.out ?_)
    all_goals
      go_wp2_with fail
      go_ret
      exact HWO.out
end Go.Proofs.YtkkmfpllgjoceaaGreat.St

namespace Go.Proofs.YtkkmfpllgjoceaaGreat.St
open Go.RowKit Lv Sk Go.Sort
set_option linter.unusedVariables false
set_option maxRecDepth 100000

set_option maxHeartbeats 4000000 in
theorem unl_any {w : World} {sb n : Nat} {z : Nat → Nat → Int} {l : List En} {tv lv : Value} (h : SO w sb n z l tv lv) (hl : l.length ≤ 900) (t : Int) :
    Calls Tryz.prog 84 #[.pointer (some ⟨sb, 0, none⟩), .int .i64 t] w (StQ w sb n z tv lv (unlV n l t) (unlN n l t)) := by
  obtain ⟨a, cap, rfl, hn1, hn2⟩ := h.pe.es.slice
  obtain ⟨c0, c1⟩ := h.cells
  have HP := Lib.hid h
  have HN := Lib.hid (none_any h)
  have HT := Lib.hid (task_any h t)
  obtain ⟨m, hm⟩ : ∃ m, m = l.length := ⟨_, rfl⟩
  have HM := Lib.hid hm
  rw [← hm] at hl hn1 HP c1 ⊢
  clear h hm
  have mixed : Tryz.prog.follows .mixedOrders = true := by kernel_rfl
  cases h0 : (decide (0 ≤ t) && decide (t < (n : Int))) with
  | false =>
    rw [h0] at HT
    have HE : Hid (unlV n l t = .tuple #[.int .i64 0, .int .i64 9] ∧ unlN n l t = l) := by
      have hh : ¬ (0 ≤ t ∧ t < (n : Int)) := by simpa using h0
      exact ⟨by unfold unlV unlE; rw [if_neg hh, if_neg hh], if_neg hh⟩
    clear h0
    go_enter Tryz.func84, Tryz.ntmps84
    go_wp2_with fail
    refine HN.out.mono ?_
    rintro e w1 ⟨rfl, rfl⟩
    go_wp2_with fail
    refine HT.out.mono ?_
    rintro e w1 ⟨rfl, rfl⟩
    go_wp2_with fail
    go_ret2
    rw [HE.out.1, HE.out.2]
    exact StQ.same HP.out (Below.refl _ _)
  | true =>
  rw [h0] at HT
  have hh : 0 ≤ t ∧ t < (n : Int) := by simpa using h0
  have HV : Hid (unlV n l t = .tuple #[.int .i64 (unlR l t), .int .i64 (unlE n l t)] ∧ unlN n l t = unlL l t) := ⟨by unfold unlV; rw [if_pos hh], if_pos hh⟩
  have HU : Hid (unlE n l t = match unl l t l.length with | some _ => 0 | none => 132) := if_pos hh
  have HS0 := Lib.hid (And.intro c1 (Below.refl w.heap.size w))
  clear h0 hh
  obtain ⟨o, ho⟩ : ∃ o, unl l t l.length = o := ⟨_, rfl⟩
  have HO := Lib.hid ho
  rcases o with _ | k
  · have HE : Hid (unlV n l t = .tuple #[.int .i64 0, .int .i64 132] ∧ unlN n l t = l) := by
      have h1 := HU.out
      rw [ho] at h1
      refine ⟨?_, ?_⟩
      · rw [HV.out.1, h1]; unfold unlR; rw [ho]
      · rw [HV.out.2]; unfold unlL; rw [ho]
    clear ho HV HU
    go_enter Tryz.func84, Tryz.ntmps84
    go_wp2_with fail
    refine HN.out.mono ?_
    rintro e w1 ⟨rfl, rfl⟩
    go_wp2_with fail
    refine HT.out.mono ?_
    rintro e w1 ⟨rfl, rfl⟩
    go_wp2_with fail
    clear HT HN
    go_region_held3 (fun w' => w'.cell? ⟨sb, 0 + 1, none⟩ = some (.slice a m cap) ∧ Below w.heap.size w w')
      (first | assumption | exact HS0.out | exact ⟨HS0.out.1, HS0.out.2.drew⟩ | go_keep)
      (first | (go_at_call 125; refine (isby_any _ t).mono ?_; rintro e w2 ⟨B, rfl, hcb, hb2⟩; have HCB := Lib.hid hcb; have HB2 := Lib.hid (show Below w.heap.size w w2 from chn (Below.drew (Below.refl _ _)) hb2); have hS2 : w2.cell? ⟨sb, 0 + 1, none⟩ = some (.slice a m cap) ∧ Below w.heap.size w w2 := ⟨(HB2.out.cell (lt_of_cell c1)).trans c1, HB2.out⟩)
             | (go_at_call 132; refine (lastby_any (HP.out.below HB2.out).pe.es HCB.out (by rw [← HM.out]; omega)).mono ?_; rw [HO.out]; rintro e w3 ⟨rfl, hb3⟩; have HB3 := Lib.hid (chn HB2.out hb3); have hS3 : w3.cell? ⟨sb, 0 + 1, none⟩ = some (.slice a m cap) ∧ Below w.heap.size w w3 := ⟨(HB3.out.cell (lt_of_cell c1)).trans c1, HB3.out⟩))
    all_goals
      go_wp2_with fail
      go_ret2
      rw [HE.out.1, HE.out.2]
      exact StQ.same HP.out HB3.out
  · obtain ⟨hkl, _, _⟩ := unl_some ho
    have HE : Hid (unlV n l t = .tuple #[.int .i64 (l.getD k e0).2, .int .i64 0] ∧ unlN n l t = cut l k) := by
      have h1 := HU.out
      rw [ho] at h1
      refine ⟨?_, ?_⟩
      · rw [HV.out.1, h1]; unfold unlR; rw [ho]
      · rw [HV.out.2]; unfold unlL; rw [ho]
    have HK := Lib.hid hkl
    have hkm : k < m := by rw [HM.out]; exact hkl
    have hok : oN (some k) = (k : Int) := rfl
    have hok2 : (some k).isSome = true := rfl
    clear ho HV HU hkl
    go_enter Tryz.func84, Tryz.ntmps84
    go_wp2_with fail
    refine HN.out.mono ?_
    rintro e w1 ⟨rfl, rfl⟩
    go_wp2_with fail
    refine HT.out.mono ?_
    rintro e w1 ⟨rfl, rfl⟩
    go_wp2_with fail
    clear HT HN
    go_region_held3 (fun w' => w'.cell? ⟨sb, 0 + 1, none⟩ = some (.slice a m cap) ∧ Below w.heap.size w w')
      (first | assumption | exact HS0.out | exact ⟨HS0.out.1, HS0.out.2.drew⟩ | go_keep)
      (first | (go_at_call 125; refine (isby_any _ t).mono ?_; rintro e w2 ⟨B, rfl, hcb, hb2⟩; have HCB := Lib.hid hcb; have HB2 := Lib.hid (show Below w.heap.size w w2 from chn (Below.drew (Below.refl _ _)) hb2); have hS2 : w2.cell? ⟨sb, 0 + 1, none⟩ = some (.slice a m cap) ∧ Below w.heap.size w w2 := ⟨(HB2.out.cell (lt_of_cell c1)).trans c1, HB2.out⟩)
             | (go_at_call 132; refine (lastby_any (HP.out.below HB2.out).pe.es HCB.out (by rw [← HM.out]; omega)).mono ?_; rw [HO.out, hok, hok2]; rintro e w3 ⟨rfl, hb3⟩; have HB3 := Lib.hid (chn HB2.out hb3); have hS3 : w3.cell? ⟨sb, 0 + 1, none⟩ = some (.slice a m cap) ∧ Below w.heap.size w w3 := ⟨(HB3.out.cell (lt_of_cell c1)).trans c1, HB3.out⟩))
    all_goals
      have HP3 := Lib.hid (HP.out.below HB3.out)
      obtain ⟨c2, c3⟩ := HP3.out.cells
      obtain ⟨b, off, rfl, d0, d1⟩ := HP3.out.pe.es.at hkm
      obtain ⟨y, hy⟩ : ∃ y, (l.getD k e0).2 = y := ⟨_, rfl⟩
      rw [hy] at d1 HE
      have HW := Lib.hid (without_any HP3.out.pe HK.out (by have := lt_of_block HP3.out.ob; omega) (by rw [← HM.out]; omega))
      clear hy d0 HCB hcb hb2 hS2 hb3 hS3 HB2 HS0 hok hok2 HK HO
      go_wp2_with fail
      refine HW.out.mono ?_
      rintro e w4 ⟨va, vc, rfl, hpe, hb4, hbk⟩
      have hP4 := HP3.out.below hb4
      have s1 : w4.cell? ⟨sb, 0 + 1, none⟩ = some (.slice (some ⟨b, off, none⟩) m cap) := hP4.cells.2
      have s2 : w4.frozen? ⟨sb, 0 + 1, none⟩ = false := frozen_of_row _ _ _ _ _ hP4.ob
      have HPUT := Lib.hid (SO.put HP.out HB3.out hpe ⟨hb4.os, hb4.tape, hb4.output, hb4.size, fun j hj _ => hb4.block j hj⟩ hbk)
      clear hpe hb4 hbk hP4 HW
      go_wp2_with fail
      go_ret2
      rw [HE.out.1, HE.out.2]
      exact ⟨rfl, _, HPUT.out⟩
end Go.Proofs.YtkkmfpllgjoceaaGreat.St

namespace Go.Proofs.YtkkmfpllgjoceaaGreat.St
open Go.RowKit Lv Sk Go.Sort
set_option linter.unusedVariables false
set_option maxRecDepth 100000

/-- a number more: where it was, if there is room, or anew -/
theorem app_num2 {w : World} {B : Nat} {v : Value} {xs : List Int} (ty : TypeId) (x : Int) {g : Nat} (hown : NR w B v xs) (hg : w.heap[g]? = some (.cells #[.int .i64 x] 3 (0, 0))) (hB : B ≤ w.heap.size) (hn : xs.length ≤ 1000) :
    ∃ v' w', (Builtin.append_ #[41, 41] ty #[v, .slice (some ⟨g, 0, none⟩) 1 1]).run Tryz.prog w = .ok v' w' ∧ NR w' B v' (xs ++ [x]) ∧ w.grownBy w' v.ownBlock ∧ (v'.ownBlock = v.ownBlock ∨ ∀ k, v'.ownBlock = some k → w.heap.size ≤ k) := by
  obtain ⟨i0, hi, hz0, hz1, hz2⟩ := info_parts infoI13
  have hnews : ∀ (j : Nat) (u : Value), ([Value.int .i64 x] : List Value)[j]? = some u → w.cell? ((⟨g, 0, none⟩ : Addr).add j) = some u := by
    intro j u hj
    rw [Addr.add_lit, Nat.zero_add, cell_of_row _ _ j _ _ _ hg, List.getElem?_toArray]
    exact hj
  have hone : ∀ u ∈ ([Value.int .i64 x] : List Value), u.oneCell' = true := by
    intro u hu
    simp at hu
    subst hu
    rfl
  have hm1 : xs.length + 1 ≤ maxLen := by unfold maxLen; omega
  have e1 : (xs ++ [x]).length = xs.length + 1 := by simp
  have e2 : nums (xs ++ [x]) = nums xs ++ [.int .i64 x] := by unfold nums; rw [List.map_append]; rfl
  have fin : ∀ {w' : World} {v' : Value} {C : Nat}, B ≤ C → w'.ownsRow C 3 1 v' (xs.length + 1) (nums xs ++ [.int .i64 x]) → NR w' B v' (xs ++ [x]) := fun hC hown => by
    unfold NR; rw [e1, e2]; exact own_base hown hC
  have hlen : (nums xs).length = xs.length * 1 := by unfold nums; simp
  rcases hown.2 with ⟨rfl, h0⟩ | ⟨g0, cap, cur, rfl, hg0, hh, hnc, hcm, hcs, htk⟩
  · have hx0 : xs = [] := List.eq_nil_of_length_eq_zero h0
    subst hx0
    obtain ⟨v', w', hrun, hown', hgr, _⟩ := run_append_own (P := Tryz.prog) w w.heap.size 41 ty 3 i0 _ 1 8 Tryz.underlying41 hi hz0 hz1 hz2 rfl (by decide) (.slice none 0 0) 0 [] (World.ownsRow_nil w w.heap.size 3 1) ⟨g, 0, none⟩ 1 1 _ rfl hnews hone hm1 (by simp) (Nat.le_refl _)
    exact ⟨v', w', hrun, fin hB hown', hgr, Or.inr fun k hk => (hown'.lt k hk).1⟩
  · by_cases hroom : xs.length + 1 ≤ cap
    · obtain ⟨w', hrun, hown', hgr⟩ := run_append_fits (P := Tryz.prog) w B 41 ty 3 i0 1 Tryz.underlying41 hi hz1 g0 xs.length cap _ hown ⟨g, 0, none⟩ 1 1 _ rfl hnews hone hroom
      exact ⟨_, w', hrun, fin (Nat.le_refl _) hown', hgr, Or.inl rfl⟩
    · obtain ⟨v', w', hrun, hown', hgr⟩ := run_append_arg_grows (P := Tryz.prog) w 41 ty 3 i0 _ 1 8 Tryz.underlying41 hi hz0 hz1 hz2 rfl (by decide) ⟨g0, 0, none⟩ xs.length cap _ hlen (fun j u hj => World.ownsRow.cells hown (g := g0) rfl j u hj) ⟨g, 0, none⟩ 1 1 _ rfl hnews (by omega) hm1 (by omega)
      exact ⟨v', w', hrun, fin hB hown', ⟨hgr.os, hgr.tape, hgr.output, hgr.size, fun k hk _ => hgr.block k hk (by simp)⟩, Or.inr fun k hk => (hown'.lt k hk).1⟩
theorem Only.cl {S : Nat → Prop} {w w1 w2 : World} {row : Option Nat} (h : Only S w w1) (g : w1.grownBy w2 row) (hr : ∀ k, row = some k → w.heap.size ≤ k) : Only S w w2 :=
  ⟨g.os.trans h.os, g.tape.trans h.tape, g.output.trans h.output, Nat.le_trans h.size g.size, fun k hk hS => (g.block k (Nat.lt_of_lt_of_le hk h.size) (fun e => by have := hr k e.symm; omega)).trans (h.block k hk hS)⟩
theorem Only.step {w w1 w2 : World} {sb : Nat} {lv lv1 : Value} (h : Only (SB sb lv) w w1) (m : Mv w lv lv1) (k : Only (SB sb lv1) w1 w2) : Only (SB sb lv) w w2 :=
  h.trans' k fun j hj hS => by
    rcases hS with e | e
    · exact Or.inl e
    · rcases m j e with q | q
      · exact Or.inr q
      · omega
theorem Mv.step {w w1 : World} {lv lv1 lv2 : Value} (hs : w.heap.size ≤ w1.heap.size) (m : Mv w lv lv1) (k : Mv w1 lv1 lv2) : Mv w lv lv2 := fun j hj => by
  rcases k j hj with q | q
  · exact m j q
  · exact Or.inr (by omega)
theorem held_out {n : Nat} {l : List En} {t : Int} (h : Ok n l) (ht : ¬ (0 ≤ t ∧ t < n)) : held l t = [] := by
  apply held_no
  intro j hj e
  have hm : l.getD j e0 ∈ l := by
    rw [List.getD_eq_getElem?_getD, List.getElem?_eq_getElem hj]
    exact List.getElem_mem hj
  have := h.ts _ hm
  rw [e] at this
  exact ht this
theorem unl_of_held {l : List En} {t x : Int} {xs : List Int} (h : (held l t).reverse = x :: xs) : ∃ i, unl l t l.length = some i ∧ i < l.length ∧ (l.getD i e0).2 = x ∧ (held (cut l i) t).reverse = xs ∧ drp (cut l i) t = drp l t := by
  obtain ⟨i, hi⟩ := unl_held (l := l) (t := t) (fun e => by rw [e] at h; cases h)
  obtain ⟨h1, h2, _⟩ := unl_some hi
  have h3 := held_cut hi
  rw [h3, List.reverse_append] at h
  simp at h
  exact ⟨i, hi, h1, h.1, by rw [← h.2], drp_cut h1 h2⟩
theorem NR.apart {w w' : World} {C sb : Nat} {v lv : Value} {xs : List Int} (h : NR w C v xs) (q : Only (SB sb lv) w w') (ha : ∀ j, v.ownBlock = some j → j ≠ sb ∧ lv.ownBlock ≠ some j) : NR w' C v xs := by
  refine ⟨h.1, ?_⟩
  rcases h.2 with hn | ⟨g, cap, cur, rfl, hb, hgg, rest⟩
  · exact Or.inl hn
  · refine Or.inr ⟨g, cap, cur, rfl, hb, ?_, rest⟩
    rw [q.block g (lt_of_block hgg) (fun e => by
      rcases e with e | e
      · exact (ha g rfl).1 e
      · exact (ha g rfl).2 e)]
    exact hgg
/-- the stack is kept where other blocks are written -/
theorem SO.grown {w w' : World} {sb n : Nat} {z : Nat → Nat → Int} {l : List En} {tv lv : Value} {row : Option Nat} (h : SO w sb n z l tv lv) (hg : w.grownBy w' row) (h1 : row ≠ some sb) (h2 : ∀ j, row = some j → lv.ownBlock ≠ some j) (h3 : ∀ j, row = some j → tv.ownBlock ≠ some j) : SO w' sb n z l tv lv :=
  ⟨(hg.block sb (lt_of_block h.ob) (fun e => h1 e.symm)).trans h.ob, h.tk.keep fun k hk => hg.block k (h.tb k hk).2 (fun e => h3 k e.symm hk), h.nz, fun k hk => ⟨(h.tb k hk).1, Nat.lt_of_lt_of_le (h.tb k hk).2 hg.size⟩,
    h.pe.kept hg (by
      cases e : lv.ownBlock with
      | none => exact Or.inl rfl
      | some k => exact Or.inr fun q => h2 k q.symm e), h.ap⟩
/-- numbers are answered; the entries are these -/
def DrpP (w : World) (sb n : Nat) (z : Nat → Nat → Int) (tv lv : Value) (xs : List Int) (l' : List En) (e : Ending) (w' : World) : Prop :=
  ∃ r, e = .returned r ∧ NR w' w.heap.size r xs ∧ ∃ lv', SO w' sb n z l' tv lv' ∧ Only (SB sb lv) w w' ∧ Mv w lv lv'
/-- between two rounds: k entries of the task are left -/
structure DrpB (w : World) (sb n : Nat) (z : Nat → Nat → Int) (l : List En) (tv lv : Value) (t : Int) (o : Value) (k : Nat) (wr : World) (lc : List En) (lv1 : Value) (xs : List Int) : Prop where
  so : SO wr sb n z lc tv lv1
  on : Only (SB sb lv) w wr
  mv : Mv w lv lv1
  nr : NR wr w.heap.size o xs
  ap : ∀ j, o.ownBlock = some j → lv1.ownBlock ≠ some j
  tn : ∀ j, tv.ownBlock = some j → j < w.heap.size
  ok : Ok n lc
  dr : drp lc t = drp l t
  hs : xs ++ (held lc t).reverse = (held l t).reverse
  kk : (held lc t).length = k
  xl : xs.length + k ≤ 900
theorem DrpB.start {w : World} {sb n : Nat} {z : Nat → Nat → Int} {l : List En} {tv lv : Value} (h : SO w sb n z l tv lv) (ok : Ok n l) (t : Int) : DrpB w sb n z l tv lv t (.slice none 0 0) (held l t).length w l lv [] :=
  ⟨h, Only.of_below (Below.refl _ _), Mv.refl w lv, NR.nil w _, (fun j hj => by simp [Value.ownBlock] at hj), (fun j hj => (h.tb j hj).2), ok, rfl, rfl, rfl, by have := ok.len; have := held_len l t; simp only [List.length_nil]; omega⟩
theorem DrpB.put {w wr w2 w3 : World} {sb n k : Nat} {z : Nat → Nat → Int} {l lc lc2 : List En} {tv lv lv1 lv2 o o' : Value} {t x : Int} {xs : List Int} (h : DrpB w sb n z l tv lv t o (k + 1) wr lc lv1 xs)
    (hsb : sb < w.heap.size) (so : SO w2 sb n z lc2 tv lv2) (on : Only (SB sb lv1) wr w2) (mv : Mv wr lv1 lv2) (hne : lc2.Sublist lc) (hd : drp lc2 t = drp lc t) (hh : (held lc t).reverse = x :: (held lc2 t).reverse)
    {w2a : World} (ha : Below w2.heap.size w2 w2a) (hn : NR w3 w.heap.size o' (xs ++ [x])) (hg : w2a.grownBy w3 o.ownBlock) (hb : o'.ownBlock = o.ownBlock ∨ ∀ j, o'.ownBlock = some j → w2a.heap.size ≤ j) : DrpB w sb n z l tv lv t o' k w3 lc2 lv2 (xs ++ [x]) := by
  have hlt : ∀ j, o.ownBlock = some j → w.heap.size ≤ j ∧ j < wr.heap.size := fun j hj => World.ownsRow.lt h.nr j hj
  have hap : ∀ j, o.ownBlock = some j → lv2.ownBlock ≠ some j := fun j hj e => by
    rcases mv j e with q | q
    · exact h.ap j hj q
    · have := (hlt j hj).2; omega
  refine ⟨(so.below ha).grown hg (fun e => ?_) hap (fun j hj e => ?_), (h.on.step h.mv on).cl (w1 := w2) (row := o.ownBlock) ⟨hg.os.trans ha.os, hg.tape.trans ha.tape, hg.output.trans ha.output, Nat.le_trans ha.size hg.size, fun j hj hne => (hg.block j (Nat.lt_of_lt_of_le hj ha.size) hne).trans (ha.block j hj)⟩ (fun j hj => (hlt j hj).1), h.mv.step h.on.size mv, hn, fun j hj e => ?_, h.tn, h.ok.sub hne, hd.trans h.dr, ?_, ?_, ?_⟩
  · have := (hlt sb e).1; omega
  · have := (hlt j hj).1; have := h.tn j e; omega
  · rcases hb with q | q
    · exact hap j (q ▸ hj) e
    · have h1 := q j hj
      have h2 := (so.pe.lt j e).2
      have h3 := ha.size
      omega
  · rw [← h.hs, hh, List.append_assoc]; rfl
  · have h1 := h.kk
    have h2 := congrArg List.length hh
    simp at h2
    omega
  · have := h.xl
    rw [List.length_append, List.length_singleton]
    omega
/-- the stack is kept where other blocks are written -/
theorem RO.grown {w w' : World} {sb n : Nat} {z : Nat → Nat → Int} {l : List En} {tv lv : Value} {row : Option Nat} (h : RO w sb n z l tv lv) (hg : w.grownBy w' row) (h1 : row ≠ some sb) (h2 : ∀ j, row = some j → lv.ownBlock ≠ some j) (h3 : ∀ j, row = some j → tv.ownBlock ≠ some j) : RO w' sb n z l tv lv :=
  ⟨(hg.block sb (lt_of_block h.ob) (fun e => h1 e.symm)).trans h.ob, h.tk.keep fun k hk => hg.block k (h.tb k hk).2 (fun e => h3 k e.symm hk), fun k hk => ⟨(h.tb k hk).1, Nat.lt_of_lt_of_le (h.tb k hk).2 hg.size⟩,
    h.ow.kept hg (by
      cases e : lv.ownBlock with
      | none => exact Or.inl rfl
      | some k => exact Or.inr fun q => h2 k q.symm e), h.ap⟩
/-- numbers are answered; the entries are these -/
def RrpP (w : World) (sb n : Nat) (z : Nat → Nat → Int) (tv lv : Value) (xs : List Int) (l' : List En) (e : Ending) (w' : World) : Prop :=
  ∃ r, e = .returned r ∧ NR w' w.heap.size r xs ∧ ∃ lv', RO w' sb n z l' tv lv' ∧ Only (SB sb lv) w w' ∧ Mv w lv lv'
/-- between two rounds: k entries of the task are left -/
structure RrpB (w : World) (sb n : Nat) (z : Nat → Nat → Int) (l : List En) (tv lv : Value) (t : Int) (o : Value) (k : Nat) (wr : World) (lc : List En) (lv1 : Value) (xs : List Int) : Prop where
  so : RO wr sb n z lc tv lv1
  on : Only (SB sb lv) w wr
  mv : Mv w lv lv1
  nr : NR wr w.heap.size o xs
  ap : ∀ j, o.ownBlock = some j → lv1.ownBlock ≠ some j
  tn : ∀ j, tv.ownBlock = some j → j < w.heap.size
  ok : Ok n lc
  dr : drp lc t = drp l t
  hs : xs ++ (held lc t).reverse = (held l t).reverse
  kk : (held lc t).length = k
  xl : xs.length + k ≤ 900
theorem RrpB.start {w : World} {sb n : Nat} {z : Nat → Nat → Int} {l : List En} {tv lv : Value} (h : RO w sb n z l tv lv) (ok : Ok n l) (t : Int) : RrpB w sb n z l tv lv t (.slice none 0 0) (held l t).length w l lv [] :=
  ⟨h, Only.of_below (Below.refl _ _), Mv.refl w lv, NR.nil w _, (fun j hj => by simp [Value.ownBlock] at hj), (fun j hj => (h.tb j hj).2), ok, rfl, rfl, rfl, by have := ok.len; have := held_len l t; simp only [List.length_nil]; omega⟩
theorem RrpB.put {w wr w2 w3 : World} {sb n k : Nat} {z : Nat → Nat → Int} {l lc lc2 : List En} {tv lv lv1 lv2 o o' : Value} {t x : Int} {xs : List Int} (h : RrpB w sb n z l tv lv t o (k + 1) wr lc lv1 xs)
    (hsb : sb < w.heap.size) (so : RO w2 sb n z lc2 tv lv2) (on : Only (SB sb lv1) wr w2) (mv : Mv wr lv1 lv2) (hne : lc2.Sublist lc) (hd : drp lc2 t = drp lc t) (hh : (held lc t).reverse = x :: (held lc2 t).reverse)
    {w2a : World} (ha : Below w2.heap.size w2 w2a) (hn : NR w3 w.heap.size o' (xs ++ [x])) (hg : w2a.grownBy w3 o.ownBlock) (hb : o'.ownBlock = o.ownBlock ∨ ∀ j, o'.ownBlock = some j → w2a.heap.size ≤ j) : RrpB w sb n z l tv lv t o' k w3 lc2 lv2 (xs ++ [x]) := by
  have hlt : ∀ j, o.ownBlock = some j → w.heap.size ≤ j ∧ j < wr.heap.size := fun j hj => World.ownsRow.lt h.nr j hj
  have hap : ∀ j, o.ownBlock = some j → lv2.ownBlock ≠ some j := fun j hj e => by
    rcases mv j e with q | q
    · exact h.ap j hj q
    · have := (hlt j hj).2; omega
  refine ⟨(so.below ha).grown hg (fun e => ?_) hap (fun j hj e => ?_), (h.on.step h.mv on).cl (w1 := w2) (row := o.ownBlock) ⟨hg.os.trans ha.os, hg.tape.trans ha.tape, hg.output.trans ha.output, Nat.le_trans ha.size hg.size, fun j hj hne => (hg.block j (Nat.lt_of_lt_of_le hj ha.size) hne).trans (ha.block j hj)⟩ (fun j hj => (hlt j hj).1), h.mv.step h.on.size mv, hn, fun j hj e => ?_, h.tn, h.ok.sub hne, hd.trans h.dr, ?_, ?_, ?_⟩
  · have := (hlt sb e).1; omega
  · have := (hlt j hj).1; have := h.tn j e; omega
  · rcases hb with q | q
    · exact hap j (q ▸ hj) e
    · have h1 := q j hj
      have h2 := (so.ow.lt j e).2
      have h3 := ha.size
      omega
  · rw [← h.hs, hh, List.append_assoc]; rfl
  · have h1 := h.kk
    have h2 := congrArg List.length hh
    simp at h2
    omega
  · have := h.xl
    rw [List.length_append, List.length_singleton]
    omega
set_option maxHeartbeats 4000000 in
theorem drop_any {w : World} {sb n : Nat} {z : Nat → Nat → Int} {l : List En} {tv lv : Value} (h : SO w sb n z l tv lv) (ok : Ok n l) (t : Int) :
    Calls Tryz.prog 86 #[.pointer (some ⟨sb, 0, none⟩), .int .i64 t] w (DrpP w sb n z tv lv (held l t).reverse (drp l t)) := by
  have HD := Lib.hid (DrpB.start h ok t)
  have HSB := Lib.hid (lt_of_block h.ob)
  have hk8 : (held l t).length ≤ 8 := by have := ok.len; have := held_len l t; omega
  obtain ⟨q, hq⟩ : ∃ q, q = (held l t).length := ⟨_, rfl⟩
  rw [← hq] at HD hk8
  clear h ok hq
  go_enter Tryz.func86, Tryz.ntmps86
  go_wp2_with fail
  obtain ⟨D, hD⟩ : ∃ D : Value → Nat, ∀ a m c, D (.slice a m c) = 20 - m := ⟨fun v => match v with | .slice _ m _ => 20 - m | _ => 0, fun _ _ _ => rfl⟩
  go_loopw [5] (fun o wr => ∃ (k : Nat) (lc : List En) (lv1 : Value) (xs : List Int), k + xs.length = q ∧ Hid (DrpB w sb n z l tv lv t o k wr lc lv1 xs)) (fun o _ => D o)
  case atStart => exact ⟨q, l, lv, [], rfl, HD.out⟩
  case round =>
    clear HD
    obtain ⟨k, lc, lv1, xs, hk, HB⟩ := hrel
    obtain ⟨oa, oc, rfl⟩ := HB.out.nr.is_form
    have HC := Lib.hid (unl_any HB.out.so (by have := HB.out.ok.len; omega) t)
    cases k with
    | zero =>
      have h0 : held lc t = [] := List.eq_nil_of_length_eq_zero HB.out.kk
      have HE : Hid (∃ e, unlV n lc t = .tuple #[.int .i64 0, .int .i64 e] ∧ (e == 0) = false ∧ decide (e = 0) = false ∧ unlN n lc t = lc) := by
        have hu : unl lc t lc.length = none := by
          cases hu : unl lc t lc.length with
          | none => rfl
          | some i => have := held_cut hu; rw [h0] at this; simp at this
        by_cases ht : 0 ≤ t ∧ t < (n : Int)
        · refine ⟨132, ?_, rfl, rfl, ?_⟩
          · unfold unlV unlR unlE; rw [if_pos ht, if_pos ht, hu]
          · unfold unlN unlL; rw [if_pos ht, hu]
        · refine ⟨9, ?_, rfl, rfl, ?_⟩
          · unfold unlV unlE; rw [if_neg ht, if_neg ht]
          · unfold unlN; rw [if_neg ht]
      obtain ⟨ee, h1, h2, h3, h4⟩ := HE.out
      rw [h1, h4] at HC
      have HF : Hid (xs = (held l t).reverse ∧ lc = drp l t) := by
        have h5 := HB.out.hs
        rw [h0] at h5
        exact ⟨by simpa using h5, by rw [← HB.out.dr, drp_no h0]⟩
      clear HE h1 h4 h0
      go_wp2_with fail
      refine HC.out.mono ?_
      rintro e w2 ⟨rfl, lv2, so, on, mv⟩
      have HFin : Hid (DrpP w sb n z tv lv (held l t).reverse (drp l t) (.returned (.slice oa xs.length oc)) w2) := by
        have hlt : ∀ j, (Value.slice oa xs.length oc).ownBlock = some j → w.heap.size ≤ j ∧ j < wr.heap.size := fun j hj => World.ownsRow.lt HB.out.nr j hj
        refine ⟨_, rfl, ?_, lv2, by rw [← HF.out.2]; exact so, HB.out.on.step HB.out.mv on, HB.out.mv.step HB.out.on.size mv⟩
        rw [← HF.out.1]
        exact NR.apart HB.out.nr on fun j hj => ⟨by have := (hlt j hj).1; have := HSB.out; omega, HB.out.ap j hj⟩
      clear so on mv HC HF
      go_wp2_with fail
      go_ret
      exact HFin.out
    | succ k =>
      have HE : Hid (∃ i, unl lc t lc.length = some i ∧ i < lc.length ∧ ∃ x ys, (held lc t).reverse = x :: ys ∧ (lc.getD i e0).2 = x ∧ (held (cut lc i) t).reverse = ys ∧ drp (cut lc i) t = drp lc t) := by
        have h1 : (held lc t).reverse.length = k + 1 := by rw [List.length_reverse]; exact HB.out.kk
        cases hr : (held lc t).reverse with
        | nil => rw [hr] at h1; cases h1
        | cons x ys => obtain ⟨i, a1, a2, a3, a4, a5⟩ := unl_of_held hr; exact ⟨i, a1, a2, x, ys, rfl, a3, a4, a5⟩
      obtain ⟨i, a1, a2, x, ys, a3, a4, a5, a6⟩ := HE.out
      have ht : 0 ≤ t ∧ t < (n : Int) := by
        by_cases ht : 0 ≤ t ∧ t < (n : Int)
        · exact ht
        · rw [held_out HB.out.ok ht] at a3; cases a3
      have e1 : unlV n lc t = .tuple #[.int .i64 x, .int .i64 0] := by unfold unlV unlR unlE; rw [if_pos ht, if_pos ht, a1, ← a4]
      have e2 : unlN n lc t = cut lc i := by unfold unlN unlL; rw [if_pos ht, a1]
      rw [e1, e2] at HC
      have A3 : Hid ((held lc t).reverse = x :: (held (cut lc i) t).reverse) := by rw [a5]; exact a3
      have A6 := Lib.hid a6
      have hxl : xs.length ≤ 900 := by have := HB.out.xl; omega
      clear HE a1 a2 a3 a4 a5 a6 e1 e2 ht
      go_wp2_with fail
      refine HC.out.mono ?_
      rintro e w2 ⟨rfl, lv2, so, on, mv⟩
      have hlt : ∀ j, (Value.slice oa xs.length oc).ownBlock = some j → w.heap.size ≤ j ∧ j < wr.heap.size := fun j hj => World.ownsRow.lt HB.out.nr j hj
      have hnr2 := NR.apart HB.out.nr on fun j hj => ⟨by have := (hlt j hj).1; have := HSB.out; omega, HB.out.ap j hj⟩
      have ha : Below w2.heap.size w2 (w2.alloc (.cells #[.int .i64 x] 3)) := (Below.refl _ _).alloc (Nat.le_refl _) _
      obtain ⟨v', w3, hrun, hn3, hg3, hb3⟩ := app_num2 (w := w2.alloc (.cells #[.int .i64 x] 3)) 41 x (World.ownsRow.alloc hnr2 _) (g := w2.heap.size) (heap_alloc_new w2 _) (by have := on.size; have := HB.out.on.size; simp; omega) (by omega)
      have HRUN := Lib.hid hrun
      have HB2 := Lib.hid (HB.out.put HSB.out so on mv (cut_sub lc i) A6.out A3.out ha hn3 hg3 hb3)
      obtain ⟨ob, oc2, hov⟩ := hn3.is_form
      rw [show (xs ++ [x]).length = xs.length + 1 by simp] at hov
      subst hov
      clear hrun hn3 hg3 hb3 so on mv hlt hnr2 ha HB HC A3 A6
      go_wp2_with (at_builtin; refine wpList_append_eq rfl _ _ 41 41 rfl _ _ _ _ rfl rfl HRUN.out ?_)
      go_roundw
      case rel => exact ⟨k, cut lc i, lv2, xs ++ [x], by simp; omega, HB2.out⟩
      case measure => rw [hD, hD]; omega
end Go.Proofs.YtkkmfpllgjoceaaGreat.St

namespace Go.Proofs.YtkkmfpllgjoceaaGreat.St
open Go.RowKit Lv Sk Go.Sort
set_option linter.unusedVariables false
set_option maxRecDepth 100000

set_option maxHeartbeats 4000000 in
theorem rdrop_any {w : World} {sb n : Nat} {z : Nat → Nat → Int} {l : List En} {tv lv : Value} (h : RO w sb n z l tv lv) (ok : Ok n l) (hn : n ≤ 1000) (t : Int) :
    Calls Tryz.prog 115 #[.pointer (some ⟨sb, 0, none⟩), .int .i64 t] w (RrpP w sb n z tv lv (held l t).reverse (drp l t)) := by
  have HD := Lib.hid (RrpB.start h ok t)
  have HSB := Lib.hid (lt_of_block h.ob)
  have hk8 : (held l t).length ≤ 8 := by have := ok.len; have := held_len l t; omega
  obtain ⟨q, hq⟩ : ∃ q, q = (held l t).length := ⟨_, rfl⟩
  rw [← hq] at HD hk8
  clear h ok hq
  go_enter Tryz.func115, Tryz.ntmps115
  go_wp2_with fail
  obtain ⟨D, hD⟩ : ∃ D : Value → Nat, ∀ a m c, D (.slice a m c) = 20 - m := ⟨fun v => match v with | .slice _ m _ => 20 - m | _ => 0, fun _ _ _ => rfl⟩
  go_loopw [5] (fun o wr => ∃ (k : Nat) (lc : List En) (lv1 : Value) (xs : List Int), k + xs.length = q ∧ Hid (RrpB w sb n z l tv lv t o k wr lc lv1 xs)) (fun o _ => D o)
  case atStart => exact ⟨q, l, lv, [], rfl, HD.out⟩
  case round =>
    clear HD
    obtain ⟨k, lc, lv1, xs, hk, HB⟩ := hrel
    obtain ⟨oa, oc, rfl⟩ := HB.out.nr.is_form
    have HH := Lib.hid (rheld_any HB.out.so.rs (by have := HB.out.ok.len; omega) t)
    have HK := Lib.hid HB.out.kk
    go_wp2_with fail
    refine HH.out.mono ?_
    rintro e w1 ⟨rv, rfl, hnr, hb1⟩
    obtain ⟨ra, rcap, rfl⟩ := hnr.is_form
    rw [HK.out]
    have HB1 := Lib.hid hb1
    clear hnr hb1 HH HK
    cases k with
    | zero =>
      have h0 : held lc t = [] := List.eq_nil_of_length_eq_zero HB.out.kk
      have hlt : ∀ j, (Value.slice oa xs.length oc).ownBlock = some j → w.heap.size ≤ j ∧ j < wr.heap.size := fun j hj => World.ownsRow.lt HB.out.nr j hj
      have HFin : Hid (RrpP w sb n z tv lv (held l t).reverse (drp l t) (.returned (.slice oa xs.length oc)) w1) := by
        refine ⟨_, rfl, ?_, lv1, ?_, HB.out.on.step HB.out.mv (Only.of_below HB1.out), HB.out.mv⟩
        · have h5 := HB.out.hs
          rw [h0] at h5
          rw [← h5]
          simpa using NR.kept HB.out.nr HB1.out
        · rw [← HB.out.dr, drp_no h0]; exact HB.out.so.below HB1.out
      clear h0 hlt
      go_wp2_with fail
      go_ret
      exact HFin.out
    | succ k =>
      have HE : Hid (∃ i, unl lc t lc.length = some i ∧ i < lc.length ∧ ∃ x ys, (held lc t).reverse = x :: ys ∧ (lc.getD i e0).2 = x ∧ (held (cut lc i) t).reverse = ys ∧ drp (cut lc i) t = drp lc t) := by
        have h1 : (held lc t).reverse.length = k + 1 := by rw [List.length_reverse]; exact HB.out.kk
        cases hr : (held lc t).reverse with
        | nil => rw [hr] at h1; cases h1
        | cons x ys => obtain ⟨i, a1, a2, a3, a4, a5⟩ := unl_of_held hr; exact ⟨i, a1, a2, x, ys, rfl, a3, a4, a5⟩
      obtain ⟨i, a1, a2, x, ys, a3, a4, a5, a6⟩ := HE.out
      have HC := Lib.hid (runl_any (HB.out.so.below HB1.out) (by have := HB.out.ok.len; omega) hn t)
      have ht : 0 ≤ t ∧ t < (n : Int) := by
        by_cases ht : 0 ≤ t ∧ t < (n : Int)
        · exact ht
        · rw [held_out HB.out.ok ht] at a3; cases a3
      have e1 : unlV n lc t = .tuple #[.int .i64 x, .int .i64 0] := by unfold unlV unlR unlE; rw [if_pos ht, if_pos ht, a1, ← a4]
      have e2 : unlN n lc t = cut lc i := by unfold unlN unlL; rw [if_pos ht, a1]
      rw [e1, e2] at HC
      have A3 : Hid ((held lc t).reverse = x :: (held (cut lc i) t).reverse) := by rw [a5]; exact a3
      have A6 := Lib.hid a6
      have hxl : xs.length ≤ 900 := by have := HB.out.xl; omega
      clear HE a1 a2 a3 a4 a5 a6 e1 e2 ht
      go_wp2_with fail
      refine HC.out.mono ?_
      rintro e w2 ⟨rfl, lv2, so, on1, mv1⟩
      have on : Only (SB sb lv1) wr w2 := (Only.of_below (S := SB sb lv1) HB1.out).trans' on1 fun j hj hS => hS
      have mv : Mv wr lv1 lv2 := Mv.step HB1.out.size (Mv.refl _ _) mv1
      have hlt : ∀ j, (Value.slice oa xs.length oc).ownBlock = some j → w.heap.size ≤ j ∧ j < wr.heap.size := fun j hj => World.ownsRow.lt HB.out.nr j hj
      have hnr2 := NR.apart HB.out.nr on fun j hj => ⟨by have := (hlt j hj).1; have := HSB.out; omega, HB.out.ap j hj⟩
      have ha : Below w2.heap.size w2 (w2.alloc (.cells #[.int .i64 x] 3)) := (Below.refl _ _).alloc (Nat.le_refl _) _
      obtain ⟨v', w3, hrun, hn3, hg3, hb3⟩ := app_num2 (w := w2.alloc (.cells #[.int .i64 x] 3)) 41 x (World.ownsRow.alloc hnr2 _) (g := w2.heap.size) (heap_alloc_new w2 _) (by have := on.size; have := HB.out.on.size; simp; omega) (by omega)
      have HRUN := Lib.hid hrun
      have HB2 := Lib.hid (HB.out.put HSB.out so on mv (cut_sub lc i) A6.out A3.out ha hn3 hg3 hb3)
      obtain ⟨ob, oc2, hov⟩ := hn3.is_form
      rw [show (xs ++ [x]).length = xs.length + 1 by simp] at hov
      subst hov
      clear hrun hn3 hg3 hb3 so on mv on1 mv1 hlt hnr2 ha HB HC A3 A6 HB1
      go_wp2_with (at_builtin; refine wpList_append_eq rfl _ _ 41 41 rfl _ _ _ _ rfl rfl HRUN.out ?_)
      go_roundw
      case rel => exact ⟨k, cut lc i, lv2, xs ++ [x], by simp; omega, HB2.out⟩
      case measure => rw [hD, hD]; omega
end Go.Proofs.YtkkmfpllgjoceaaGreat.St

namespace Go.Proofs.YtkkmfpllgjoceaaGreat.St
open Go.RowKit Lv Sk Go.Sort
set_option linter.unusedVariables false
set_option maxRecDepth 100000

/-- the cells of n tasks -/
def tcl (z : Nat → Nat → Int) : Nat → List Value
  | 0 => []
  | k + 1 => tcl z k ++ [.int .i64 (z k 0), .int .i64 (z k 1), .int .i64 (z k 2), .int .i64 (z k 3), .int .i64 (z k 4), .int .i64 (z k 5), .int .i64 (z k 6), .int .i64 (z k 7)]
theorem tcl_len (z : Nat → Nat → Int) (k : Nat) : (tcl z k).length = k * 8 := by
  induction k with
  | zero => rfl
  | succ k ih => unfold tcl; rw [List.length_append, ih]; simp; omega
theorem tcl_at (z : Nat → Nat → Int) : ∀ (k i j : Nat), i < k → j < 8 → (tcl z k)[i * 8 + j]? = some (.int .i64 (z i j))
  | k + 1, i, j, hi, hj => by
    have hl := tcl_len z k
    unfold tcl
    by_cases e : i = k
    · subst e
      rw [List.getElem?_append_right (by omega), hl, Nat.add_sub_cancel_left]
      obtain rfl | rfl | rfl | rfl | rfl | rfl | rfl | rfl : j = 0 ∨ j = 1 ∨ j = 2 ∨ j = 3 ∨ j = 4 ∨ j = 5 ∨ j = 6 ∨ j = 7 := by omega
      all_goals rfl
    · rw [List.getElem?_append_left (by omega)]
      exact tcl_at z k i j (by omega) hj
theorem tcl_one (z : Nat → Nat → Int) (k : Nat) : ∀ u ∈ tcl z k, u.oneCell' = true := by
  induction k with
  | zero => intro u hu; cases hu
  | succ k ih =>
    intro u hu
    unfold tcl at hu
    rcases List.mem_append.mp hu with q | q
    · exact ih u q
    · simp at q
      rcases q with rfl | rfl | rfl | rfl | rfl | rfl | rfl | rfl <;> rfl
theorem infoT13 : (Tryz.prog.info? 55).map (fun i => (i.zero, i.size, i.bytes)) = some (some (.agg #[.int .i64 0, .int .i64 0, .int .i64 0, .int .i64 0, .int .i64 0, .int .i64 0, .int .i64 0, .int .i64 0]), 8, 64) := by kernel_rfl
/-- tasks in a row of the call's own -/
def NT (w : World) (B : Nat) (v : Value) (n : Nat) (z : Nat → Nat → Int) : Prop := w.ownsRow B 55 8 v n (tcl z n)
theorem NT.tk {w : World} {B : Nat} {v : Value} {n : Nat} {z : Nat → Nat → Int} (h : NT w B v n z) : TK w v n z := by
  have hc := fun g => World.ownsRow.cells h (g := g)
  rcases h.2 with ⟨rfl, rfl⟩ | ⟨g, cap, cur, rfl, hb, hh, hnc, hcm, _⟩
  · exact TK.nil w z
  · refine ⟨_, cap, rfl, hnc, hcm, (fun e => by cases e), fun _ => ⟨g, 0, rfl, fun i hi j hj => ?_⟩⟩
    have q := hc g rfl _ _ (tcl_at z n i j hi hj)
    rw [Addr.add_lit] at q
    rw [Nat.add_assoc]
    exact q
/-- what tasks that can be read yield -/
theorem TK.src {w : World} {v : Value} {n : Nat} {z : Nat → Nat → Int} (h : TK w v n z) : Src Tryz.prog 8 22 v n (tcl z n) w := by
  obtain ⟨a, cap, rfl, h1, h2, h3, h4⟩ := h
  cases n with
  | zero =>
    cases a with
    | none => exact Src.ofNil w Tryz.underlying22 cap
    | some ad => exact Src.ofSlice w Tryz.underlying22 ad 0 cap [] rfl (by intro j u hj; simp at hj) (by intro u hu; cases hu)
  | succ m =>
    obtain ⟨b, off, rfl, hc⟩ := h4 (by omega)
    refine Src.ofSlice w Tryz.underlying22 ⟨b, off, none⟩ (m + 1) cap _ (tcl_len z _) (fun j u hj => ?_) (tcl_one z _)
    have hl : j < (m + 1) * 8 := by rw [← tcl_len z]; exact (List.getElem?_eq_some_iff.1 hj).1
    have e : j = j / 8 * 8 + j % 8 := by omega
    have q := hc (j / 8) (by omega) (j % 8) (by omega)
    rw [Addr.add_lit, show off + j = off + j / 8 * 8 + j % 8 by omega, q]
    rw [e, tcl_at z _ _ _ (by omega) (by omega)] at hj
    exact hj
theorem TK.cells {w : World} {a : Option Addr} {n cap : Nat} {z : Nat → Nat → Int} (h : TK w (.slice a n cap) n z) (hn : 0 < n) : ∃ ad, a = some ad ∧ ∀ j u, (tcl z n)[j]? = some u → w.cell? (ad.add j) = some u := by
  obtain ⟨a', cap', e, h1, h2, h3, h4⟩ := h
  obtain ⟨rfl, rfl⟩ : a = a' ∧ cap = cap' := by simpa using e
  obtain ⟨b, off, rfl, hc⟩ := h4 hn
  refine ⟨_, rfl, fun j u hj => ?_⟩
  have hl : j < n * 8 := by rw [← tcl_len z]; exact (List.getElem?_eq_some_iff.1 hj).1
  have e : j = j / 8 * 8 + j % 8 := by omega
  have q := hc (j / 8) (by omega) (j % 8) (by omega)
  rw [Addr.add_lit, show off + j = off + j / 8 * 8 + j % 8 by omega, q]
  rw [e, tcl_at z _ _ _ (by omega) (by omega)] at hj
  exact hj
/-- tasks behind none -/
theorem app_tnil {w : World} {v : Value} {n : Nat} {z : Nat → Nat → Int} (h : TK w v n z) (hn : n ≤ 1000) (ty : TypeId) :
    ∃ v' w', (Builtin.append_ #[22, 22] ty #[.slice none 0 0, v]).run Tryz.prog w = .ok v' w' ∧ NT w' w.heap.size v' n z ∧ Below w.heap.size w w' := by
  obtain ⟨i0, hi, hz0, hz1, hz2⟩ := info_parts infoT13
  obtain ⟨a, cap, rfl, _, _⟩ := h.slice
  by_cases hn0 : n = 0
  · subst hn0
    exact ⟨_, w, run_append_nothing w _ _ ty 55 i0 Tryz.underlying22 hi none 0 0 (Nat.le_refl _) _ (by rw [hz1]; exact h.src), World.ownsRow_nil w _ _ _, Below.refl _ _⟩
  · obtain ⟨ad, rfl, hc⟩ := h.cells (by omega)
    obtain ⟨v', w', hrun, hown', hgr, _⟩ := run_append_own (P := Tryz.prog) w w.heap.size 22 ty 55 i0 _ 8 64 Tryz.underlying22 hi hz0 hz1 hz2 rfl (by decide) (.slice none 0 0) 0 [] (World.ownsRow_nil w w.heap.size 55 8) ad n cap _ (tcl_len z n) hc (tcl_one z n) (by unfold maxLen; omega) (by omega) (Nat.le_refl _)
    refine ⟨v', w', hrun, ?_, ⟨hgr.os, hgr.tape, hgr.output, hgr.size, fun k hk => hgr.block k hk (by simp [Value.ownBlock])⟩⟩
    unfold NT
    simpa using hown'
/-- tasks behind none, of a row that is there -/
theorem app_tlit {w : World} {v : Value} {n g : Nat} {z : Nat → Nat → Int} (h : TK w v n z) (hn : n ≤ 1000) (ty : TypeId) :
    ∃ v' w', (Builtin.append_ #[22, 22] ty #[.slice (some ⟨g, 0, none⟩) 0 0, v]).run Tryz.prog w = .ok v' w' ∧ TK w' v' n z ∧ Below w.heap.size w w' ∧ (∃ ad c, v' = .slice (some ad) n c) ∧ (∀ k, v'.ownBlock = some k → k = g ∨ (w.heap.size ≤ k ∧ k < w'.heap.size)) := by
  obtain ⟨i0, hi, hz0, hz1, hz2⟩ := info_parts infoT13
  obtain ⟨a, cap, rfl, _, _⟩ := h.slice
  by_cases hn0 : n = 0
  · subst hn0
    refine ⟨_, w, run_append_nothing w _ _ ty 55 i0 Tryz.underlying22 hi (some ⟨g, 0, none⟩) 0 0 (Nat.le_refl _) _ (by rw [hz1]; exact h.src), ⟨_, 0, rfl, Nat.le_refl _, Nat.zero_le _, (fun e => by cases e), fun q => by cases q⟩, Below.refl _ _, ⟨_, _, rfl⟩, fun k hk => ?_⟩
    simp [Value.ownBlock] at hk
    exact Or.inl hk.symm
  · obtain ⟨ad, rfl, hc⟩ := h.cells (by omega)
    obtain ⟨v', w', hrun, hown', hgr⟩ := run_append_arg_grows (P := Tryz.prog) w 22 ty 55 i0 _ 8 64 Tryz.underlying22 hi hz0 hz1 hz2 rfl (by decide) ⟨g, 0, none⟩ 0 0 [] rfl (by intro j u hj; simp at hj) ad n cap _ (tcl_len z n) hc (by omega) (by unfold maxLen; omega) (by omega)
    rw [Nat.zero_add, List.nil_append] at hown'
    have hnt : NT w' w.heap.size v' n z := hown'
    refine ⟨v', w', hrun, hnt.tk, ⟨hgr.os, hgr.tape, hgr.output, hgr.size, fun k hk => hgr.block k hk (by simp)⟩, ?_, fun k hk => Or.inr (hown'.lt k hk)⟩
    rcases hown'.2 with ⟨rfl, e⟩ | ⟨g', cap', cur, rfl, _⟩
    · exact absurd e hn0
    · exact ⟨_, _, rfl⟩
/-- a stack is answered, without entries; or none -/
def NewP (n : Nat) (z : Nat → Nat → Int) (w : World) (e : Ending) (w' : World) : Prop :=
  if n ≤ 4 then ∃ sb tv, e = .returned (.tuple #[.pointer (some ⟨sb, 0, none⟩), .int .i64 0]) ∧ SO w' sb n z [] tv (.slice none 0 0) ∧ Below w.heap.size w w' ∧ w.heap.size ≤ sb ∧ ∀ k, tv.ownBlock = some k → w.heap.size ≤ k
  else e = .returned (.tuple #[.pointer none, .int .i64 5]) ∧ Below w.heap.size w w'
def RewP (n : Nat) (z : Nat → Nat → Int) (w : World) (e : Ending) (w' : World) : Prop :=
  if n ≤ 4 then ∃ sb tv, e = .returned (.tuple #[.pointer (some ⟨sb, 0, none⟩), .int .i64 0]) ∧ RO w' sb n z [] tv (.slice none 0 0) ∧ Below w.heap.size w w' ∧ w.heap.size ≤ sb ∧ ∀ k, tv.ownBlock = some k → w.heap.size ≤ k
  else e = .returned (.tuple #[.pointer none, .int .i64 5]) ∧ Below w.heap.size w w'
set_option maxHeartbeats 2000000 in
theorem new_any {w : World} {v : Value} {n : Nat} {z : Nat → Nat → Int} (h : TK w v n z) : Calls Tryz.prog 36 #[v] w (NewP n z w) := by
  obtain ⟨a, cap, rfl, hn1, hn2⟩ := h.slice
  have hmx : n ≤ 9223372036854775807 := by unfold maxLen at hn2; omega
  by_cases h4 : n ≤ 4
  · have hd : decide ((4 : Int) < (n : Int)) = false := by simp; omega
    have hA := (Below.refl _ w).alloc (Nat.le_refl _) (.cells #[] 55)
    obtain ⟨v', w2, hrun, htk, hb2, ⟨ad, c, rfl⟩, hob⟩ := app_tlit (g := w.heap.size) (h.below hA) (by omega) 22
    have HB2 := Lib.hid (chn hA hb2)
    have HRUN := Lib.hid hrun
    have hs2 := hb2.size
    simp at hs2
    have HA3 : Hid (Below w.heap.size w (w2.alloc (.cells #[.slice (some ad) n c, .slice none 0 0] 127))) := HB2.out.alloc HB2.out.size _
    have HS : Hid (SO (w2.alloc (.cells #[.slice (some ad) n c, .slice none 0 0] 127)) w2.heap.size n z [] (.slice (some ad) n c) (.slice none 0 0)) := by
      refine ⟨heap_alloc_new w2 _, htk.below ((Below.refl _ _).alloc (Nat.le_refl _) _), ⟨_, _, _, rfl⟩, fun k hk => ?_, PE.nil _ _, fun k hk => by simp [Value.ownBlock] at hk⟩
      rcases hob k hk with e | e
      · exact ⟨by omega, by simp; omega⟩
      · exact ⟨by omega, by simp; omega⟩
    have HO : Hid (∀ k, (Value.slice (some ad) n c).ownBlock = some k → w.heap.size ≤ k) := fun k hk => by
      rcases hob k hk with e | e
      · omega
      · have := e.1; simp at this; omega
    have HZ : Hid (w.heap.size ≤ w2.heap.size) := by unfold Hid; omega
    have HP : Hid (NewP n z w (.returned (.tuple #[.pointer (some ⟨w2.heap.size, 0, none⟩), .int .i64 0])) (w2.alloc (.cells #[.slice (some ad) n c, .slice none 0 0] 127))) := by
      unfold Hid NewP
      rw [if_pos h4]
      exact ⟨_, _, rfl, HS.out, HA3.out, HZ.out, HO.out⟩
    clear h hA hrun htk hb2 hob hs2 h4 HB2 HA3 HS HO HZ
    go_enter Tryz.func36, Tryz.ntmps36
    go_wp2_with (at_builtin; refine wpList_append_eq rfl _ _ 22 22 rfl _ _ _ _ rfl rfl HRUN.out ?_)
    go_ret2
    exact HP.out
  · have hd : decide ((4 : Int) < (n : Int)) = true := by simp; omega
    have HP : Hid (NewP n z w (.returned (.tuple #[.pointer none, .int .i64 5])) w) := by
      unfold Hid NewP
      rw [if_neg h4]
      exact ⟨rfl, Below.refl _ _⟩
    clear h h4
    go_enter Tryz.func36, Tryz.ntmps36
    go_wp2_with fail
    go_ret2
    exact HP.out
set_option maxHeartbeats 2000000 in
theorem rnew_any {w : World} {v : Value} {n : Nat} {z : Nat → Nat → Int} (h : TK w v n z) : Calls Tryz.prog 43 #[v] w (RewP n z w) := by
  obtain ⟨a, cap, rfl, hn1, hn2⟩ := h.slice
  have hmx : n ≤ 9223372036854775807 := by unfold maxLen at hn2; omega
  by_cases h4 : n ≤ 4
  · have hd : decide ((4 : Int) < (n : Int)) = false := by simp; omega
    have hA := (Below.refl _ w).alloc (Nat.le_refl _) (.cells #[.slice none 0 0, .slice none 0 0] 141)
    have hob0 := heap_alloc_new w (.cells #[.slice none 0 0, .slice none 0 0] 141)
    obtain ⟨v', w2, hrun, hnt, hb2⟩ := app_tnil (h.below hA) (by omega) 22
    obtain ⟨ad, c, rfl⟩ := own_slice hnt
    have HB2 := Lib.hid (chn hA hb2)
    have HRUN := Lib.hid hrun
    have hs2 := hb2.size
    simp at hs2
    have hob : w2.heap[w.heap.size]? = some (.cells #[.slice none 0 0, .slice none 0 0] 141 (0, 0)) := (hb2.block _ (by simp)).trans hob0
    have s1 : w2.cell? ⟨w.heap.size, 0, none⟩ = some (.slice none 0 0) := cell_of_row _ _ 0 _ _ _ hob
    have s2 : w2.frozen? ⟨w.heap.size, 0, none⟩ = false := frozen_of_row _ _ _ _ _ hob
    have hlt : ∀ k, (Value.slice ad n c).ownBlock = some k → w.heap.size + 1 ≤ k ∧ k < w2.heap.size := fun k hk => by
      have := World.ownsRow.lt hnt k hk
      simp at this
      exact this
    have HP : Hid (RewP n z w (.returned (.tuple #[.pointer (some ⟨w.heap.size, 0, none⟩), .int .i64 0])) (w2.setCell ⟨w.heap.size, 0, none⟩ (.slice ad n c))) := by
      unfold Hid RewP
      rw [if_pos h4]
      refine ⟨_, _, rfl, ⟨heap_setCell_same w2 w.heap.size 0 _ _ _ hob, hnt.tk.keep fun k hk => Below.heap_setCell _ _ _ _ (show k ≠ w.heap.size by have := (hlt k hk).1; omega), fun k hk => ⟨by have := (hlt k hk).1; omega, by have := (hlt k hk).2; simp [World.setCell]; omega⟩, World.ownsRow_nil _ _ _ _, fun k hk => by simp [Value.ownBlock] at hk⟩, HB2.out.setCell (Nat.le_refl _) _, Nat.le_refl _, fun k hk => by have := (hlt k hk).1; omega⟩
    clear h hA hrun hnt hb2 hs2 h4 HB2 hob hob0 hlt
    go_enter Tryz.func43, Tryz.ntmps43
    go_wp2_with (at_builtin; refine wpList_append_eq rfl _ _ 22 22 rfl _ _ _ _ rfl rfl HRUN.out ?_)
    go_ret2
    exact HP.out
  · have hd : decide ((4 : Int) < (n : Int)) = true := by simp; omega
    have HP : Hid (RewP n z w (.returned (.tuple #[.pointer none, .int .i64 5])) w) := by
      unfold Hid RewP
      rw [if_neg h4]
      exact ⟨rfl, Below.refl _ _⟩
    clear h h4
    go_enter Tryz.func43, Tryz.ntmps43
    go_wp2_with fail
    go_ret2
    exact HP.out
end Go.Proofs.YtkkmfpllgjoceaaGreat.St

namespace Go.Proofs.YtkkmfpllgjoceaaGreat.St
open Go.RowKit Lv Sk Go.Sort
set_option linter.unusedVariables false
set_option maxRecDepth 100000

abbrev H4 (l : List En) : Prop := ∀ t, (held l t).length ≤ 4
theorem H4.nil : H4 [] := fun t => Nat.zero_le _
theorem H4.sub {l m : List En} (h : H4 l) (s : m.Sublist l) : H4 m := fun t => Nat.le_trans ((s.filter _).map _).length_le (h t)
theorem us_range {n : Nat} {U : Nat → Int} {r i : Int} (h : us n U r i = true) : (0 ≤ i ∧ i < n) ∧ 0 ≤ r ∧ r < 8 := by
  unfold us at h
  simp only [Bool.and_eq_true, decide_eq_true_eq] at h
  exact ⟨h.1, h.2.1⟩
theorem lock0 {n : Nat} {u : Bool} {l : List En} {t r : Int} (h : lockE n u l t r = 0) : (0 ≤ t ∧ t < n) ∧ u = true ∧ has l r = false ∧ (held l t).length ≠ 4 := by
  unfold lockE at h
  split at h
  · next h1 =>
    refine ⟨h1, ?_⟩
    split at h
    · next h2 =>
      refine ⟨h2, ?_⟩
      split at h
      · cases h
      · next h3 =>
        split at h
        · cases h
        · next h4 => exact ⟨by simpa using h3, h4⟩
    · cases h
  · cases h
theorem lock_ok {n : Nat} {U : Nat → Int} {l : List En} {t r : Int} (h : Ok n l) : Ok n (lockL n (us n U r t) l t r) := by
  unfold lockL
  split
  · next e =>
    obtain ⟨h1, h2, h3, _⟩ := lock0 e
    exact h.snoc h1 (us_range h2).2 h3
  · exact h
theorem lock_h4 {n : Nat} {u : Bool} {l : List En} {t r : Int} (h : H4 l) : H4 (lockL n u l t r) := by
  unfold lockL
  split
  · next e =>
    obtain ⟨h1, h2, h3, h4⟩ := lock0 e
    intro x
    have := h x
    rw [held_append, held_one, List.length_append]
    split
    · next q =>
      have q : t = x := q
      subst q
      have := h t
      simp only [List.length_singleton]
      omega
    · simpa using this
  · exact h
theorem unl_sub (n : Nat) (l : List En) (t : Int) : (unlN n l t).Sublist l := by
  unfold unlN unlL
  split
  · split
    · exact cut_sub _ _
    · exact List.Sublist.refl _
  · exact List.Sublist.refl _
/-- a stack, all of whose blocks are from B on -/
structure SX (B : Nat) (W w : World) (sb n : Nat) (z : Nat → Nat → Int) (l : List En) (tv lv : Value) : Prop where
  so : SO w sb n z l tv lv
  hb : B ≤ sb
  tb : ∀ k, tv.ownBlock = some k → B ≤ k
  bel : Below B W w
  ok : Ok n l
  h4 : H4 l
  n4 : n ≤ 4
theorem SX.below {B : Nat} {W w w' : World} {sb n : Nat} {z : Nat → Nat → Int} {l : List En} {tv lv : Value} (h : SX B W w sb n z l tv lv) (q : Below w.heap.size w w') : SX B W w' sb n z l tv lv :=
  ⟨h.so.below q, h.hb, h.tb, h.bel.trans (q.mono (by have := lt_of_block h.so.ob; have := h.hb; omega)), h.ok, h.h4, h.n4⟩
theorem SX.op {B : Nat} {W w w' : World} {sb n : Nat} {z : Nat → Nat → Int} {l l' : List En} {tv lv lv' : Value} (h : SX B W w sb n z l tv lv) (so : SO w' sb n z l' tv lv') (on : Only (SB sb lv) w w') (ok : Ok n l') (h4 : H4 l') : SX B W w' sb n z l' tv lv' := by
  have hs := lt_of_block h.so.ob
  have hb := h.hb
  refine ⟨so, hb, h.tb, h.bel.trans (on.below (by omega) fun k _ hk => ?_), ok, h4, h.n4⟩
  rcases hk with e | e
  · omega
  · have := (h.so.pe.lt k e).1; omega
/-- it is -/
def SS (B : Nat) (W w : World) (sb n : Nat) (z : Nat → Nat → Int) (l : List En) : Prop := ∃ tv lv, SX B W w sb n z l tv lv
theorem SS.below {B : Nat} {W w w' : World} {sb n : Nat} {z : Nat → Nat → Int} {l : List En} (h : SS B W w sb n z l) (q : Below w.heap.size w w') : SS B W w' sb n z l := by
  obtain ⟨tv, lv, h⟩ := h
  exact ⟨tv, lv, h.below q⟩
theorem SS.bel {B : Nat} {W w : World} {sb n : Nat} {z : Nat → Nat → Int} {l : List En} (h : SS B W w sb n z l) : Below B W w := by
  obtain ⟨tv, lv, h⟩ := h
  exact h.bel
/-- a value is answered, the stack is this one -/
def SsP (B : Nat) (W : World) (sb n : Nat) (z : Nat → Nat → Int) (r : Value) (l : List En) (e : Ending) (w' : World) : Prop := e = .returned r ∧ SS B W w' sb n z l
section
variable {B : Nat} {W w : World} {sb n : Nat} {z : Nat → Nat → Int} {l : List En}
theorem ss_lock (h : SS B W w sb n z l) (t r : Int) {x : Int} {l' : List En} (h1 : lockE n (us n (lo z) r t) l t r = x) (h2 : lockL n (us n (lo z) r t) l t r = l') :
    Calls Tryz.prog 82 #[.pointer (some ⟨sb, 0, none⟩), .int .i64 t, .int .i64 r] w (SsP B W sb n z (.int .i64 x) l') := by
  obtain ⟨tv, lv, h⟩ := h
  subst h1; subst h2
  refine (lock_any h.so (by have := h.ok.len; omega) h.h4 t r).mono ?_
  rintro e w' ⟨he, lv', so, on, _⟩
  exact ⟨he, tv, lv', h.op so on (lock_ok h.ok) (lock_h4 h.h4)⟩
theorem ss_unl (h : SS B W w sb n z l) (t : Int) {v : Value} {l' : List En} (h1 : unlV n l t = v) (h2 : unlN n l t = l') :
    Calls Tryz.prog 84 #[.pointer (some ⟨sb, 0, none⟩), .int .i64 t] w (SsP B W sb n z v l') := by
  obtain ⟨tv, lv, h⟩ := h
  subst h1; subst h2
  refine (unl_any h.so (by have := h.ok.len; omega) t).mono ?_
  rintro e w' ⟨he, lv', so, on, _⟩
  exact ⟨he, tv, lv', h.op so on (h.ok.sub (unl_sub _ _ _)) (h.h4.sub (unl_sub _ _ _))⟩
/-- numbers are answered, in a row of their own; the stack is this one -/
def SsN (B : Nat) (W : World) (sb n : Nat) (z : Nat → Nat → Int) (xs : List Int) (l : List En) (w : World) (e : Ending) (w' : World) : Prop := ∃ r, e = .returned r ∧ NR w' w.heap.size r xs ∧ SS B W w' sb n z l
theorem ss_drop (h : SS B W w sb n z l) (t : Int) : Calls Tryz.prog 86 #[.pointer (some ⟨sb, 0, none⟩), .int .i64 t] w (SsN B W sb n z (held l t).reverse (drp l t) w) := by
  obtain ⟨tv, lv, h⟩ := h
  refine (drop_any h.so h.ok t).mono ?_
  rintro e w' ⟨r, he, hr, lv', so, on, _⟩
  exact ⟨r, he, hr, tv, lv', h.op so on (h.ok.sub (drp_sub _ _)) (h.h4.sub (drp_sub _ _))⟩
theorem ss_held (h : SS B W w sb n z l) (t : Int) {xs : List Int} (hx : held l t = xs) : Calls Tryz.prog 72 #[.pointer (some ⟨sb, 0, none⟩), .int .i64 t] w (HeldP w xs) := by
  obtain ⟨tv, lv, h⟩ := h
  subst hx
  exact held_any h.so (by have := h.ok.len; omega) t
theorem ss_top (h : SS B W w sb n z l) {x : Int} {b : Bool} (h1 : topT l = x) (h2 : topB l = b) : Calls Tryz.prog 76 #[.pointer (some ⟨sb, 0, none⟩)] w (TopP x b w) := by
  obtain ⟨tv, lv, h⟩ := h
  subst h1; subst h2
  exact top_any h.so (by have := h.ok.len; omega)
theorem ss_cls (h : SS B W w sb n z l) {x : Int} (h1 : cls (ceil n (dl z) (lo z)) l l.length = x) : Calls Tryz.prog 131 #[.pointer (some ⟨sb, 0, none⟩)] w (YI x w) := by
  obtain ⟨tv, lv, h⟩ := h
  subst h1
  exact cls_any h.so (by have := h.ok.len; omega) (by have := h.n4; omega)
end
theorem ss_new {w : World} {v : Value} {n : Nat} {z : Nat → Nat → Int} (h : TK w v n z) (hn : n ≤ 4) : Calls Tryz.prog 36 #[v] w (fun e w' => ∃ sb, e = .returned (.tuple #[.pointer (some ⟨sb, 0, none⟩), .int .i64 0]) ∧ SS w.heap.size w w' sb n z []) := by
  refine (new_any h).mono ?_
  intro e w' hp
  unfold NewP at hp
  rw [if_pos hn] at hp
  obtain ⟨sb, tv, he, so, bel, hsb, htb⟩ := hp
  exact ⟨sb, he, tv, _, so, hsb, htb, bel, Ok.nil n, H4.nil, hn⟩
/-- a number, brought into 0 .. n - 1 -/
def bring (a n : Int) : Int := if a.tmod n < 0 then a.tmod n + n else a.tmod n
theorem bring_range (a : Int) {n : Int} (h : 1 ≤ n) : 0 ≤ bring a n ∧ bring a n < n := by
  have h1 := Int.lt_tmod_of_pos a (by omega : 0 < n)
  have h2 := Int.tmod_lt_of_pos a (by omega : 0 < n)
  unfold bring; split <;> omega
theorem bring_any (a n : Int) (w : World) (h : 1 ≤ n) (hn : n ≤ 9007199254740992) : Calls Tryz.prog 10 #[.int .i64 a, .int .i64 n] w (fun e w' => e = .returned (.int .i64 (bring a n)) ∧ w' = w) := by
  unfold bring
  have h1 := Int.lt_tmod_of_pos a (by omega : 0 < n)
  have h2 := Int.tmod_lt_of_pos a (by omega : 0 < n)
  have hz : (n == 0) = false := by simp; omega
  have hw64 : wrap64 (a.tmod n) = a.tmod n := by unfold wrap64; omega
  by_cases hr : a.tmod n < 0
  · rw [if_pos hr]
    have hd : decide (a.tmod n < 0) = true := by simpa using hr
    have hw2 : wrap64 (a.tmod n + n) = a.tmod n + n := by unfold wrap64; omega
    go_enter Tryz.func10, Tryz.ntmps10
    go_wp2
    go_ret
    exact ⟨rfl, rfl⟩
  · rw [if_neg hr]
    have hd : decide (a.tmod n < 0) = false := by simpa using hr
    go_enter Tryz.func10, Tryz.ntmps10
    go_wp2
    go_ret
    exact ⟨rfl, rfl⟩
/-- the same numbers are the same -/
theorem eqs_any {w : World} {u v : Value} {xs : List Int} (hu : IS w u xs) (hv : IS w v xs) (hl : xs.length ≤ 100000) : Calls Tryz.prog 33 #[u, v] w (YB true w) := by
  obtain ⟨a, cap, rfl, hn1, hn2⟩ := hu.slice
  obtain ⟨b, cap', rfl, hn3, hn4⟩ := hv.slice
  have HU := Lib.hid hu
  have HV := Lib.hid hv
  obtain ⟨m, hm⟩ : ∃ m, m = xs.length := ⟨_, rfl⟩
  rw [← hm] at hl hn1 hn3 HU HV ⊢
  clear hu hv hm
  have mixed : Tryz.prog.follows .mixedOrders = true := by kernel_rfl
  go_enter Tryz.func33, Tryz.ntmps33
  go_wp2_with fail
  go_loopw [5] (fun i wr => ∃ k : Nat, k ≤ m ∧ i = .int .i64 k ∧ Hid (Below w.heap.size w wr)) (fun i _ => m - (intOf i).toNat)
  case atStart => exact ⟨0, Nat.zero_le _, rfl, Below.refl _ _⟩
  case round =>
    obtain ⟨k, hk, rfl, HB⟩ := hrel
    by_cases hlt : k < m
    · obtain ⟨b1, o1, rfl, e1⟩ := (HU.out.below HB.out).at hlt
      obtain ⟨b2, o2, rfl, e2⟩ := (HV.out.below HB.out).at hlt
      generalize xs.getD k 0 = q at *
      have hki : (k : Int) < (m : Int) := by omega
      have hk0 : (0 : Int) ≤ k := by omega
      go_wp2_with fail
      go_quiet (fail)
      go_wp2_with fail
      go_roundw
      case rel => exact ⟨k + 1, by omega, by go_num, below_drewN HB.out _⟩
      case measure => simp [intOf]; omega
    · obtain rfl : k = m := by omega
      go_wp2_with fail
      go_ret
      exact ⟨rfl, HB.out⟩
end Go.Proofs.YtkkmfpllgjoceaaGreat.St
