/- The program's stack, written: Lock. -/
import Derived.Test.YtmheggedlepdlaaStaH
import Derived.ArgAppend
namespace Go.Proofs.Ytmheggedlepdlaa
open Go.RowKit Lv Sk Go.Sort
set_option linter.unusedVariables false

/-- an entry more: where it was, if there is room, or anew -/
theorem app_pent {w : World} {B : Nat} {v : Value} {l : List En} (ty : TypeId) (x y : Int) {g : Nat} (h : PE w B v l) (hg : w.heap[g]? = some (.cells #[.int .i64 x, .int .i64 y] 66 (0, 0))) (hB : B ≤ w.heap.size) (hn : l.length ≤ 1000) :
    ∃ v' w', (Builtin.append_ #[55, 55] ty #[v, .slice (some ⟨g, 0, none⟩) 1 1]).run Try.prog w = .ok v' w' ∧ PE w' B v' (l ++ [(x, y)]) ∧ (∃ a c, v' = .slice a (l.length + 1) c) ∧ w.grownBy w' v.ownBlock ∧ (v'.ownBlock = v.ownBlock ∨ ∀ k, v'.ownBlock = some k → w.heap.size ≤ k) := by
  obtain ⟨i0, hi, hz0, hz1, hz2⟩ := info_parts infoPn
  have hnews : ∀ (j : Nat) (u : Value), ([Value.int .i64 x, .int .i64 y] : List Value)[j]? = some u → w.cell? ((⟨g, 0, none⟩ : Addr).add j) = some u := by
    intro j u hj
    rw [Addr.add_lit, Nat.zero_add, cell_of_row _ _ j _ _ _ hg, List.getElem?_toArray]
    exact hj
  have hone : ∀ u ∈ ([Value.int .i64 x, .int .i64 y] : List Value), u.oneCell' = true := by
    intro u hu
    simp at hu
    rcases hu with rfl | rfl <;> rfl
  have hm1 : l.length + 1 ≤ maxLen := by unfold maxLen; omega
  have e1 : (l ++ [(x, y)]).length = l.length + 1 := by simp
  have e2 : ecells (l ++ [(x, y)]) = ecells l ++ [.int .i64 x, .int .i64 y] := ecells_append _ _
  have fin : ∀ {w' : World} {v' : Value} {C : Nat}, B ≤ C → w'.ownsRow C 66 2 v' (l.length + 1) (ecells l ++ [.int .i64 x, .int .i64 y]) → PE w' B v' (l ++ [(x, y)]) ∧ (∃ a c, v' = .slice a (l.length + 1) c) := fun hC hown =>
    ⟨PE.of_own (by rw [e1, e2]; exact own_base hown hC), own_slice hown⟩
  rcases h with ⟨rfl, rfl⟩ | ⟨g0, cap, rfl, h1, h2, h3, h4, h5, h6⟩
  · obtain ⟨v', w', hrun, hown', hgr, _⟩ := run_append_own (P := Try.prog) w w.heap.size 55 ty 66 i0 _ 2 16 Try.underlying55 hi hz0 hz1 hz2 rfl (by decide) (.slice none 0 0) 0 [] (World.ownsRow_nil w w.heap.size 66 2) ⟨g, 0, none⟩ 1 1 _ rfl hnews hone hm1 (by simp) (Nat.le_refl _)
    obtain ⟨f1, f2⟩ := fin hB hown'
    exact ⟨v', w', hrun, f1, f2, hgr, Or.inr fun k hk => (hown'.lt k hk).1⟩
  · by_cases hroom : l.length + 1 ≤ cap
    · have hown : w.ownsRow B 66 2 (.slice (some ⟨g0, 0, none⟩) l.length cap) l.length (ecells l) := by
        rcases h6 with e | e
        · omega
        · exact e
      obtain ⟨w', hrun, hown', hgr⟩ := run_append_fits (P := Try.prog) w B 55 ty 66 i0 2 Try.underlying55 hi hz1 g0 l.length cap _ hown ⟨g, 0, none⟩ 1 1 _ rfl hnews hone hroom
      obtain ⟨f1, f2⟩ := fin (Nat.le_refl _) hown'
      exact ⟨_, w', hrun, f1, f2, hgr, Or.inl rfl⟩
    · obtain ⟨v', w', hrun, hown', hgr⟩ := run_append_arg_grows (P := Try.prog) w 55 ty 66 i0 _ 2 16 Try.underlying55 hi hz0 hz1 hz2 rfl (by decide) ⟨g0, 0, none⟩ l.length cap _ (ecells_len l) h5 ⟨g, 0, none⟩ 1 1 _ rfl hnews (by omega) hm1 (by omega)
      obtain ⟨f1, f2⟩ := fin hB hown'
      exact ⟨v', w', hrun, f1, f2, ⟨hgr.os, hgr.tape, hgr.output, hgr.size, fun k hk _ => hgr.block k hk (by simp)⟩, Or.inr fun k hk => (hown'.lt k hk).1⟩
/-- other entries, where they lie: the field is set -/
theorem SO.put {w wr w1 : World} {sb n : Nat} {z : Nat → Nat → Int} {l l' : List En} {tv lv v' : Value} (h : SO w sb n z l tv lv) (q : Below w.heap.size w wr)
    (hpe : PE w1 (sb + 1) v' l') (hgr : wr.grownBy w1 lv.ownBlock) (hb : v'.ownBlock = lv.ownBlock ∨ ∀ k, v'.ownBlock = some k → wr.heap.size ≤ k) :
    SO (w1.setCell ⟨sb, 1, none⟩ v') sb n z l' tv v' ∧ Only (SB sb lv) w (w1.setCell ⟨sb, 1, none⟩ v') ∧ Mv w lv v' := by
  have h' := h.below q
  have hmb : some sb ≠ lv.ownBlock := fun e => by have := (h'.pe.lt sb e.symm).1; omega
  have hml := lt_of_block h'.ob
  have hob : w1.heap[sb]? = some (.cells #[tv, lv] 57 (0, 0)) := (hgr.block sb hml hmb).trans h'.ob
  have hvl : ∀ k, v'.ownBlock = some k → sb + 1 ≤ k := fun k hk => (hpe.lt k hk).1
  have hMv : Mv w lv v' := fun k hk => by
    rcases hb with e | e
    · exact Or.inl (e ▸ hk)
    · exact Or.inr (Nat.le_trans q.size (e k hk))
  refine ⟨⟨heap_setCell_same w1 sb 1 _ _ v' hob, ?_, h.nz, ?_, ?_, ?_⟩, ⟨?_, ?_, ?_, ?_, ?_⟩, hMv⟩
  · refine h'.tk.keep fun k hk => (Below.heap_setCell _ _ _ _ (h'.tb k hk).1).trans (hgr.block k (h'.tb k hk).2 fun e => h'.ap k e.symm hk)
  · intro k hk
    exact ⟨(h'.tb k hk).1, by have := (h'.tb k hk).2; have := hgr.size; simp [World.setCell]; omega⟩
  · exact hpe.kept (row := some sb) ⟨rfl, rfl, rfl, by simp [World.setCell], fun k hk hne => Below.heap_setCell _ _ _ _ (fun e => hne (by rw [e]))⟩ (Or.inr fun e => by have := hvl sb e; omega)
  · intro k hk e
    rcases hb with q' | q'
    · exact h'.ap k (q'.symm.trans hk) e
    · have h1 := q' k hk
      have h2 := (h'.tb k e).2
      omega
  · exact hgr.os.trans q.os
  · exact hgr.tape.trans q.tape
  · exact hgr.output.trans q.output
  · have := q.size; have := hgr.size; simp [World.setCell]; omega
  · intro k hk hS
    have h1 : k ≠ sb := fun e => hS (Or.inl e)
    have h2 : some k ≠ lv.ownBlock := fun e => hS (Or.inr e.symm)
    exact (Below.heap_setCell _ _ _ _ h1).trans ((hgr.block k (Nat.lt_of_lt_of_le hk q.size) h2).trans (q.block k hk))
/-- a value is answered, the entries are these -/
def StQ (w : World) (sb n : Nat) (z : Nat → Nat → Int) (tv lv : Value) (r : Value) (l' : List En) (e : Ending) (w' : World) : Prop :=
  e = .returned r ∧ ∃ lv', SO w' sb n z l' tv lv' ∧ Only (SB sb lv) w w' ∧ Mv w lv lv'
theorem StQ.same {w w' : World} {sb n : Nat} {z : Nat → Nat → Int} {l : List En} {tv lv r : Value} (h : SO w sb n z l tv lv) (q : Below w.heap.size w w') : StQ w sb n z tv lv r l (.returned r) w' :=
  ⟨rfl, lv, h.below q, Only.of_below q, Mv.refl w lv⟩
set_option maxHeartbeats 4000000 in
theorem lock_any {w : World} {sb n : Nat} {z : Nat → Nat → Int} {l : List En} {tv lv : Value} (h : SO w sb n z l tv lv) (hl : l.length ≤ 900) (h4 : ∀ t, (held l t).length ≤ 4) (t r : Int) :
    Calls Try.prog 15 #[.pointer (some ⟨sb, 0, none⟩), .int .i64 t, .int .i64 r] w (StQ w sb n z tv lv (.int .i64 (lockE n (us n (lo z) r t) l t r)) (lockL n (us n (lo z) r t) l t r)) := by
  obtain ⟨ta, tcap, rfl, ht1, ht2⟩ := h.tk.slice
  obtain ⟨a, cap, rfl, hn1, hn2⟩ := h.pe.es.slice
  obtain ⟨c0, c1⟩ := h.cells
  have HP := Lib.hid h
  have HN := Lib.hid (none_any h)
  have HT := Lib.hid (task_any h t)
  obtain ⟨u, hu⟩ : ∃ u, u = us n (lo z) r t := ⟨_, rfl⟩
  have HU := Lib.hid (uses_any h.tk t r)
  rw [← hu] at HU ⊢
  clear hu
  have HL := Lib.hid hl
  have H4 := Lib.hid (h4 t)
  obtain ⟨m, hm⟩ : ∃ m, m = l.length := ⟨_, rfl⟩
  have HM := Lib.hid hm
  rw [← hm] at hl hn1 HP c1 ⊢
  clear h hm h4
  have mixed : Try.prog.follows .mixedOrders = true := by kernel_rfl
  cases h0 : (decide (0 ≤ t) && decide (t < (n : Int))) with
  | false =>
    rw [h0] at HT
    have HE : Hid (lockE n u l t r = 9 ∧ lockL n u l t r = l) := by
      have : lockE n u l t r = 9 := if_neg (by simpa using h0)
      exact ⟨this, by unfold lockL; rw [this]; rfl⟩
    clear h0
    go_enter Try.func15, Try.ntmps15
    go_wp2_with fail
    refine HN.out.mono ?_
    rintro e w1 ⟨rfl, rfl⟩
    go_wp2_with fail
    refine HT.out.mono ?_
    rintro e w1 ⟨rfl, rfl⟩
    go_wp2_with fail
    go_ret
    rw [HE.out.1, HE.out.2]
    exact StQ.same HP.out (Below.refl _ _)
  | true =>
  rw [h0] at HT
  have HLE : Hid (lockE n u l t r = if u then (if has l r then 131 else if (held l t).length = 4 then 130 else 0) else 133) := if_pos (by simpa using h0)
  clear h0
  cases u with
  | false =>
    have HE : Hid (lockE n false l t r = 133 ∧ lockL n false l t r = l) := by
      have : lockE n false l t r = 133 := by rw [HLE.out]; rfl
      exact ⟨this, by unfold lockL; rw [this]; rfl⟩
    clear HLE
    go_enter Try.func15, Try.ntmps15
    go_wp2_with fail
    refine HN.out.mono ?_
    rintro e w1 ⟨rfl, rfl⟩
    go_wp2_with fail
    refine HT.out.mono ?_
    rintro e w1 ⟨rfl, rfl⟩
    go_wp2_with fail
    refine HU.out.mono ?_
    rintro e w1 ⟨rfl, rfl⟩
    go_wp2_with fail
    go_ret
    rw [HE.out.1, HE.out.2]
    exact StQ.same HP.out (Below.refl _ _)
  | true =>
  have HS0 := Lib.hid (And.intro c1 (Below.refl w.heap.size w))
  cases hh : has l r with
  | true =>
    have HE : Hid (lockE n true l t r = 131 ∧ lockL n true l t r = l) := by
      have : lockE n true l t r = 131 := by rw [HLE.out, if_pos rfl, if_pos hh]
      exact ⟨this, by unfold lockL; rw [this]; rfl⟩
    have HH := Lib.hid hh
    clear HLE hh
    go_enter Try.func15, Try.ntmps15
    go_wp2_with fail
    refine HN.out.mono ?_
    rintro e w1 ⟨rfl, rfl⟩
    go_wp2_with fail
    refine HT.out.mono ?_
    rintro e w1 ⟨rfl, rfl⟩
    go_wp2_with fail
    refine HU.out.mono ?_
    rintro e w1 ⟨rfl, rfl⟩
    go_wp2_with fail
    clear HU HT HN
    go_region_held3 (fun w' => w'.cell? ⟨sb, 0 + 1, none⟩ = some (.slice a m cap) ∧ Below w.heap.size w w')
      (first | assumption | exact HS0.out | exact ⟨HS0.out.1, HS0.out.2.drew⟩ | go_keep)
      (first | (go_at_call 37; refine (isof_any _ r).mono ?_; rintro e w2 ⟨B, rfl, hcb, hb2⟩; have HCB := Lib.hid hcb; have HB2 := Lib.hid (show Below w.heap.size w w2 from chn (Below.drew (Below.refl _ _)) hb2); have hS2 : w2.cell? ⟨sb, 0 + 1, none⟩ = some (.slice a m cap) ∧ Below w.heap.size w w2 := ⟨(HB2.out.cell (lt_of_cell c1)).trans c1, HB2.out⟩)
             | (go_at_call 36; refine (contains_any (HP.out.below HB2.out).pe.es HCB.out (by rw [← HM.out]; omega)).mono ?_; rw [HH.out]; rintro e w3 ⟨rfl, hb3⟩; have HB3 := Lib.hid (chn HB2.out hb3); have hS3 : w3.cell? ⟨sb, 0 + 1, none⟩ = some (.slice a m cap) ∧ Below w.heap.size w w3 := ⟨(HB3.out.cell (lt_of_cell c1)).trans c1, HB3.out⟩))
    all_goals
      go_wp2_with fail
      go_ret
      rw [HE.out.1, HE.out.2]
      exact StQ.same HP.out HB3.out
  | false =>
    have HLE2 : Hid (lockE n true l t r = if (held l t).length = 4 then 130 else 0) := by unfold Hid; rw [HLE.out, if_pos rfl, hh]; rfl
    have HH := Lib.hid hh
    clear HLE hh
    go_enter Try.func15, Try.ntmps15
    go_wp2_with fail
    refine HN.out.mono ?_
    rintro e w1 ⟨rfl, rfl⟩
    go_wp2_with fail
    refine HT.out.mono ?_
    rintro e w1 ⟨rfl, rfl⟩
    go_wp2_with fail
    refine HU.out.mono ?_
    rintro e w1 ⟨rfl, rfl⟩
    go_wp2_with fail
    clear HU HT HN
    go_region_held3 (fun w' => w'.cell? ⟨sb, 0 + 1, none⟩ = some (.slice a m cap) ∧ Below w.heap.size w w')
      (first | assumption | exact HS0.out | exact ⟨HS0.out.1, HS0.out.2.drew⟩ | go_keep)
      (first | (go_at_call 37; refine (isof_any _ r).mono ?_; rintro e w2 ⟨B, rfl, hcb, hb2⟩; have HCB := Lib.hid hcb; have HB2 := Lib.hid (show Below w.heap.size w w2 from chn (Below.drew (Below.refl _ _)) hb2); have hS2 : w2.cell? ⟨sb, 0 + 1, none⟩ = some (.slice a m cap) ∧ Below w.heap.size w w2 := ⟨(HB2.out.cell (lt_of_cell c1)).trans c1, HB2.out⟩)
             | (go_at_call 36; refine (contains_any (HP.out.below HB2.out).pe.es HCB.out (by rw [← HM.out]; omega)).mono ?_; rw [HH.out]; rintro e w3 ⟨rfl, hb3⟩; have HB3 := Lib.hid (chn HB2.out hb3); have hS3 : w3.cell? ⟨sb, 0 + 1, none⟩ = some (.slice a m cap) ∧ Below w.heap.size w w3 := ⟨(HB3.out.cell (lt_of_cell c1)).trans c1, HB3.out⟩))
    all_goals
      rename_i hHeld
      have HG := Lib.hid (held_any (HP.out.below HB3.out) (by rw [← HM.out]; omega) t)
      clear HS0 HCB hcb hb2 hS2 hb3 hS3 hHeld
      go_wp2_with fail
      refine HG.out.mono ?_
      rintro e w4 ⟨rv, rfl, hnr, hb4⟩
      obtain ⟨ra, rcap, rfl⟩ := hnr.is_form
      have HB4 := Lib.hid (chn HB3.out hb4)
      obtain ⟨q, hq⟩ : ∃ q, q = (held l t).length := ⟨_, rfl⟩
      have hq4 : q ≤ 4 := by rw [hq]; exact H4.out
      rw [← hq] at HLE2 ⊢
      have HP4 := Lib.hid (HP.out.below HB4.out)
      obtain ⟨c0, c1⟩ := HP4.out.cells
      clear hnr hb4 HG hq
      by_cases h4 : q = 4
      · subst h4
        have HE : Hid (lockE n true l t r = 130 ∧ lockL n true l t r = l) := by
          have : lockE n true l t r = 130 := by rw [HLE2.out]; rfl
          exact ⟨this, by unfold lockL; rw [this]; rfl⟩
        go_wp2_with fail
        go_ret
        rw [HE.out.1, HE.out.2]
        exact StQ.same HP.out HB4.out
      · have HE : Hid (lockE n true l t r = 0 ∧ lockL n true l t r = l ++ [(t, r)]) := by
          have : lockE n true l t r = 0 := by rw [HLE2.out, if_neg h4]
          exact ⟨this, by unfold lockL; rw [this]; rfl⟩
        have h5 : decide ((4 : Int) ≤ (q : Int)) = false := by simp; omega
        obtain ⟨v', w5, hrun, hpe, ⟨va, vcap, hvs⟩, hgr, hbk⟩ := app_pent (w := w4.alloc (.cells #[.int .i64 t, .int .i64 r] 66)) 55 t r (HP4.out.pe.kept (World.grownBy_alloc w4 _ none) (by cases Value.ownBlock _ <;> simp)) (g := w4.heap.size) (heap_alloc_new w4 _) (by have := lt_of_block HP4.out.ob; simp; omega) (by rw [← HM.out]; omega)
        subst hvs
        have hob3 : w5.heap[sb]? = some (.cells #[.slice ta n tcap, .slice a m cap] 57 (0, 0)) := (hgr.block sb (by have := lt_of_block HP4.out.ob; simp; omega) (fun e => by have := (HP4.out.pe.lt sb e.symm).1; omega)).trans ((Below.heap_alloc _ _ _ (lt_of_block HP4.out.ob)).trans HP4.out.ob)
        have s1 : w5.cell? ⟨sb, 0 + 1, none⟩ = some (.slice a m cap) := cell_of_row _ _ 1 _ _ _ hob3
        have s2 : w5.frozen? ⟨sb, 0 + 1, none⟩ = false := frozen_of_row _ _ _ _ _ hob3
        clear hob3
        have HRUN := Lib.hid hrun
        have HPUT := Lib.hid (SO.put HP.out (HB4.out.alloc HB4.out.size _) hpe hgr hbk)
        clear hrun hpe hgr hbk h4 HLE2
        go_wp2_with (at_builtin; refine wpList_append_eq rfl _ _ 55 55 rfl _ _ _ _ rfl rfl HRUN.out ?_)
        go_ret
        rw [HE.out.1, HE.out.2]
        exact ⟨rfl, _, HPUT.out⟩
end Go.Proofs.Ytmheggedlepdlaa
