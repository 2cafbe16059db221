/- Drop, the program's and the document's. -/
import Derived.Test.YtmheggedlepdlaaStaK
namespace Go.Proofs.Ytmheggedlepdlaa
open Go.RowKit Lv Sk Go.Sort
set_option linter.unusedVariables false

/-- a number more: where it was, if there is room, or anew -/
theorem app_num2 {w : World} {B : Nat} {v : Value} {xs : List Int} (ty : TypeId) (x : Int) {g : Nat} (hown : NR w B v xs) (hg : w.heap[g]? = some (.cells #[.int .i64 x] 3 (0, 0))) (hB : B ≤ w.heap.size) (hn : xs.length ≤ 1000) :
    ∃ v' w', (Builtin.append_ #[40, 40] ty #[v, .slice (some ⟨g, 0, none⟩) 1 1]).run Try.prog w = .ok v' w' ∧ NR w' B v' (xs ++ [x]) ∧ w.grownBy w' v.ownBlock ∧ (v'.ownBlock = v.ownBlock ∨ ∀ k, v'.ownBlock = some k → w.heap.size ≤ k) := by
  obtain ⟨i0, hi, hz0, hz1, hz2⟩ := info_parts infoI13
  have hnews : ∀ (j : Nat) (u : Value), ([Value.int .i64 x] : List Value)[j]? = some u → w.cell? ((⟨g, 0, none⟩ : Addr).add j) = some u := by
    intro j u hj
    rw [Addr.add_lit, Nat.zero_add, cell_of_row _ _ j _ _ _ hg, List.getElem?_toArray]
    exact hj
  have hone : ∀ u ∈ ([Value.int .i64 x] : List Value), u.oneCell' = true := by
    intro u hu
    simp at hu
    subst hu
    rfl
  have hm1 : xs.length + 1 ≤ maxLen := by unfold maxLen; omega
  have e1 : (xs ++ [x]).length = xs.length + 1 := by simp
  have e2 : nums (xs ++ [x]) = nums xs ++ [.int .i64 x] := by unfold nums; rw [List.map_append]; rfl
  have fin : ∀ {w' : World} {v' : Value} {C : Nat}, B ≤ C → w'.ownsRow C 3 1 v' (xs.length + 1) (nums xs ++ [.int .i64 x]) → NR w' B v' (xs ++ [x]) := fun hC hown => by
    unfold NR; rw [e1, e2]; exact own_base hown hC
  have hlen : (nums xs).length = xs.length * 1 := by unfold nums; simp
  rcases hown.2 with ⟨rfl, h0⟩ | ⟨g0, cap, cur, rfl, hg0, hh, hnc, hcm, hcs, htk⟩
  · have hx0 : xs = [] := List.eq_nil_of_length_eq_zero h0
    subst hx0
    obtain ⟨v', w', hrun, hown', hgr, _⟩ := run_append_own (P := Try.prog) w w.heap.size 40 ty 3 i0 _ 1 8 Try.underlying40 hi hz0 hz1 hz2 rfl (by decide) (.slice none 0 0) 0 [] (World.ownsRow_nil w w.heap.size 3 1) ⟨g, 0, none⟩ 1 1 _ rfl hnews hone hm1 (by simp) (Nat.le_refl _)
    exact ⟨v', w', hrun, fin hB hown', hgr, Or.inr fun k hk => (hown'.lt k hk).1⟩
  · by_cases hroom : xs.length + 1 ≤ cap
    · obtain ⟨w', hrun, hown', hgr⟩ := run_append_fits (P := Try.prog) w B 40 ty 3 i0 1 Try.underlying40 hi hz1 g0 xs.length cap _ hown ⟨g, 0, none⟩ 1 1 _ rfl hnews hone hroom
      exact ⟨_, w', hrun, fin (Nat.le_refl _) hown', hgr, Or.inl rfl⟩
    · obtain ⟨v', w', hrun, hown', hgr⟩ := run_append_arg_grows (P := Try.prog) w 40 ty 3 i0 _ 1 8 Try.underlying40 hi hz0 hz1 hz2 rfl (by decide) ⟨g0, 0, none⟩ xs.length cap _ hlen (fun j u hj => World.ownsRow.cells hown (g := g0) rfl j u hj) ⟨g, 0, none⟩ 1 1 _ rfl hnews (by omega) hm1 (by omega)
      exact ⟨v', w', hrun, fin hB hown', ⟨hgr.os, hgr.tape, hgr.output, hgr.size, fun k hk _ => hgr.block k hk (by simp)⟩, Or.inr fun k hk => (hown'.lt k hk).1⟩
theorem Only.cl {S : Nat → Prop} {w w1 w2 : World} {row : Option Nat} (h : Only S w w1) (g : w1.grownBy w2 row) (hr : ∀ k, row = some k → w.heap.size ≤ k) : Only S w w2 :=
  ⟨g.os.trans h.os, g.tape.trans h.tape, g.output.trans h.output, Nat.le_trans h.size g.size, fun k hk hS => (g.block k (Nat.lt_of_lt_of_le hk h.size) (fun e => by have := hr k e.symm; omega)).trans (h.block k hk hS)⟩
theorem Only.step {w w1 w2 : World} {sb : Nat} {lv lv1 : Value} (h : Only (SB sb lv) w w1) (m : Mv w lv lv1) (k : Only (SB sb lv1) w1 w2) : Only (SB sb lv) w w2 :=
  h.trans' k fun j hj hS => by
    rcases hS with e | e
    · exact Or.inl e
    · rcases m j e with q | q
      · exact Or.inr q
      · omega
theorem Mv.step {w w1 : World} {lv lv1 lv2 : Value} (hs : w.heap.size ≤ w1.heap.size) (m : Mv w lv lv1) (k : Mv w1 lv1 lv2) : Mv w lv lv2 := fun j hj => by
  rcases k j hj with q | q
  · exact m j q
  · exact Or.inr (by omega)
theorem held_out {n : Nat} {l : List En} {t : Int} (h : Ok n l) (ht : ¬ (0 ≤ t ∧ t < n)) : held l t = [] := by
  apply held_no
  intro j hj e
  have hm : l.getD j e0 ∈ l := by
    rw [List.getD_eq_getElem?_getD, List.getElem?_eq_getElem hj]
    exact List.getElem_mem hj
  have := h.ts _ hm
  rw [e] at this
  exact ht this
theorem unl_of_held {l : List En} {t x : Int} {xs : List Int} (h : (held l t).reverse = x :: xs) : ∃ i, unl l t l.length = some i ∧ i < l.length ∧ (l.getD i e0).2 = x ∧ (held (cut l i) t).reverse = xs ∧ drp (cut l i) t = drp l t := by
  obtain ⟨i, hi⟩ := unl_held (l := l) (t := t) (fun e => by rw [e] at h; cases h)
  obtain ⟨h1, h2, _⟩ := unl_some hi
  have h3 := held_cut hi
  rw [h3, List.reverse_append] at h
  simp at h
  exact ⟨i, hi, h1, h.1, by rw [← h.2], drp_cut h1 h2⟩
theorem NR.apart {w w' : World} {C sb : Nat} {v lv : Value} {xs : List Int} (h : NR w C v xs) (q : Only (SB sb lv) w w') (ha : ∀ j, v.ownBlock = some j → j ≠ sb ∧ lv.ownBlock ≠ some j) : NR w' C v xs := by
  refine ⟨h.1, ?_⟩
  rcases h.2 with hn | ⟨g, cap, cur, rfl, hb, hgg, rest⟩
  · exact Or.inl hn
  · refine Or.inr ⟨g, cap, cur, rfl, hb, ?_, rest⟩
    rw [q.block g (lt_of_block hgg) (fun e => by
      rcases e with e | e
      · exact (ha g rfl).1 e
      · exact (ha g rfl).2 e)]
    exact hgg
/-- the stack is kept where other blocks are written -/
theorem SO.grown {w w' : World} {sb n : Nat} {z : Nat → Nat → Int} {l : List En} {tv lv : Value} {row : Option Nat} (h : SO w sb n z l tv lv) (hg : w.grownBy w' row) (h1 : row ≠ some sb) (h2 : ∀ j, row = some j → lv.ownBlock ≠ some j) (h3 : ∀ j, row = some j → tv.ownBlock ≠ some j) : SO w' sb n z l tv lv :=
  ⟨(hg.block sb (lt_of_block h.ob) (fun e => h1 e.symm)).trans h.ob, h.tk.keep fun k hk => hg.block k (h.tb k hk).2 (fun e => h3 k e.symm hk), h.nz, fun k hk => ⟨(h.tb k hk).1, Nat.lt_of_lt_of_le (h.tb k hk).2 hg.size⟩,
    h.pe.kept hg (by
      cases e : lv.ownBlock with
      | none => exact Or.inl rfl
      | some k => exact Or.inr fun q => h2 k q.symm e), h.ap⟩
/-- numbers are answered; the entries are these -/
def DrpP (w : World) (sb n : Nat) (z : Nat → Nat → Int) (tv lv : Value) (xs : List Int) (l' : List En) (e : Ending) (w' : World) : Prop :=
  ∃ r, e = .returned r ∧ NR w' w.heap.size r xs ∧ ∃ lv', SO w' sb n z l' tv lv' ∧ Only (SB sb lv) w w' ∧ Mv w lv lv'
/-- between two rounds: k entries of the task are left -/
structure DrpB (w : World) (sb n : Nat) (z : Nat → Nat → Int) (l : List En) (tv lv : Value) (t : Int) (o : Value) (k : Nat) (wr : World) (lc : List En) (lv1 : Value) (xs : List Int) : Prop where
  so : SO wr sb n z lc tv lv1
  on : Only (SB sb lv) w wr
  mv : Mv w lv lv1
  nr : NR wr w.heap.size o xs
  ap : ∀ j, o.ownBlock = some j → lv1.ownBlock ≠ some j
  tn : ∀ j, tv.ownBlock = some j → j < w.heap.size
  ok : Ok n lc
  dr : drp lc t = drp l t
  hs : xs ++ (held lc t).reverse = (held l t).reverse
  kk : (held lc t).length = k
  xl : xs.length + k ≤ 900
theorem DrpB.start {w : World} {sb n : Nat} {z : Nat → Nat → Int} {l : List En} {tv lv : Value} (h : SO w sb n z l tv lv) (ok : Ok n l) (t : Int) : DrpB w sb n z l tv lv t (.slice none 0 0) (held l t).length w l lv [] :=
  ⟨h, Only.of_below (Below.refl _ _), Mv.refl w lv, NR.nil w _, (fun j hj => by simp [Value.ownBlock] at hj), (fun j hj => (h.tb j hj).2), ok, rfl, rfl, rfl, by have := ok.len; have := held_len l t; simp only [List.length_nil]; omega⟩
theorem DrpB.put {w wr w2 w3 : World} {sb n k : Nat} {z : Nat → Nat → Int} {l lc lc2 : List En} {tv lv lv1 lv2 o o' : Value} {t x : Int} {xs : List Int} (h : DrpB w sb n z l tv lv t o (k + 1) wr lc lv1 xs)
    (hsb : sb < w.heap.size) (so : SO w2 sb n z lc2 tv lv2) (on : Only (SB sb lv1) wr w2) (mv : Mv wr lv1 lv2) (hne : lc2.Sublist lc) (hd : drp lc2 t = drp lc t) (hh : (held lc t).reverse = x :: (held lc2 t).reverse)
    {w2a : World} (ha : Below w2.heap.size w2 w2a) (hn : NR w3 w.heap.size o' (xs ++ [x])) (hg : w2a.grownBy w3 o.ownBlock) (hb : o'.ownBlock = o.ownBlock ∨ ∀ j, o'.ownBlock = some j → w2a.heap.size ≤ j) : DrpB w sb n z l tv lv t o' k w3 lc2 lv2 (xs ++ [x]) := by
  have hlt : ∀ j, o.ownBlock = some j → w.heap.size ≤ j ∧ j < wr.heap.size := fun j hj => World.ownsRow.lt h.nr j hj
  have hap : ∀ j, o.ownBlock = some j → lv2.ownBlock ≠ some j := fun j hj e => by
    rcases mv j e with q | q
    · exact h.ap j hj q
    · have := (hlt j hj).2; omega
  refine ⟨(so.below ha).grown hg (fun e => ?_) hap (fun j hj e => ?_), (h.on.step h.mv on).cl (w1 := w2) (row := o.ownBlock) ⟨hg.os.trans ha.os, hg.tape.trans ha.tape, hg.output.trans ha.output, Nat.le_trans ha.size hg.size, fun j hj hne => (hg.block j (Nat.lt_of_lt_of_le hj ha.size) hne).trans (ha.block j hj)⟩ (fun j hj => (hlt j hj).1), h.mv.step h.on.size mv, hn, fun j hj e => ?_, h.tn, h.ok.sub hne, hd.trans h.dr, ?_, ?_, ?_⟩
  · have := (hlt sb e).1; omega
  · have := (hlt j hj).1; have := h.tn j e; omega
  · rcases hb with q | q
    · exact hap j (q ▸ hj) e
    · have h1 := q j hj
      have h2 := (so.pe.lt j e).2
      have h3 := ha.size
      omega
  · rw [← h.hs, hh, List.append_assoc]; rfl
  · have h1 := h.kk
    have h2 := congrArg List.length hh
    simp at h2
    omega
  · have := h.xl
    rw [List.length_append, List.length_singleton]
    omega
/-- the stack is kept where other blocks are written -/
theorem RO.grown {w w' : World} {sb n : Nat} {z : Nat → Nat → Int} {l : List En} {tv lv : Value} {row : Option Nat} (h : RO w sb n z l tv lv) (hg : w.grownBy w' row) (h1 : row ≠ some sb) (h2 : ∀ j, row = some j → lv.ownBlock ≠ some j) (h3 : ∀ j, row = some j → tv.ownBlock ≠ some j) : RO w' sb n z l tv lv :=
  ⟨(hg.block sb (lt_of_block h.ob) (fun e => h1 e.symm)).trans h.ob, h.tk.keep fun k hk => hg.block k (h.tb k hk).2 (fun e => h3 k e.symm hk), fun k hk => ⟨(h.tb k hk).1, Nat.lt_of_lt_of_le (h.tb k hk).2 hg.size⟩,
    h.ow.kept hg (by
      cases e : lv.ownBlock with
      | none => exact Or.inl rfl
      | some k => exact Or.inr fun q => h2 k q.symm e), h.ap⟩
/-- numbers are answered; the entries are these -/
def RrpP (w : World) (sb n : Nat) (z : Nat → Nat → Int) (tv lv : Value) (xs : List Int) (l' : List En) (e : Ending) (w' : World) : Prop :=
  ∃ r, e = .returned r ∧ NR w' w.heap.size r xs ∧ ∃ lv', RO w' sb n z l' tv lv' ∧ Only (SB sb lv) w w' ∧ Mv w lv lv'
/-- between two rounds: k entries of the task are left -/
structure RrpB (w : World) (sb n : Nat) (z : Nat → Nat → Int) (l : List En) (tv lv : Value) (t : Int) (o : Value) (k : Nat) (wr : World) (lc : List En) (lv1 : Value) (xs : List Int) : Prop where
  so : RO wr sb n z lc tv lv1
  on : Only (SB sb lv) w wr
  mv : Mv w lv lv1
  nr : NR wr w.heap.size o xs
  ap : ∀ j, o.ownBlock = some j → lv1.ownBlock ≠ some j
  tn : ∀ j, tv.ownBlock = some j → j < w.heap.size
  ok : Ok n lc
  dr : drp lc t = drp l t
  hs : xs ++ (held lc t).reverse = (held l t).reverse
  kk : (held lc t).length = k
  xl : xs.length + k ≤ 900
theorem RrpB.start {w : World} {sb n : Nat} {z : Nat → Nat → Int} {l : List En} {tv lv : Value} (h : RO w sb n z l tv lv) (ok : Ok n l) (t : Int) : RrpB w sb n z l tv lv t (.slice none 0 0) (held l t).length w l lv [] :=
  ⟨h, Only.of_below (Below.refl _ _), Mv.refl w lv, NR.nil w _, (fun j hj => by simp [Value.ownBlock] at hj), (fun j hj => (h.tb j hj).2), ok, rfl, rfl, rfl, by have := ok.len; have := held_len l t; simp only [List.length_nil]; omega⟩
theorem RrpB.put {w wr w2 w3 : World} {sb n k : Nat} {z : Nat → Nat → Int} {l lc lc2 : List En} {tv lv lv1 lv2 o o' : Value} {t x : Int} {xs : List Int} (h : RrpB w sb n z l tv lv t o (k + 1) wr lc lv1 xs)
    (hsb : sb < w.heap.size) (so : RO w2 sb n z lc2 tv lv2) (on : Only (SB sb lv1) wr w2) (mv : Mv wr lv1 lv2) (hne : lc2.Sublist lc) (hd : drp lc2 t = drp lc t) (hh : (held lc t).reverse = x :: (held lc2 t).reverse)
    {w2a : World} (ha : Below w2.heap.size w2 w2a) (hn : NR w3 w.heap.size o' (xs ++ [x])) (hg : w2a.grownBy w3 o.ownBlock) (hb : o'.ownBlock = o.ownBlock ∨ ∀ j, o'.ownBlock = some j → w2a.heap.size ≤ j) : RrpB w sb n z l tv lv t o' k w3 lc2 lv2 (xs ++ [x]) := by
  have hlt : ∀ j, o.ownBlock = some j → w.heap.size ≤ j ∧ j < wr.heap.size := fun j hj => World.ownsRow.lt h.nr j hj
  have hap : ∀ j, o.ownBlock = some j → lv2.ownBlock ≠ some j := fun j hj e => by
    rcases mv j e with q | q
    · exact h.ap j hj q
    · have := (hlt j hj).2; omega
  refine ⟨(so.below ha).grown hg (fun e => ?_) hap (fun j hj e => ?_), (h.on.step h.mv on).cl (w1 := w2) (row := o.ownBlock) ⟨hg.os.trans ha.os, hg.tape.trans ha.tape, hg.output.trans ha.output, Nat.le_trans ha.size hg.size, fun j hj hne => (hg.block j (Nat.lt_of_lt_of_le hj ha.size) hne).trans (ha.block j hj)⟩ (fun j hj => (hlt j hj).1), h.mv.step h.on.size mv, hn, fun j hj e => ?_, h.tn, h.ok.sub hne, hd.trans h.dr, ?_, ?_, ?_⟩
  · have := (hlt sb e).1; omega
  · have := (hlt j hj).1; have := h.tn j e; omega
  · rcases hb with q | q
    · exact hap j (q ▸ hj) e
    · have h1 := q j hj
      have h2 := (so.ow.lt j e).2
      have h3 := ha.size
      omega
  · rw [← h.hs, hh, List.append_assoc]; rfl
  · have h1 := h.kk
    have h2 := congrArg List.length hh
    simp at h2
    omega
  · have := h.xl
    rw [List.length_append, List.length_singleton]
    omega
set_option maxHeartbeats 4000000 in
theorem drop_any {w : World} {sb n : Nat} {z : Nat → Nat → Int} {l : List En} {tv lv : Value} (h : SO w sb n z l tv lv) (ok : Ok n l) (t : Int) :
    Calls Try.prog 17 #[.pointer (some ⟨sb, 0, none⟩), .int .i64 t] w (DrpP w sb n z tv lv (held l t).reverse (drp l t)) := by
  have HD := Lib.hid (DrpB.start h ok t)
  have HSB := Lib.hid (lt_of_block h.ob)
  have hk8 : (held l t).length ≤ 8 := by have := ok.len; have := held_len l t; omega
  obtain ⟨q, hq⟩ : ∃ q, q = (held l t).length := ⟨_, rfl⟩
  rw [← hq] at HD hk8
  clear h ok hq
  go_enter Try.func17, Try.ntmps17
  go_wp2_with fail
  obtain ⟨D, hD⟩ : ∃ D : Value → Nat, ∀ a m c, D (.slice a m c) = 20 - m := ⟨fun v => match v with | .slice _ m _ => 20 - m | _ => 0, fun _ _ _ => rfl⟩
  go_loopw [5] (fun o wr => ∃ (k : Nat) (lc : List En) (lv1 : Value) (xs : List Int), k + xs.length = q ∧ Hid (DrpB w sb n z l tv lv t o k wr lc lv1 xs)) (fun o _ => D o)
  case atStart => exact ⟨q, l, lv, [], rfl, HD.out⟩
  case round =>
    clear HD
    obtain ⟨k, lc, lv1, xs, hk, HB⟩ := hrel
    obtain ⟨oa, oc, rfl⟩ := HB.out.nr.is_form
    have HC := Lib.hid (unl_any HB.out.so (by have := HB.out.ok.len; omega) t)
    cases k with
    | zero =>
      have h0 : held lc t = [] := List.eq_nil_of_length_eq_zero HB.out.kk
      have HE : Hid (∃ e, unlV n lc t = .tuple #[.int .i64 0, .int .i64 e] ∧ (e == 0) = false ∧ decide (e = 0) = false ∧ unlN n lc t = lc) := by
        have hu : unl lc t lc.length = none := by
          cases hu : unl lc t lc.length with
          | none => rfl
          | some i => have := held_cut hu; rw [h0] at this; simp at this
        by_cases ht : 0 ≤ t ∧ t < (n : Int)
        · refine ⟨132, ?_, rfl, rfl, ?_⟩
          · unfold unlV unlR unlE; rw [if_pos ht, if_pos ht, hu]
          · unfold unlN unlL; rw [if_pos ht, hu]
        · refine ⟨9, ?_, rfl, rfl, ?_⟩
          · unfold unlV unlE; rw [if_neg ht, if_neg ht]
          · unfold unlN; rw [if_neg ht]
      obtain ⟨ee, h1, h2, h3, h4⟩ := HE.out
      rw [h1, h4] at HC
      have HF : Hid (xs = (held l t).reverse ∧ lc = drp l t) := by
        have h5 := HB.out.hs
        rw [h0] at h5
        exact ⟨by simpa using h5, by rw [← HB.out.dr, drp_no h0]⟩
      clear HE h1 h4 h0
      go_wp2_with fail
      refine HC.out.mono ?_
      rintro e w2 ⟨rfl, lv2, so, on, mv⟩
      have HFin : Hid (DrpP w sb n z tv lv (held l t).reverse (drp l t) (.returned (.slice oa xs.length oc)) w2) := by
        have hlt : ∀ j, (Value.slice oa xs.length oc).ownBlock = some j → w.heap.size ≤ j ∧ j < wr.heap.size := fun j hj => World.ownsRow.lt HB.out.nr j hj
        refine ⟨_, rfl, ?_, lv2, by rw [← HF.out.2]; exact so, HB.out.on.step HB.out.mv on, HB.out.mv.step HB.out.on.size mv⟩
        rw [← HF.out.1]
        exact NR.apart HB.out.nr on fun j hj => ⟨by have := (hlt j hj).1; have := HSB.out; omega, HB.out.ap j hj⟩
      clear so on mv HC HF
      go_wp2_with fail
      go_ret
      exact HFin.out
    | succ k =>
      have HE : Hid (∃ i, unl lc t lc.length = some i ∧ i < lc.length ∧ ∃ x ys, (held lc t).reverse = x :: ys ∧ (lc.getD i e0).2 = x ∧ (held (cut lc i) t).reverse = ys ∧ drp (cut lc i) t = drp lc t) := by
        have h1 : (held lc t).reverse.length = k + 1 := by rw [List.length_reverse]; exact HB.out.kk
        cases hr : (held lc t).reverse with
        | nil => rw [hr] at h1; cases h1
        | cons x ys => obtain ⟨i, a1, a2, a3, a4, a5⟩ := unl_of_held hr; exact ⟨i, a1, a2, x, ys, rfl, a3, a4, a5⟩
      obtain ⟨i, a1, a2, x, ys, a3, a4, a5, a6⟩ := HE.out
      have ht : 0 ≤ t ∧ t < (n : Int) := by
        by_cases ht : 0 ≤ t ∧ t < (n : Int)
        · exact ht
        · rw [held_out HB.out.ok ht] at a3; cases a3
      have e1 : unlV n lc t = .tuple #[.int .i64 x, .int .i64 0] := by unfold unlV unlR unlE; rw [if_pos ht, if_pos ht, a1, ← a4]
      have e2 : unlN n lc t = cut lc i := by unfold unlN unlL; rw [if_pos ht, a1]
      rw [e1, e2] at HC
      have A3 : Hid ((held lc t).reverse = x :: (held (cut lc i) t).reverse) := by rw [a5]; exact a3
      have A6 := Lib.hid a6
      have hxl : xs.length ≤ 900 := by have := HB.out.xl; omega
      clear HE a1 a2 a3 a4 a5 a6 e1 e2 ht
      go_wp2_with fail
      refine HC.out.mono ?_
      rintro e w2 ⟨rfl, lv2, so, on, mv⟩
      have hlt : ∀ j, (Value.slice oa xs.length oc).ownBlock = some j → w.heap.size ≤ j ∧ j < wr.heap.size := fun j hj => World.ownsRow.lt HB.out.nr j hj
      have hnr2 := NR.apart HB.out.nr on fun j hj => ⟨by have := (hlt j hj).1; have := HSB.out; omega, HB.out.ap j hj⟩
      have ha : Below w2.heap.size w2 (w2.alloc (.cells #[.int .i64 x] 3)) := (Below.refl _ _).alloc (Nat.le_refl _) _
      obtain ⟨v', w3, hrun, hn3, hg3, hb3⟩ := app_num2 (w := w2.alloc (.cells #[.int .i64 x] 3)) 40 x (World.ownsRow.alloc hnr2 _) (g := w2.heap.size) (heap_alloc_new w2 _) (by have := on.size; have := HB.out.on.size; simp; omega) (by omega)
      have HRUN := Lib.hid hrun
      have HB2 := Lib.hid (HB.out.put HSB.out so on mv (cut_sub lc i) A6.out A3.out ha hn3 hg3 hb3)
      obtain ⟨ob, oc2, hov⟩ := hn3.is_form
      rw [show (xs ++ [x]).length = xs.length + 1 by simp] at hov
      subst hov
      clear hrun hn3 hg3 hb3 so on mv hlt hnr2 ha HB HC A3 A6
      go_wp2_with (at_builtin; refine wpList_append_eq rfl _ _ 40 40 rfl _ _ _ _ rfl rfl HRUN.out ?_)
      go_roundw
      case rel => exact ⟨k, cut lc i, lv2, xs ++ [x], by simp; omega, HB2.out⟩
      case measure => rw [hD, hD]; omega
end Go.Proofs.Ytmheggedlepdlaa
