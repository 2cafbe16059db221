/- The gate's Change. -/
import Derived.Test.YtbdiekolkniajaaGatK
import Derived.Handy
import Derived.Deep.CutRange
namespace Go.Proofs.Ytbdiekolkniajaa
open Go.RowKit Tk De Dl Lo Gt
set_option linter.unusedVariables false

theorem pcells_set01 : ∀ {l : List (Pn × Value)} {k : Nat} (per bud : Int), ((pcells l).set (k * 3) (.int .i64 per)).set (k * 3 + 1) (.int .i64 bud) = pcells (l.set k (⟨per, bud, (l.getD k pr0).1.n, (l.getD k pr0).1.z⟩, (l.getD k pr0).2))
  | [], _, _, _ => by simp [pcells]
  | (p, u) :: r, 0, _, _ => by simp [pcells]
  | (p, u) :: r, k + 1, per, bud => by
    have ih := pcells_set01 (l := r) (k := k) per bud
    rw [show (k + 1) * 3 = (k * 3) + 1 + 1 + 1 by omega, show k * 3 + 1 + 1 + 1 + 1 = (k * 3 + 1) + 1 + 1 + 1 by omega]
    simp only [pcells, List.set_cons_succ, List.getD_cons_succ, ih]
theorem PB_.set01 {W : World} {g : Nat} {l : List (Pn × Value)} (h : PB_ W g l) (k : Nat) (per bud : Int) : PB_ ((W.setCell ⟨g, k * 3, none⟩ (.int .i64 per)).setCell ⟨g, k * 3 + 1, none⟩ (.int .i64 bud)) g (l.set k (⟨per, bud, (l.getD k pr0).1.n, (l.getD k pr0).1.z⟩, (l.getD k pr0).2)) := by
  have h2 := heap_setCell_same _ g (k * 3 + 1) _ _ (.int .i64 bud) (heap_setCell_same W g (k * 3) _ _ (.int .i64 per) h)
  unfold PB_
  rw [← pcells_set01]
  simpa using h2
theorem PB_.ps {W : World} {g : Nat} {l : List (Pn × Value)} (h : PB_ W g l) (hl : l.length ≤ 4) (ht : ∀ q ∈ l, TK W q.2 q.1.n q.1.z ∧ q.1.n ≤ 4) : PS W (.slice (some ⟨g, 0, none⟩) l.length l.length) (l.map (·.1)) := by
  refine ps_of (fun j u hj => ?_) (fun i hi => ?_) (Nat.le_refl _) (by unfold maxLen; omega)
  · rw [cell_of_row _ _ _ _ _ _ h, List.getElem?_toArray]; exact hj
  · have hm : l.getD i pr0 ∈ l := by
      have : l.getD i pr0 = l[i] := by simp [List.getD, List.getElem?_eq_getElem hi]
      rw [this]; exact List.getElem_mem hi
    have := ht _ hm
    exact ⟨this.1, by omega⟩
theorem gc_or (ps : List Pn) (ins : List Bool) (part per bud : Int) : (kpE ps ins part ≠ 0 ∧ gcE ps ins part per bud = kpE ps ins part) ∨ (kpE ps ins part = 0 ∧ ∃ k : Nat, part = k ∧ k < ps.length ∧ cMay ps = true ∧ ins.length = ps.length ∧
    gcE ps ins part per bud = if cMay (chg ps k per bud) then (if ins.getD k false then (gtIn (subL (chg ps k per bud) ins) (idxL 0 ins)).2.2 else 0) else 50) := by
  unfold kpE gcE
  by_cases h : cMay ps = true
  · by_cases h2 : ins.length = ps.length
    · rw [if_pos h, if_pos h2, if_pos h, if_pos h2]
      by_cases h3 : 0 ≤ part ∧ part < ins.length
      · right
        rw [if_pos h3, if_pos h3]
        obtain ⟨k, rfl⟩ := Int.eq_ofNat_of_zero_le h3.1
        refine ⟨rfl, k, rfl, by omega, h, h2, ?_⟩
        rw [Int.toNat_natCast]
        unfold gtR
        have hlen : ins.length = (chg ps k per bud).length := by unfold chg; rw [List.length_set]; exact h2
        by_cases h4 : cMay (chg ps k per bud) = true
        · simp only [if_pos h4, if_pos hlen]
        · rw [if_neg h4, if_neg h4]
      · left; rw [if_neg h3, if_neg h3]; exact ⟨by decide, rfl⟩
    · left; rw [if_pos h, if_neg h2, if_pos h, if_neg h2]; exact ⟨by decide, rfl⟩
  · left; rw [if_neg h, if_neg h]; exact ⟨by decide, rfl⟩
def ChgP (ps : List Pn) (ins : List Bool) (part per bud : Int) (w : World) (e : Ending) (w' : World) : Prop :=
  ∃ pa pn pc oa on_ oc, e = .returned (.tuple #[.agg #[.slice pa pn pc, .slice oa on_ oc], .int .i64 (gcE ps ins part per bud)]) ∧ (gcE ps ins part per bud = 0 → PS w' (.slice pa pn pc) (chg ps part.toNat per bud)) ∧ Below w.heap.size w w'
/-- the changed copy, in memory -/
structure CG (w W : World) (b13 b10 g g2 n : Nat) (qs : List Pn) : Prop where
  bx : CBo W b13 (.slice (some ⟨g, 0, none⟩) n n) (.slice (some ⟨g2, 0, none⟩) 0 0)
  rx : CBo W b10 (.slice none 0 0) (.slice none 0 0)
  bel : Below w.heap.size w W
  ps : PS W (.slice (some ⟨g, 0, none⟩) n n) qs
  len : n = qs.length
  ge : w.heap.size ≤ b10
  gb : g < b13
theorem CG.below {w W W' : World} {b13 b10 g g2 n : Nat} {qs : List Pn} (h : CG w W b13 b10 g g2 n qs) (q : Below W.heap.size W W') : CG w W' b13 b10 g g2 n qs := ⟨h.bx.below q, h.rx.below q, chn h.bel q, h.ps.below q, h.len, h.ge, h.gb⟩
theorem CG.gco {w W : World} {b13 b10 g g2 n : Nat} {qs : List Pn} (h : CG w W b13 b10 g g2 n qs) : GCo W (.agg #[.slice (some ⟨g, 0, none⟩) n n, .slice (some ⟨g2, 0, none⟩) 0 0]) qs (some ⟨g2, 0, none⟩) 0 := by
  have h1 := h.len
  subst h1
  exact ⟨_, _, rfl, h.ps, Nat.zero_le _, fun h => by cases h⟩
theorem CG.drew {w W : World} {b13 b10 g g2 n : Nat} {qs : List Pn} (h : CG w W b13 b10 g g2 n qs) : CG w W.drew b13 b10 g g2 n qs := ⟨h.bx, h.rx, h.bel.drew, h.ps, h.len, h.ge, h.gb⟩
theorem chg_map {m : List (Pn × Value)} {k : Nat} (hk : k < m.length) (per bud : Int) : (m.set k (⟨per, bud, (m.getD k pr0).1.n, (m.getD k pr0).1.z⟩, (m.getD k pr0).2)).map (·.1) = chg (m.map (·.1)) k per bud := by
  unfold chg
  rw [List.map_set, getD_map1]
theorem ch_step {w w3 w4 W : World} {b10 g g2 n k : Nat} {ps : List Pn} {m : List (Pn × Value)} (hB : Below w.heap.size w w3) (hr : CBo w3 b10 (.slice none 0 0) (.slice none 0 0)) (hge : w.heap.size ≤ b10) (hg : w3.heap.size ≤ g) (hb : Below w3.heap.size w3 w4) (hm : m.map (·.1) = ps) (hp : PB_ w4 g m) (ht : ∀ q ∈ m, TKo w4 g q.2 q.1.n q.1.z) (hn : n = ps.length) (hl : n ≤ 4) (hnn : ∀ x ∈ ps, x.n ≤ 4) (hk : k < n) (per bud : Int)
    (hW : W = w4.alloc (.cells #[.slice (some ⟨g, 0, none⟩) n n, .slice (some ⟨g2, 0, none⟩) 0 0] 25)) :
    W.cell? ⟨w4.heap.size, 0, none⟩ = some (.slice (some ⟨g, 0, none⟩) n n) ∧ (∃ x, W.cell? ⟨g, k * 3, none⟩ = some x) ∧ W.frozen? ⟨g, k * 3, none⟩ = false ∧ (∃ x, (W.setCell ⟨g, k * 3, none⟩ (.int .i64 per)).cell? ⟨g, k * 3 + 1, none⟩ = some x) ∧ (W.setCell ⟨g, k * 3, none⟩ (.int .i64 per)).frozen? ⟨g, k * 3 + 1, none⟩ = false ∧
    CG w ((W.setCell ⟨g, k * 3, none⟩ (.int .i64 per)).setCell ⟨g, k * 3 + 1, none⟩ (.int .i64 bud)) w4.heap.size b10 g g2 n (chg ps k per bud) := by
  have ba := below_alloc w4 (.cells #[.slice (some ⟨g, 0, none⟩) n n, .slice (some ⟨g2, 0, none⟩) 0 0] 25)
  have hbx : CBo W w4.heap.size (.slice (some ⟨g, 0, none⟩) n n) (.slice (some ⟨g2, 0, none⟩) 0 0) := by rw [hW]; exact heap_alloc_new w4 _
  rw [← hW] at ba
  have hpW := hp.below ba
  have hml : m.length = n := by rw [hn, ← hm, List.length_map]
  have h2 := heap_setCell_same W g (k * 3) _ _ (.int .i64 per) hpW
  have hgl := lt_of_block hp
  have h10 := lt_of_block hr
  obtain ⟨a0, a1, _⟩ := hpW.at (i := k) (by omega)
  have off : ∀ b, b ≠ g → ((W.setCell ⟨g, k * 3, none⟩ (.int .i64 per)).setCell ⟨g, k * 3 + 1, none⟩ (.int .i64 bud)).heap[b]? = W.heap[b]? := fun b hb => (Below.heap_setCell _ _ _ _ hb).trans (Below.heap_setCell _ _ _ _ hb)
  refine ⟨hbx.cells.1, ⟨_, a0⟩, frozen_of_row _ _ _ _ _ hpW, ⟨_, (World.cell?_setCell_other _ _ _ _ (by simp)).trans a1⟩, frozen_of_row _ _ _ _ _ h2, ?_⟩
  have hbel := ((chn (chn hB hb) ba).setCell (p := ⟨g, k * 3, none⟩) (by show w.heap.size ≤ g; have := hB.size; omega) (.int .i64 per)).setCell (p := ⟨g, k * 3 + 1, none⟩) (by show w.heap.size ≤ g; have := hB.size; omega) (.int .i64 bud)
  refine ⟨(off _ (by omega)).trans hbx, (off _ (by omega)).trans ((hr.below hb).below ba), hbel, ?_, by unfold chg; rw [List.length_set]; exact hn, hge, hgl⟩
  have hq := hpW.set01 k per bud
  have hps := hq.ps (by rw [List.length_set]; omega) (fun q hq => ?_)
  · rw [chg_map (by omega), hm, List.length_set, hml] at hps
    exact hps
  · rcases List.mem_or_eq_of_mem_set hq with hq | rfl
    · exact ⟨((((ht q hq).below ba).off).off).tk, hnn _ (by rw [← hm]; exact List.mem_map.2 ⟨q, hq, rfl⟩)⟩
    · have hq : m.getD k pr0 ∈ m := by
        have : m.getD k pr0 = m[k] := by simp [List.getD, List.getElem?_eq_getElem (show k < m.length by omega)]
        rw [this]; exact List.getElem_mem _
      exact ⟨((((ht _ hq).below ba).off).off).tk, hnn (m.getD k pr0).1 (by rw [← hm]; exact List.mem_map.2 ⟨_, hq, rfl⟩)⟩
theorem CBo.ne {w : World} {c b o : Nat} {i : Int} {a1 a2 : Option Addr} {n1 c1 n2 c2 : Nat} (hc : CBo w c (.slice a1 n1 c1) (.slice a2 n2 c2)) (h0 : w.cell? ⟨b, o, none⟩ = some (.int .i64 i)) : b ≠ c := fun e2 => by
  subst e2
  rw [cell_of_row _ _ _ _ _ _ hc] at h0
  match o with
  | 0 => simp at h0
  | 1 => simp at h0
  | o + 2 => simp at h0
theorem set2_off {w : World} {b c o : Nat} (h : b ≠ c) (x y : Value) : ((w.setCell ⟨c, 0, none⟩ x).setCell ⟨c, 1, none⟩ y).cell? ⟨b, o, none⟩ = w.cell? ⟨b, o, none⟩ := by
  rw [World.cell?_setCell_other _ _ _ _ (fun e => h (congrArg Addr.block e).symm), World.cell?_setCell_other _ _ _ _ (fun e => h (congrArg Addr.block e).symm)]
theorem TK.cc {w : World} {n c : Nat} {v : Value} {z : Nat → Nat → Int} {a1 a2 : Option Addr} {n1 c1 n2 c2 : Nat} (h : TK w v n z) (hc : CBo w c (.slice a1 n1 c1) (.slice a2 n2 c2)) (x y : Value) : TK ((w.setCell ⟨c, 0, none⟩ x).setCell ⟨c, 1, none⟩ y) v n z := by
  obtain ⟨a, cap, h1, h2, h3, h4, h5⟩ := h
  refine ⟨a, cap, h1, h2, h3, h4, fun hn => ?_⟩
  obtain ⟨b, off, e, hcl⟩ := h5 hn
  exact ⟨b, off, e, fun i hi j hj => (set2_off (hc.ne (hcl 0 hn 0 (by decide))) x y).trans (hcl i hi j hj)⟩
theorem PS.cc {w : World} {c : Nat} {v : Value} {ps : List Pn} {a1 a2 : Option Addr} {n1 c1 n2 c2 : Nat} (h : PS w v ps) (hc : CBo w c (.slice a1 n1 c1) (.slice a2 n2 c2)) (x y : Value) : PS ((w.setCell ⟨c, 0, none⟩ x).setCell ⟨c, 1, none⟩ y) v ps := by
  obtain ⟨a, cap, h1, h2, h3, h4, h5⟩ := h
  refine ⟨a, cap, h1, h2, h3, h4, fun hn => ?_⟩
  obtain ⟨b, off, e, hcl⟩ := h5 hn
  refine ⟨b, off, e, fun i hi => ?_⟩
  obtain ⟨k1, k2, tv, k3, k4, k5⟩ := hcl i hi
  have hne := hc.ne k1
  exact ⟨(set2_off hne x y).trans k1, (set2_off hne x y).trans k2, tv, (set2_off hne x y).trans k3, k4.cc hc x y, k5⟩
/-- the result, stored -/
theorem CG.fin {w W : World} {b13 b10 g g2 n : Nat} {qs : List Pn} (h : CG w W b13 b10 g g2 n qs) (x y : Value) : W.cell? ⟨b10, 0, none⟩ = some (.slice none 0 0) ∧ W.frozen? ⟨b10, 0, none⟩ = false ∧ (W.setCell ⟨b10, 0, none⟩ x).cell? ⟨b10, 1, none⟩ = some (.slice none 0 0) ∧ (W.setCell ⟨b10, 0, none⟩ x).frozen? ⟨b10, 1, none⟩ = false ∧
    ((W.setCell ⟨b10, 0, none⟩ x).setCell ⟨b10, 1, none⟩ y).cell? ⟨b10, 0, none⟩ = some x ∧ ((W.setCell ⟨b10, 0, none⟩ x).setCell ⟨b10, 1, none⟩ y).cell? ⟨b10, 1, none⟩ = some y ∧ PS ((W.setCell ⟨b10, 0, none⟩ x).setCell ⟨b10, 1, none⟩ y) (.slice (some ⟨g, 0, none⟩) n n) qs ∧ Below w.heap.size w ((W.setCell ⟨b10, 0, none⟩ x).setCell ⟨b10, 1, none⟩ y) := by
  obtain ⟨f0, k2, f1, kst⟩ := two_st h.rx x y
  exact ⟨h.rx.cells.1, f0, k2, f1, kst.cells.1, kst.cells.2, h.ps.cc h.rx x y, (h.bel.setCell (p := ⟨b10, 0, none⟩) h.ge _).setCell (p := ⟨b10, 1, none⟩) h.ge _⟩
set_option maxHeartbeats 2000000 in
theorem GChange_o {w : World} {v u : Value} {ps : List Pn} {ins : List Bool} {oa : Option Addr} {oc : Nat} (h : GCo w v ps oa oc) (hb : BV w u ins) (part per bud : Int) : Calls Try.prog 12 #[v, u, .int .i64 part, .int .i64 per, .int .i64 bud] w (ChgP ps ins part per bud w) := by
  have mixed : Try.prog.follows .mixedOrders = true := by kernel_rfl
  have HK := Lib.hid (fun w' (q : Below w.heap.size w w') => gcheckPart_any (h.below q) (hb.below q) part)
  have HBV := Lib.hid hb
  have HG := Lib.hid h
  obtain ⟨bp, bc, rfl, hb1, hb2⟩ := hb.slice
  unfold ChgP
  have H3 := gc_or ps ins part per bud
  obtain ⟨r, hr⟩ : ∃ r, gcE ps ins part per bud = r := ⟨_, rfl⟩
  rw [hr] at H3 ⊢
  clear hr
  obtain ⟨a, cap, rfl, hp, _, _⟩ := h
  have HP := Lib.hid hp
  obtain ⟨w2, hw2⟩ : ∃ w2, w2 = (w.alloc (.cells #[.slice a ps.length cap, .slice oa 0 oc] 25)).alloc (.cells #[.slice none 0 0, .slice none 0 0] 25) := ⟨_, rfl⟩
  have HS0 : Hid (SCo w w2 w.heap.size (w.heap.size + 1) (.slice a ps.length cap) (.slice oa 0 oc)) := by
    rw [hw2]
    have h1 : CBo (w.alloc (.cells #[.slice a ps.length cap, .slice oa 0 oc] 25)) w.heap.size (.slice a ps.length cap) (.slice oa 0 oc) := heap_alloc_new w _
    have h2 := h1.below (below_alloc _ (.cells #[.slice none 0 0, .slice none 0 0] 25))
    have h3 := heap_alloc_new (w.alloc (.cells #[.slice a ps.length cap, .slice oa 0 oc] 25)) (.cells #[.slice none 0 0, .slice none 0 0] 25)
    rw [World.size_alloc] at h3
    exact ⟨h2.cells.1, h2.cells.2, h2, h3, chn (below_alloc w _) (below_alloc _ _), Nat.le_refl _, Nat.lt_succ_self _⟩
  rcases H3 with ⟨hz, rfl⟩ | ⟨hz, k, rfl, hk, hm, hl, hgc⟩
  · have hz2 : (kpE ps ins part == 0) = false := by simp; exact hz
    generalize kpE ps ins part = r at *
    generalize ins.length = b0 at *
    generalize ps.length = n at *
    clear hb hb1 hb2 hp
    have HZ := Lib.hid hz
    clear hz
    go_enter Try.func12, Try.ntmps12
    go_wp2_with fail
    rw [← hw2]
    clear hw2
    refine (HK.out _ HS0.out.2.2.2.2.1).mono ?_
    rintro e w3 ⟨rfl, hb⟩
    have HB := Lib.hid (chn HS0.out.2.2.2.2.1 hb)
    have hrx := HS0.out.2.2.2.1.below hb
    clear hb
    have j0 := hrx.cells.1
    have j1 := hrx.cells.2
    obtain ⟨f0, k2, f1, kst⟩ := two_st hrx (.slice none 0 0) (.slice none 0 0)
    have HST := Lib.hid kst
    clear hrx kst
    go_wp2_with fail
    obtain ⟨e0, e1⟩ := HST.out.cells
    refine bodyPost_ret (v := .tuple #[.agg #[.slice none 0 0, .slice none 0 0], .int .i64 r]) (by simp [results, Try.results12, go_sem, e0, e1]) rfl ?_
    refine ⟨_, _, _, _, _, _, rfl, fun h => absurd h HZ.out, ?_⟩
    have hB := HB.out
    exact (hB.setCell (p := ⟨w.heap.size + 1, 0, none⟩) (by show w.heap.size ≤ w.heap.size + 1; omega) _).setCell (p := ⟨w.heap.size + 1, 1, none⟩) (by show w.heap.size ≤ w.heap.size + 1; omega) _
  · have HC := Lib.hid (fun w' (q : Below w.heap.size w w') => copied_any (HG.out.below q) hm)
    have hl4 := (per_pos hm).1
    have HLN := Lib.hid hl
    have hkI : (k : Int) < ps.length := by omega
    have hk0 : (0 : Int) ≤ k := by omega
    rw [hz] at HK
    have HX := Lib.hid (HBV.out)
    obtain ⟨x, hx⟩ : ∃ x, ins.getD k false = x := ⟨_, rfl⟩
    have HXX := Lib.hid hx
    rw [hx] at hgc
    have HGC := Lib.hid hgc
    have HM := Lib.hid hm
    have hkb : k < ins.length := by omega
    have HNN : Hid (∀ x ∈ ps, x.n ≤ 4) := by
      unfold cMay wi at hm
      simp only [Bool.and_eq_true, decide_eq_true_eq, List.all_eq_true] at hm
      intro x hx
      have := hm.2 x hx
      unfold cPart wi at this
      simp only [Bool.and_eq_true, decide_eq_true_eq] at this
      omega
    have hb3 := hb2
    unfold CopP at HC
    obtain ⟨n, hn⟩ : ∃ n, n = ps.length := ⟨_, rfl⟩
    rw [← hn] at HK HC HS0 HP hkI hk hl4 HLN hw2
    have HN := Lib.hid hn
    clear hb hb1 hb2 hp hm hl hgc hz hn hx
    go_enter Try.func12, Try.ntmps12
    rw [← HN.out]
    go_wp2_with fail
    rw [← hw2]
    clear hw2
    refine (HK.out _ HS0.out.2.2.2.2.1).mono ?_
    rintro e w3 ⟨rfl, hb⟩
    have HB := Lib.hid (chn HS0.out.2.2.2.2.1 hb)
    have HRX := Lib.hid (HS0.out.2.2.2.1.below hb)
    have hbx := HS0.out.2.2.1.below hb
    have j0 := hbx.cells.1
    have j1 := hbx.cells.2
    clear hb hbx HS0
    go_wp2_with fail
    refine (HC.out _ HB.out).mono ?_
    rintro e w4 ⟨g, g2, m, rfl, hge, hb, hme, hpb, htk⟩
    obtain ⟨W5, hW5⟩ : ∃ W5, W5 = w4.alloc (.cells #[.slice (some ⟨g, 0, none⟩) n n, .slice (some ⟨g2, 0, none⟩) 0 0] 25) := ⟨_, rfl⟩
    obtain ⟨b13, hb13⟩ : ∃ b, b = w4.heap.size := ⟨_, rfl⟩
    obtain ⟨b10, hb10⟩ : ∃ b, b = w.heap.size + 1 := ⟨_, rfl⟩
    have hst := ch_step HB.out HRX.out (by omega) hge hb hme hpb htk HN.out hl4 HNN.out hk per bud hW5
    rw [← hb13, ← hb10] at hst
    obtain ⟨c0, ⟨x0, d0⟩, f0, ⟨x1, d1⟩, f1, hcg⟩ := hst
    have HCG := Lib.hid hcg
    have HW5 := Lib.hid hW5; have HB13 := Lib.hid hb13; have HB10 := Lib.hid hb10
    clear hcg hge hb hme hpb htk HC HK HRX HB j0 j1 hW5 hb13 hb10
    have HWE : Hid (w4.alloc (.cells #[.slice (some ⟨g, 0, none⟩) n n, .slice (some ⟨g2, 0, none⟩) 0 0] 25) = W5) := HW5.out.symm
    go_wp2_with fail
    rw [← HB10.out]
    try rw [HWE.out, ← HB13.out]
    have c1 : (W5.setCell ⟨g, k * 3, none⟩ (.int .i64 per)).cell? ⟨b13, 0, none⟩ = some (.slice (some ⟨g, 0, none⟩) n n) := (World.cell?_setCell_other _ _ _ _ (fun e => by have e2 : g = b13 := congrArg Addr.block e; have := HCG.out.gb; omega)).trans c0
    go_cut [] from 24 (fun wc => Hid (CG w wc b13 b10 g g2 n (chg ps k per bud)))
    case first =>
      go_region_with fail
      all_goals (
        go_wp2_with fail
        go_meet)
      all_goals exact HCG.out.drew
    case rest =>
      clear c0 c1 d0 d1 f0 f1 HCG HWE HW5
      have HCG := hcut
      obtain ⟨q0, q1⟩ := HCG.out.bx.cells
      have HCK := Lib.hid (ccheck_any HCG.out.gco)
      unfold cE at HCK
      have HT := Lib.hid (fun (hq : cMay (chg ps k per bud) = true) w' (b : Below wc.heap.size wc w') => tested_any (HCG.out.ps.below b) (HBV.out.below (chn HCG.out.bel b)) (by unfold chg; rw [List.length_set, HLN.out]; exact HN.out) (per_pos hq).1 (per_pos hq).2.2)
      have HKB := Lib.hid hkb
      have HBX : Hid (∀ w', Below w.heap.size w w' → ∃ g off, bp = some ⟨g, off, none⟩ ∧ w'.cell? ⟨g, off + k, none⟩ = some (.bool x)) := fun w' b => by
        have := (HBV.out.below b).at hkb
        rw [HXX.out] at this
        exact this
      clear hcut HG HP HNN HM HX HXX HBV HN hk
      generalize ins.length = b0 at *
      have hkb0 : (k : Int) < b0 := by omega
      have HGE : Hid (r = if cMay (chg ps k per bud) then (if x then (gtIn (subL (chg ps k per bud) ins) (idxL 0 ins)).2.2 else 0) else 50) := HGC.out
      clear HGC
      generalize gtIn (subL (chg ps k per bud) ins) (idxL 0 ins) = R at *
      obtain ⟨qs, hqs⟩ : ∃ qs, qs = chg ps k per bud := ⟨_, rfl⟩
      have HQS := Lib.hid hqs
      rw [← hqs] at HCG HCK HT HGE
      clear hqs
      by_cases hq : cMay qs = true
      · have HCK2 : Hid (Calls Try.prog 19 #[.agg #[.slice (some ⟨g, 0, none⟩) n n, .slice (some ⟨g2, 0, none⟩) 0 0]] wc (YI 0 wc)) := by have := HCK.out; rw [if_pos hq] at this; exact this
        have HG2 : Hid (r = if x then R.2.2 else 0) := by have := HGE.out; rw [if_pos hq] at this; exact this
        have HT2 := Lib.hid (HT.out hq)
        clear HCK HGE HT hq
        go_wp2_with fail
        refine HCK2.out.mono ?_
        rintro e wd ⟨rfl, hb⟩
        have HCGD := Lib.hid (HCG.out.below hb)
        have HTD := Lib.hid (HT2.out wd hb)
        clear hb HT2 HCK2 HCG q0 q1
        obtain ⟨gb, go, rfl, hbc⟩ := HBX.out wd HCGD.out.bel
        obtain ⟨q0, q1⟩ := HCGD.out.bx.cells
        cases x with
        | false =>
          have HRR : Hid (r = 0) := HG2.out
          clear HG2 HTD
          obtain ⟨q0, q1⟩ := HCGD.out.bx.cells
          obtain ⟨j0, f0, j1, f1, e0, e1, eps, ebl⟩ := HCGD.out.fin (.slice (some ⟨g, 0, none⟩) n n) (.slice (some ⟨g2, 0, none⟩) 0 0)
          have E0 := Lib.hid e0; have E1 := Lib.hid e1; have EB := Lib.hid ebl; have EP := Lib.hid eps
          clear e0 e1 eps ebl
          go_wp2_with fail
          have e0 := E0.out; have e1 := E1.out
          refine bodyPost_ret (v := .tuple #[.agg #[.slice (some ⟨g, 0, none⟩) n n, .slice (some ⟨g2, 0, none⟩) 0 0], .int .i64 0]) (by simp [results, Try.results12, go_sem, e0, e1]) rfl ?_
          exact ⟨_, _, _, _, _, _, by rw [HRR.out], fun _ => by rw [Int.toNat_natCast, ← HQS.out]; exact EP.out, EB.out⟩
        | true =>
          have HRR1 : Hid (r = R.2.2) := HG2.out
          clear HG2
          obtain ⟨a1, b1, er⟩ := R
          go_wp2_with fail
          refine HTD.out.mono ?_
          rintro e we ⟨rfl, hb⟩
          have HCGE := Lib.hid (HCGD.out.below hb)
          clear hb HTD HCGD q0 q1 hbc
          by_cases he : er = 0
          · subst he
            have HRR : Hid (r = 0) := HRR1.out
            clear HRR1
            obtain ⟨q0, q1⟩ := HCGE.out.bx.cells
            obtain ⟨j0, f0, j1, f1, e0, e1, eps, ebl⟩ := HCGE.out.fin (.slice (some ⟨g, 0, none⟩) n n) (.slice (some ⟨g2, 0, none⟩) 0 0)
            have E0 := Lib.hid e0; have E1 := Lib.hid e1; have EB := Lib.hid ebl; have EP := Lib.hid eps
            clear e0 e1 eps ebl
            go_wp2_with fail
            have e0 := E0.out; have e1 := E1.out
            refine bodyPost_ret (v := .tuple #[.agg #[.slice (some ⟨g, 0, none⟩) n n, .slice (some ⟨g2, 0, none⟩) 0 0], .int .i64 0]) (by simp [results, Try.results12, go_sem, e0, e1]) rfl ?_
            exact ⟨_, _, _, _, _, _, by rw [HRR.out], fun _ => by rw [Int.toNat_natCast, ← HQS.out]; exact EP.out, EB.out⟩
          · have hef : (er == 0) = false := by simp; exact he
            have HNZ := Lib.hid he
            have HRR : Hid (r = er) := HRR1.out
            clear HRR1 he
            obtain ⟨j0, f0, j1, f1, e0, e1, eps, ebl⟩ := HCGE.out.fin (.slice none 0 0) (.slice none 0 0)
            have E0 := Lib.hid e0; have E1 := Lib.hid e1; have EB := Lib.hid ebl
            clear e0 e1 eps ebl
            go_wp2_with fail
            have e0 := E0.out; have e1 := E1.out
            refine bodyPost_ret (v := .tuple #[.agg #[.slice none 0 0, .slice none 0 0], .int .i64 er]) (by simp [results, Try.results12, go_sem, e0, e1]) rfl ?_
            exact ⟨_, _, _, _, _, _, by rw [HRR.out], fun h => absurd (HRR.out.symm.trans h) HNZ.out, EB.out⟩
      · have HCK2 : Hid (Calls Try.prog 19 #[.agg #[.slice (some ⟨g, 0, none⟩) n n, .slice (some ⟨g2, 0, none⟩) 0 0]] wc (YI 50 wc)) := by have := HCK.out; rw [if_neg hq] at this; exact this
        have HRR : Hid (r = 50) := by have := HGE.out; rw [if_neg hq] at this; exact this
        have HNZ : Hid (¬ (50 : Int) = 0) := by unfold Hid; decide
        clear HCK HGE HT hq
        go_wp2_with fail
        refine HCK2.out.mono ?_
        rintro e wd ⟨rfl, hb⟩
        have HCGD := Lib.hid (HCG.out.below hb)
        clear hb HCK2 HCG q0 q1
        obtain ⟨j0, f0, j1, f1, e0, e1, eps, ebl⟩ := HCGD.out.fin (.slice none 0 0) (.slice none 0 0)
        have E0 := Lib.hid e0; have E1 := Lib.hid e1; have EB := Lib.hid ebl
        clear e0 e1 eps ebl
        go_wp2_with fail
        have e0 := E0.out; have e1 := E1.out
        refine bodyPost_ret (v := .tuple #[.agg #[.slice none 0 0, .slice none 0 0], .int .i64 50]) (by simp [results, Try.results12, go_sem, e0, e1]) rfl ?_
        exact ⟨_, _, _, _, _, _, by rw [HRR.out], fun h => absurd (HRR.out.symm.trans h) HNZ.out, EB.out⟩
end Go.Proofs.Ytbdiekolkniajaa
