/- A configuration that is copied. -/
import Derived.Test.YtbdiekolkniajaaGatJ
import Derived.Deep.RegionHeld3
import Derived.Deep.CutRange
namespace Go.Proofs.Ytbdiekolkniajaa
open Go.RowKit Tk De Dl Lo Gt
set_option linter.unusedVariables false

/-- an empty row of ports -/
def ER (W : World) (g : Nat) : Prop := W.heap[g]? = some (.cells #[] 60 (0, 0))
/-- what is held while the two lists are copied -/
def SCr (W w : World) (b c : Nat) (pv ov : Value) : Prop := CBo w b pv ov ∧ CBo w c (.slice none 0 0) (.slice none 0 0) ∧ Below W.heap.size W w ∧ W.heap.size ≤ b ∧ b < c
def SCo (W w : World) (b c : Nat) (pv ov : Value) : Prop := w.cell? ⟨b, 0, none⟩ = some pv ∧ w.cell? ⟨b, 1, none⟩ = some ov ∧ SCr W w b c pv ov
theorem SCo.drew {W w : World} {b c : Nat} {pv ov : Value} (h : SCo W w b c pv ov) : SCo W w.drew b c pv ov := ⟨h.1, h.2.1, h.2.2.1, h.2.2.2.1, h.2.2.2.2.1.drew, h.2.2.2.2.2⟩
theorem SCo.alloc {W w : World} {b c : Nat} {pv ov : Value} (h : SCo W w b c pv ov) (o : Obj) : SCo W (w.alloc o) b c pv ov := by
  obtain ⟨h1, h2, h3, h4, h5, h6⟩ := h
  have k := below_alloc w o
  exact ⟨(k.cell (World.block_lt_of_cell? _ _ h1)).trans h1, (k.cell (World.block_lt_of_cell? _ _ h2)).trans h2, h3.below k, h4.below k, chn h5 k, h6⟩
theorem cp_S1 {W w : World} {b c : Nat} {pv ov : Value} {a : Option Addr} {cap : Nat} {l : List (Pn × Value)} {n : Nat} (hl : n = l.length) (hp : PL W a l) (hn : n ≤ 4) (h : SCo W w b c pv ov) : Calls Try.prog 24 #[.slice a n cap] w (fun e w' => ∃ g, e = .returned (.slice (some ⟨g, 0, none⟩) n n) ∧ PB_ w' g l ∧ SCo W w' b c pv ov ∧ c < g) := by
  subst hl
  have h5 := h.2.2.2.2.1
  refine (copiedPa (by omega) (pcells_len l) (hp.below h5).rd hp.nn hp.ones).mono fun e w' ⟨he, hw⟩ => ?_
  subst hw
  exact ⟨_, he, heap_alloc_new w _, h.alloc _, lt_of_block h.2.2.2.1⟩
theorem cp_S2 {W w : World} {b c : Nat} {pv ov : Value} {a : Option Addr} {cap : Nat} (h : SCo W w b c pv ov) : Calls Try.prog 25 #[.slice a 0 cap] w (fun e w' => ∃ g, e = .returned (.slice (some ⟨g, 0, none⟩) 0 0) ∧ ER w' g ∧ SCo W w' b c pv ov ∧ Below w.heap.size w w' ∧ w.heap.size ≤ g) := by
  refine (copiedPo (cs := []) (Nat.zero_le _) rfl (fun j v hj => by simp at hj) (fun _ => rfl) (fun u hu => by cases hu)).mono fun e w' ⟨he, hw⟩ => ?_
  subst hw
  exact ⟨_, he, heap_alloc_new w _, h.alloc _, below_alloc w _, Nat.le_refl _⟩
/-- both are stored -/
theorem two_st {w : World} {b : Nat} {pv ov : Value} (h : CBo w b pv ov) (x y : Value) : w.frozen? ⟨b, 0, none⟩ = false ∧ (w.setCell ⟨b, 0, none⟩ x).cell? ⟨b, 1, none⟩ = some ov ∧ (w.setCell ⟨b, 0, none⟩ x).frozen? ⟨b, 1, none⟩ = false ∧ CBo ((w.setCell ⟨b, 0, none⟩ x).setCell ⟨b, 1, none⟩ y) b x y := by
  have h2 := heap_setCell_same w b 0 _ _ x h
  refine ⟨frozen_of_row _ _ _ _ _ h, cell_of_row _ _ 1 _ _ _ h2, frozen_of_row _ _ _ _ _ h2, ?_⟩
  exact heap_setCell_same _ b 1 _ _ y h2
/-- tasks that can be read, not in that block -/
def TKo (w : World) (g : Nat) (v : Value) (n : Nat) (z : Nat → Nat → Int) : Prop := ∃ a cap, v = .slice a n cap ∧ n ≤ cap ∧ cap ≤ maxLen ∧ (a = none → cap = 0) ∧
    (0 < n → ∃ b off, a = some ⟨b, off, none⟩ ∧ b ≠ g ∧ ∀ i, i < n → ∀ j, j < 8 → w.cell? ⟨b, off + i * 8 + j, none⟩ = some (.int .i64 (z i j)))
theorem TKo.tk {w : World} {g n : Nat} {v : Value} {z : Nat → Nat → Int} (h : TKo w g v n z) : TK w v n z := by
  obtain ⟨a, cap, h1, h2, h3, h4, h5⟩ := h
  exact ⟨a, cap, h1, h2, h3, h4, fun hn => by obtain ⟨b, off, e, _, hc⟩ := h5 hn; exact ⟨b, off, e, hc⟩⟩
theorem TKo.below {w w' : World} {g n : Nat} {v : Value} {z : Nat → Nat → Int} (h : TKo w g v n z) (q : Below w.heap.size w w') : TKo w' g v n z := by
  obtain ⟨a, cap, h1, h2, h3, h4, h5⟩ := h
  exact ⟨a, cap, h1, h2, h3, h4, fun hn => by obtain ⟨b, off, e, hb, hc⟩ := h5 hn; exact ⟨b, off, e, hb, fun i hi j hj => (q.cell (World.block_lt_of_cell? _ _ (hc i hi j hj))).trans (hc i hi j hj)⟩⟩
theorem TKo.off {w : World} {g n o : Nat} {v x : Value} {z : Nat → Nat → Int} (h : TKo w g v n z) : TKo (w.setCell ⟨g, o, none⟩ x) g v n z := by
  obtain ⟨a, cap, h1, h2, h3, h4, h5⟩ := h
  exact ⟨a, cap, h1, h2, h3, h4, fun hn => by
    obtain ⟨b, off, e, hb, hc⟩ := h5 hn
    exact ⟨b, off, e, hb, fun i hi j hj => by rw [World.cell?_setCell_other _ _ _ _ (fun e => hb (congrArg Addr.block e).symm)]; exact hc i hi j hj⟩⟩
theorem TK.o {w w' : World} {g n : Nat} {v : Value} {z : Nat → Nat → Int} (h : TK w v n z) (q : Below w.heap.size w w') (hg : w.heap.size ≤ g) : TKo w' g v n z := by
  obtain ⟨a, cap, h1, h2, h3, h4, h5⟩ := h
  refine ⟨a, cap, h1, h2, h3, h4, fun hn => ?_⟩
  obtain ⟨b, off, e, hc⟩ := h5 hn
  have hb := World.block_lt_of_cell? _ _ (hc 0 hn 0 (by decide))
  exact ⟨b, off, e, fun e2 => by rw [e2] at hb; exact absurd hb (Nat.not_lt.2 hg), fun i hi j hj => (q.cell (World.block_lt_of_cell? _ _ (hc i hi j hj))).trans (hc i hi j hj)⟩
theorem TK.rd {w : World} {a : Option Addr} {n cap m : Nat} {z : Nat → Nat → Int} (h : TK w (.slice a n cap) m z) : n = m ∧ Rd w a (zflat z n) ∧ (a = none → n = 0) := by
  obtain ⟨a', cap', e, h1, h2, h3, h4⟩ := h
  obtain ⟨rfl, rfl, rfl⟩ : a = a' ∧ n = m ∧ cap = cap' := by simpa using e
  refine ⟨rfl, fun j v hj => ?_, fun ha => by have := h3 ha; omega⟩
  have hlt := (List.getElem?_eq_some_iff.1 hj).1
  rw [zflat_len] at hlt
  obtain ⟨b, off, e2, hc⟩ := h4 (by omega)
  refine ⟨b, off, e2, ?_⟩
  have h5 := hc (j / 8) (by omega) (j % 8) (by omega)
  have h6 := zflat_at z (n := n) (i := j / 8) (by omega) (j % 8) (by omega)
  rw [show j / 8 * 8 + j % 8 = j by omega, hj] at h6
  rw [show off + j / 8 * 8 + j % 8 = off + j by omega] at h5
  rw [h5, Option.some.inj h6]
theorem zflat_ones (z : Nat → Nat → Int) (n : Nat) : ∀ u ∈ zflat z n, u.oneCell' = true := fun u hu => by
  obtain ⟨j, hj, e⟩ := List.getElem_of_mem hu
  rw [zflat_len] at hj
  have h6 := zflat_at z (n := n) (i := j / 8) (by omega) (j % 8) (by omega)
  rw [show j / 8 * 8 + j % 8 = j by omega, List.getElem?_eq_getElem (by rw [zflat_len]; exact hj), e] at h6
  rw [Option.some.inj h6]
  rfl
theorem cp_T {w : World} {a : Option Addr} {n cap : Nat} {z : Nat → Nat → Int} (h : TK w (.slice a n cap) n z) (hn : n ≤ 4) (g : Nat) (hg : g < w.heap.size) : Calls Try.prog 26 #[.slice a n cap] w (fun e w' => ∃ gt, e = .returned (.slice (some ⟨gt, 0, none⟩) n n) ∧ TKo w' g (.slice (some ⟨gt, 0, none⟩) n n) n z ∧ Below w.heap.size w w') := by
  refine (copiedTa (by omega) (zflat_len z n) h.rd.2.1 h.rd.2.2 (zflat_ones z n)).mono fun e w' ⟨he, hw⟩ => ?_
  subst hw
  refine ⟨_, he, ⟨_, _, rfl, Nat.le_refl _, by unfold maxLen; omega, (fun h => by cases h), fun _ => ⟨_, 0, rfl, by omega, fun i hi j hj => ?_⟩⟩, below_alloc w _⟩
  rw [cell_of_row _ _ _ _ _ _ (heap_alloc_new w _), List.getElem?_toArray, Nat.zero_add]
  exact zflat_at z hi j hj
theorem pcells_set2 : ∀ {l : List (Pn × Value)} {k : Nat} (v : Value), (pcells l).set (k * 3 + 2) v = pcells (l.set k ((l.getD k pr0).1, v))
  | [], _, _ => by simp [pcells]
  | (p, u) :: r, 0, v => by simp [pcells]
  | (p, u) :: r, k + 1, v => by
    have ih := pcells_set2 (l := r) (k := k) v
    rw [show (k + 1) * 3 + 2 = (k * 3 + 2) + 1 + 1 + 1 by omega]
    simp only [pcells, List.set_cons_succ, List.getD_cons_succ, ih]
theorem PB_.set2 {W : World} {g : Nat} {l : List (Pn × Value)} (h : PB_ W g l) (k : Nat) (v : Value) : PB_ (W.setCell ⟨g, k * 3 + 2, none⟩ v) g (l.set k ((l.getD k pr0).1, v)) := by
  have := heap_setCell_same W g (k * 3 + 2) _ _ v h
  unfold PB_
  rw [← pcells_set2]
  simpa using this
/-- the copy, as far as it has come -/
structure CL (w W : World) (b c g g2 : Nat) (ps : List Pn) (m : List (Pn × Value)) : Prop where
  eq : m.map (·.1) = ps
  bx : CBo W b (.slice (some ⟨g, 0, none⟩) ps.length ps.length) (.slice (some ⟨g2, 0, none⟩) 0 0)
  cx : CBo W c (.slice none 0 0) (.slice none 0 0)
  bel : Below w.heap.size w W
  lt : w.heap.size ≤ b ∧ b < c ∧ c < g
  pb : PB_ W g m
  tk : ∀ q ∈ m, TKo W g q.2 q.1.n q.1.z
theorem CL.step {w W W' : World} {b c g g2 k : Nat} {ps : List Pn} {m : List (Pn × Value)} {v : Value} (h : CL w W b c g g2 ps m) (q : Below W.heap.size W W') (hk : k < m.length) (hv : TKo W' g v (m.getD k pr0).1.n (m.getD k pr0).1.z) :
    CL w (W'.setCell ⟨g, k * 3 + 2, none⟩ v) b c g g2 ps (m.set k ((m.getD k pr0).1, v)) := by
  have hl := h.lt
  refine ⟨?_, (Below.heap_setCell _ _ _ _ (Nat.ne_of_lt (show b < g by omega))).trans (h.bx.below q), (Below.heap_setCell _ _ _ _ (Nat.ne_of_lt (show c < g by omega))).trans (h.cx.below q), (chn h.bel q).setCell (p := ⟨g, k * 3 + 2, none⟩) (by show w.heap.size ≤ g; omega) _, hl, (h.pb.below q).set2 k v, fun x hx => ?_⟩
  · rw [← h.eq]
    apply List.ext_getElem
    · simp
    · intro i h1 h2
      simp only [List.length_map, List.length_set] at h1 h2
      simp only [List.getElem_map, List.getElem_set]
      split
      · rename_i e
        subst e
        simp [List.getD, List.getElem?_eq_getElem hk]
      · rfl
  · rcases List.mem_or_eq_of_mem_set hx with hx | rfl
    · exact ((h.tk x hx).below q).off
    · exact hv.off
theorem cl_start {w wa wb : World} {b c g1 g2 n : Nat} {ps : List Pn} {l : List (Pn × Value)} {a : Option Addr} {pv ov : Value} (hl : l.map (·.1) = ps) (hpl : PL w a l) (hn : n = ps.length) (kr : SCr w wb b c pv ov) (hpb : PB_ wa g1 l) (hcl : c < g1) (hbl : Below wa.heap.size wa wb) :
    CL w ((wb.setCell ⟨b, 0, none⟩ (.slice (some ⟨g1, 0, none⟩) n n)).setCell ⟨b, 1, none⟩ (.slice (some ⟨g2, 0, none⟩) 0 0)) b c g1 g2 ps l := by
  subst hn
  obtain ⟨k1, k2, k3, k4, k5⟩ := kr
  have hs := (two_st k1 (.slice (some ⟨g1, 0, none⟩) ps.length ps.length) (.slice (some ⟨g2, 0, none⟩) 0 0)).2.2.2
  have off : ∀ k, k ≠ b → ((wb.setCell ⟨b, 0, none⟩ (.slice (some ⟨g1, 0, none⟩) ps.length ps.length)).setCell ⟨b, 1, none⟩ (.slice (some ⟨g2, 0, none⟩) 0 0)).heap[k]? = wb.heap[k]? := fun k hk => (Below.heap_setCell _ _ _ _ hk).trans (Below.heap_setCell _ _ _ _ hk)
  have bel := (k3.setCell (p := ⟨b, 0, none⟩) k4 (.slice (some ⟨g1, 0, none⟩) ps.length ps.length)).setCell (p := ⟨b, 1, none⟩) k4 (.slice (some ⟨g2, 0, none⟩) 0 0)
  exact ⟨hl, hs, (off c (by omega)).trans k2, bel, ⟨k4, k5, hcl⟩, (off g1 (by omega)).trans (hpb.below hbl), fun q hq => TK.o (hpl.t q hq).1 bel (by omega)⟩
theorem CL.at {w W : World} {b c g g2 k n : Nat} {ps : List Pn} {m : List (Pn × Value)} (h : CL w W b c g g2 ps m) (hn : n = ps.length) (hk : k < n) (hnn : ∀ x ∈ ps, x.n ≤ 4) : ∃ p ta tc, m.getD k pr0 = (p, .slice ta p.n tc) ∧ k < m.length ∧ W.cell? ⟨g, k * 3 + 2, none⟩ = some (.slice ta p.n tc) ∧ TK W (.slice ta p.n tc) p.n p.z ∧ p.n ≤ 4 ∧ g < W.heap.size := by
  have hl : m.length = ps.length := by rw [← h.eq, List.length_map]
  have hkm : k < m.length := by omega
  have hm : m.getD k pr0 ∈ m := by
    have : m.getD k pr0 = m[k] := by simp [List.getD, List.getElem?_eq_getElem hkm]
    rw [this]; exact List.getElem_mem hkm
  have ht := h.tk _ hm
  have hc := (h.pb.at hkm).2.2
  have h4 := hnn (m.getD k pr0).1 (by rw [← h.eq]; exact List.mem_map.2 ⟨_, hm, rfl⟩)
  obtain ⟨⟨p, v⟩, hq⟩ : ∃ q, q = m.getD k pr0 := ⟨_, rfl⟩
  rw [← hq] at ht hc h4
  obtain ⟨a, cap, e, _⟩ := ht.tk.slice
  dsimp only at e hc ht h4
  subst e
  exact ⟨p, a, cap, hq.symm, hkm, hc, ht.tk, h4, lt_of_block h.pb⟩
theorem CL.drew {w W : World} {b c g g2 : Nat} {ps : List Pn} {m : List (Pn × Value)} (h : CL w W b c g g2 ps m) : CL w W.drew b c g g2 ps m := ⟨h.eq, h.bx, h.cx, h.bel.drew, h.lt, h.pb, h.tk⟩
theorem TKo.cc {w : World} {g n c : Nat} {v : Value} {z : Nat → Nat → Int} {a1 a2 : Option Addr} {n1 c1 n2 c2 : Nat} (h : TKo w g v n z) (hc : CBo w c (.slice a1 n1 c1) (.slice a2 n2 c2)) (x y : Value) : TKo ((w.setCell ⟨c, 0, none⟩ x).setCell ⟨c, 1, none⟩ y) g v n z := by
  obtain ⟨a, cap, h1, h2, h3, h4, h5⟩ := h
  refine ⟨a, cap, h1, h2, h3, h4, fun hn => ?_⟩
  obtain ⟨b, off, e, hb, hcl⟩ := h5 hn
  have hne : b ≠ c := fun e2 => by
    subst e2
    have h0 := hcl 0 hn 0 (by decide)
    rw [cell_of_row _ _ _ _ _ _ hc] at h0
    generalize off + 0 * 8 + 0 = o at h0
    match o with
    | 0 => simp at h0
    | 1 => simp at h0
    | o + 2 => simp at h0
  exact ⟨b, off, e, hb, fun i hi j hj => by
    rw [World.cell?_setCell_other _ _ _ _ (fun e => hne (congrArg Addr.block e).symm), World.cell?_setCell_other _ _ _ _ (fun e => hne (congrArg Addr.block e).symm)]
    exact hcl i hi j hj⟩
theorem CL.done {w W : World} {b c g g2 : Nat} {ps : List Pn} {m : List (Pn × Value)} (h : CL w W b c g g2 ps m) (x y : Value) : CBo ((W.setCell ⟨c, 0, none⟩ x).setCell ⟨c, 1, none⟩ y) c x y ∧ Below w.heap.size w ((W.setCell ⟨c, 0, none⟩ x).setCell ⟨c, 1, none⟩ y) ∧ w.heap.size ≤ g ∧ PB_ ((W.setCell ⟨c, 0, none⟩ x).setCell ⟨c, 1, none⟩ y) g m ∧ ∀ q ∈ m, TKo ((W.setCell ⟨c, 0, none⟩ x).setCell ⟨c, 1, none⟩ y) g q.2 q.1.n q.1.z := by
  have hl := h.lt
  refine ⟨(two_st h.cx x y).2.2.2, (h.bel.setCell (p := ⟨c, 0, none⟩) (by show w.heap.size ≤ c; omega) x).setCell (p := ⟨c, 1, none⟩) (by show w.heap.size ≤ c; omega) y, by omega, ?_, fun q hq => (h.tk q hq).cc h.cx x y⟩
  exact (Below.heap_setCell _ _ _ _ (Nat.ne_of_gt (show c < g by omega))).trans ((Below.heap_setCell _ _ _ _ (Nat.ne_of_gt (show c < g by omega))).trans h.pb)
/-- what copied answers -/
def CopP (w : World) (ps : List Pn) (e : Ending) (w' : World) : Prop := ∃ g g2 m, e = .returned (.agg #[.slice (some ⟨g, 0, none⟩) ps.length ps.length, .slice (some ⟨g2, 0, none⟩) 0 0]) ∧ w.heap.size ≤ g ∧ Below w.heap.size w w' ∧ m.map (·.1) = ps ∧ PB_ w' g m ∧ ∀ q ∈ m, TKo w' g q.2 q.1.n q.1.z
set_option maxHeartbeats 1000000 in
theorem copied_any {w : World} {v : Value} {ps : List Pn} {oa : Option Addr} {oc : Nat} (h : GCo w v ps oa oc) (hm : cMay ps = true) : Calls Try.prog 18 #[v] w (CopP w ps) := by
  have hl4 := (per_pos hm).1
  have hnn : ∀ x ∈ ps, x.n ≤ 4 := by
    unfold cMay wi at hm
    simp only [Bool.and_eq_true, decide_eq_true_eq, List.all_eq_true] at hm
    intro x hx
    have := hm.2 x hx
    unfold cPart wi at this
    simp only [Bool.and_eq_true, decide_eq_true_eq] at this
    omega
  have HNN := Lib.hid hnn
  obtain ⟨a, cap, rfl, hp, _, _⟩ := h
  obtain ⟨l, hlp, hpl⟩ := hp.pl
  have HLP := Lib.hid hlp
  have mixed : Try.prog.follows .mixedOrders = true := by kernel_rfl
  have HPL := Lib.hid hpl
  obtain ⟨n, hn⟩ : ∃ n, n = ps.length := ⟨_, rfl⟩
  have HN := Lib.hid hn
  have HLL : Hid (n = l.length) := by rw [hn, ← hlp, List.length_map]; exact rfl
  rw [← hn] at hl4 ⊢
  have HS0 : Hid (SCo w ((w.alloc (.cells #[.slice a n cap, .slice oa 0 oc] 25)).alloc (.cells #[.slice none 0 0, .slice none 0 0] 25)) w.heap.size (w.heap.size + 1) (.slice a n cap) (.slice oa 0 oc)) := by
    have h1 : CBo (w.alloc (.cells #[.slice a n cap, .slice oa 0 oc] 25)) w.heap.size (.slice a n cap) (.slice oa 0 oc) := heap_alloc_new w _
    have h2 := h1.below (below_alloc _ (.cells #[.slice none 0 0, .slice none 0 0] 25))
    have h3 := heap_alloc_new (w.alloc (.cells #[.slice a n cap, .slice oa 0 oc] 25)) (.cells #[.slice none 0 0, .slice none 0 0] 25)
    rw [World.size_alloc] at h3
    exact ⟨h2.cells.1, h2.cells.2, h2, h3, chn (below_alloc w _) (below_alloc _ _), Nat.le_refl _, Nat.lt_succ_self _⟩
  clear hp hpl hlp hm hn hnn
  unfold CopP
  rw [← HN.out]
  go_enter Try.func18, Try.ntmps18
  go_wp2_with fail
  have HS1 := HS0
  generalize (w.alloc (.cells #[.slice a n cap, .slice oa 0 oc] 25)).alloc (.cells #[.slice none 0 0, .slice none 0 0] 25) = W1 at *
  obtain ⟨c0, c1, kr0⟩ := HS1.out
  go_cut [] from 4 (fun wc => ∃ g g2, Hid (CL w wc w.heap.size (w.heap.size + 1) g g2 ps l))
  case first =>
    go_region_with (first
      | (go_at_call 24; refine (cp_S1 (W := w) (b := w.heap.size) (c := w.heap.size + 1) (pv := .slice a n cap) (ov := .slice oa 0 oc) HLL.out HPL.out hl4 (by first | exact HS1.out | exact HS1.out.drew)).mono ?_; rintro e wa ⟨g1, rfl, hpb, hs1, hcl⟩; obtain ⟨y0, y1, ykr⟩ := hs1)
      | (go_at_call 25; refine (cp_S2 (W := w) (b := w.heap.size) (c := w.heap.size + 1) (pv := .slice a n cap) (ov := .slice oa 0 oc) ⟨y0, y1, ykr⟩).mono ?_; rintro e wb ⟨g2, rfl, her, hs2, hbl⟩; obtain ⟨k0, k1, kr⟩ := hs2; obtain ⟨f0, k2, f1, kst⟩ := two_st kr.1 (.slice (some ⟨g1, 0, none⟩) n n) (.slice (some ⟨g2, 0, none⟩) 0 0)))
    all_goals (
      have HCL : Hid (CL w ((wb.setCell ⟨w.heap.size, 0, none⟩ (.slice (some ⟨g1, 0, none⟩) n n)).setCell ⟨w.heap.size, 1, none⟩ (.slice (some ⟨g2, 0, none⟩) 0 0)) w.heap.size (w.heap.size + 1) g1 g2 ps l) := by
        exact cl_start HLP.out HPL.out HN.out kr hpb hcl hbl.1
      go_wp2_with fail
      go_meet)
    all_goals exact ⟨_, _, HCL⟩
  case rest =>
    obtain ⟨g, g2, HCL⟩ := hcut
    clear HS0 HS1 c0 c1 kr0 HPL HLL
    obtain ⟨bb, hbb⟩ : ∃ bb, bb = w.heap.size := ⟨_, rfl⟩
    obtain ⟨cc, hcc⟩ : ∃ cc, cc = w.heap.size + 1 := ⟨_, rfl⟩
    rw [← hcc, ← hbb] at HCL
    rw [← hcc, ← hbb]
    have HBB := Lib.hid hbb
    clear hbb hcc
    have HN2 := Lib.hid HN.out
    have k0 : wc.cell? ⟨bb, 0, none⟩ = some (.slice (some ⟨g, 0, none⟩) n n) := by rw [HN.out]; exact HCL.out.bx.cells.1
    go_wp2_with fail
    go_loopw [15] (fun i wr => ∃ k : Nat, k ≤ n ∧ i = .int .i64 k ∧ ∃ m, Hid (CL w wr bb cc g g2 ps m)) (fun i _ => n - (intOf i).toNat)
    case atStart => exact ⟨0, by omega, rfl, l, HCL⟩
    case round =>
      clear HCL k0
      obtain ⟨k, hk, rfl, m, HCL⟩ := hrel
      have k0 : wr.cell? ⟨bb, 0, none⟩ = some (.slice (some ⟨g, 0, none⟩) n n) := by rw [HN.out]; exact HCL.out.bx.cells.1
      have k1 : wr.cell? ⟨bb, 1, none⟩ = some (.slice (some ⟨g2, 0, none⟩) 0 0) := HCL.out.bx.cells.2
      by_cases hlt : k < n
      · obtain ⟨p, ta, tc, hp, hkm, d2, htk, hp4, hgs⟩ := HCL.out.at HN.out hlt HNN.out
        have hkI : (k : Int) < n := by omega
        have hk0 : (0 : Int) ≤ k := by omega
        have HST := Lib.hid (fun W' v q hv => CL.step (W' := W') (v := v) (k := k) HCL.out q hkm hv)
        rw [hp] at HST
        dsimp only at HST
        have HTKD : Hid (TK wr.drew (.slice ta p.n tc) p.n p.z) := htk
        have HPB := Lib.hid HCL.out.pb
        clear hp htk hkm
        generalize p.n = pn at *
        generalize p.z = pz at *
        go_wp2_with fail
        go_region_with (go_at_call 26; refine (cp_T (w := wr.drew) HTKD.out hp4 g hgs).mono ?_; rintro e wa ⟨gt, rfl, hto, hbd⟩; have hbl : Below wr.heap.size wr wa := ⟨hbd.os, hbd.tape, hbd.output, hbd.size, hbd.block⟩; clear hbd; have e0 : wa.cell? ⟨bb, 0, none⟩ = some (.slice (some ⟨g, 0, none⟩) n n) := (hbl.cell (World.block_lt_of_cell? _ _ k0)).trans k0; have e2 : wa.cell? ⟨g, k * 3 + 2, none⟩ = some (.slice ta pn tc) := (hbl.cell hgs).trans d2; have e3 : wa.frozen? ⟨g, k * 3 + 2, none⟩ = false := frozen_of_row _ _ _ _ _ (HPB.out.below hbl); have HCL2 := Lib.hid (HST.out wa _ hbl hto))
        all_goals (
          go_wp2_with fail
          go_roundw
          case rel => exact ⟨k + 1, by omega, by go_num, _, HCL2⟩
          case measure => simp [intOf]; omega)
      · obtain rfl : k = n := by omega
        have hcx := HCL.out.cx
        have j0 := hcx.cells.1
        have j1 := hcx.cells.2
        have f0 : wr.frozen? ⟨cc, 0, none⟩ = false := frozen_of_row _ _ _ _ _ hcx
        have h2 := heap_setCell_same wr cc 0 _ _ (.slice (some ⟨g, 0, none⟩) k k) hcx
        have j2 : (wr.setCell ⟨cc, 0, none⟩ (.slice (some ⟨g, 0, none⟩) k k)).cell? ⟨cc, 1, none⟩ = some (.slice none 0 0) := cell_of_row _ _ 1 _ _ _ h2
        have f1 : (wr.setCell ⟨cc, 0, none⟩ (.slice (some ⟨g, 0, none⟩) k k)).frozen? ⟨cc, 1, none⟩ = false := frozen_of_row _ _ _ _ _ h2
        clear hcx h2
        obtain ⟨d0, d1, d2, d3, d4⟩ := HCL.out.done (.slice (some ⟨g, 0, none⟩) k k) (.slice (some ⟨g2, 0, none⟩) 0 0)
        have D1 := Lib.hid d1; have D2 := Lib.hid d2; have D3 := Lib.hid d3; have D4 := Lib.hid d4
        have DE := Lib.hid HCL.out.eq
        obtain ⟨e0, e1⟩ := d0.cells
        have E0 := Lib.hid e0; have E1 := Lib.hid e1
        clear d0 d1 d2 d3 d4 e0 e1 HCL
        go_wp2_with fail
        have e0 := E0.out; have e1 := E1.out
        refine bodyPost_ret (v := .agg #[.slice (some ⟨g, 0, none⟩) k k, .slice (some ⟨g2, 0, none⟩) 0 0]) (by simp [results, Try.results18, go_sem, e0, e1]) rfl ?_
        exact ⟨g, g2, m, rfl, D2.out, D1.out, DE.out, D3.out, D4.out⟩
end Go.Proofs.Ytbdiekolkniajaa
