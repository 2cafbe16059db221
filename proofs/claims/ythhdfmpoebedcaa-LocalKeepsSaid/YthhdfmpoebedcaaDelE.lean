/- lookAt; Wait, More, Of: the program's. -/
import Derived.Test.YthhdfmpoebedcaaDelD
namespace Go.Proofs.Ythhdfmpoebedcaa
open Go.RowKit Tk De Dl Go.Sort
set_option linter.unusedVariables false

theorem heap_set_same {w : World} {b i : Nat} {c : Array Value} {t : TypeId} {v : Value} (h : w.heap[b]? = some (.cells c t (0, 0))) : (w.setCell ⟨b, i, none⟩ v).heap[b]? = some (.cells (c.setIfInBounds i v) t (0, 0)) := heap_setCell_same _ _ _ _ _ _ h
/-- five cells are written -/
theorem five_end {W : World} {b : Nat} {x0 x1 x2 x3 x4 : Value} {t : TypeId} (v0 v1 v2 v3 v4 : Value) (h : W.heap[b]? = some (.cells #[x0, x1, x2, x3, x4] t (0, 0))) (W' : World)
    (hW : W' = ((((W.setCell ⟨b, 0, none⟩ v0).setCell ⟨b, 1, none⟩ v1).setCell ⟨b, 2, none⟩ v2).setCell ⟨b, 3, none⟩ v3).setCell ⟨b, 4, none⟩ v4) :
    (W'.cell? ⟨b, 0, none⟩ = some v0 ∧ W'.cell? ⟨b, 1, none⟩ = some v1 ∧ W'.cell? ⟨b, 2, none⟩ = some v2 ∧ W'.cell? ⟨b, 3, none⟩ = some v3 ∧ W'.cell? ⟨b, 4, none⟩ = some v4) ∧ Below b W W' := by
  subst hW
  have hk := heap_set_same (i := 4) (v := v4) (heap_set_same (i := 3) (v := v3) (heap_set_same (i := 2) (v := v2) (heap_set_same (i := 1) (v := v1) (heap_set_same (i := 0) (v := v0) h))))
  have hk2 : (((((W.setCell ⟨b, 0, none⟩ v0).setCell ⟨b, 1, none⟩ v1).setCell ⟨b, 2, none⟩ v2).setCell ⟨b, 3, none⟩ v3).setCell ⟨b, 4, none⟩ v4).heap[b]? = some (.cells #[v0, v1, v2, v3, v4] t (0, 0)) := hk
  exact ⟨⟨cell_of_row _ _ 0 _ _ _ hk2, cell_of_row _ _ 1 _ _ _ hk2, cell_of_row _ _ 2 _ _ _ hk2, cell_of_row _ _ 3 _ _ _ hk2, cell_of_row _ _ 4 _ _ _ hk2⟩,
    (((((Below.refl b W).setCell (p := ⟨b, 0, none⟩) (Nat.le_refl _) _).setCell (p := ⟨b, 1, none⟩) (Nat.le_refl _) _).setCell (p := ⟨b, 2, none⟩) (Nat.le_refl _) _).setCell (p := ⟨b, 3, none⟩) (Nat.le_refl _) _).setCell (p := ⟨b, 4, none⟩) (Nat.le_refl _) _⟩
abbrev lz0 : Value := .agg #[.int .i64 0, .int .i64 0, .slice none 0 0, .slice none 0 0, .int .i64 0]
def lzo : Obj := .cells #[.int .i64 0, .int .i64 0, .slice none 0 0, .slice none 0 0, .int .i64 0] 82
/-- the result's box, ahead of the store -/
structure RB (w W : World) : Prop where
  k : W.heap[w.heap.size]? = some (.cells #[.int .i64 0, .int .i64 0, .slice none 0 0, .slice none 0 0, .int .i64 0] 82 (0, 0))
  b : Below w.heap.size w W
theorem RB.start (w : World) : RB w (w.alloc lzo) := ⟨heap_alloc_new w lzo, (Below.refl _ w).alloc (Nat.le_refl _) _⟩
theorem RB.below {w W W' : World} (h : RB w W) (b : Below W.heap.size W W') : RB w W' := ⟨(b.block _ (lt_of_block h.k)).trans h.k, chn h.b b⟩
theorem RB.c {w W : World} (h : RB w W) : W.cell? ⟨w.heap.size, 0, none⟩ = some (.int .i64 0) ∧ W.cell? ⟨w.heap.size, 1, none⟩ = some (.int .i64 0) ∧ W.cell? ⟨w.heap.size, 2, none⟩ = some (.slice none 0 0) ∧ W.cell? ⟨w.heap.size, 3, none⟩ = some (.slice none 0 0) ∧ W.cell? ⟨w.heap.size, 4, none⟩ = some (.int .i64 0) :=
  ⟨cell_of_row _ _ 0 _ _ _ h.k, cell_of_row _ _ 1 _ _ _ h.k, cell_of_row _ _ 2 _ _ _ h.k, cell_of_row _ _ 3 _ _ _ h.k, cell_of_row _ _ 4 _ _ _ h.k⟩
theorem RB.f {w W : World} (h : RB w W) : W.frozen? ⟨w.heap.size, 0, none⟩ = false ∧ W.frozen? ⟨w.heap.size, 1, none⟩ = false ∧ W.frozen? ⟨w.heap.size, 2, none⟩ = false ∧ W.frozen? ⟨w.heap.size, 3, none⟩ = false ∧ W.frozen? ⟨w.heap.size, 4, none⟩ = false :=
  ⟨frozen_of_row _ _ 0 _ _ h.k, frozen_of_row _ _ 1 _ _ h.k, frozen_of_row _ _ 2 _ _ h.k, frozen_of_row _ _ 3 _ _ h.k, frozen_of_row _ _ 4 _ _ h.k⟩
theorem checkp_fit {w : World} {v : Value} {ps : List Pn} {E : Int} (hE : chkPE ps = E) (h : PS w v ps) : Calls Try.prog 51 #[v] w (YI E w) := by subst hE; exact checkp_any h
set_option maxRecDepth 100000 in
set_option maxHeartbeats 4000000 in
theorem look_bad {w : World} {a : Option Addr} {m cap : Nat} {ps : List Pn} (hP : PS w (.slice a m cap) ps) (hok : chkP ps = false) (q : Int) :
    Calls Try.prog 40 #[.slice a m cap, .int .i64 q] w (fun e w' => e = .returned (.tuple #[lz0, .int .i64 2]) ∧ Below w.heap.size w w') := by
  have HR := Lib.hid (RB.start w)
  have HC := Lib.hid (checkp_fit (E := 2) (by unfold chkPE; rw [hok]; rfl) (hP.below HR.out.b))
  unfold lzo at HR HC
  clear hP hok
  go_enter Try.func40, Try.ntmps40
  go_wp2_with fail
  refine HC.out.mono ?_
  rintro e w1 ⟨rfl, hb⟩
  have HR1 := Lib.hid (HR.out.below hb)
  obtain ⟨c0, c1, c2, c3, c4⟩ := HR1.out.c
  obtain ⟨g0, g1, g2, g3, g4⟩ := HR1.out.f
  clear hb HC
  go_wp2_with fail
  clear c0 c1 c2 c3 c4 g0 g1 g2 g3 g4
  obtain ⟨⟨e0, e1, e2, e3, e4⟩, eb⟩ := five_end (.int .i64 0) (.int .i64 0) (.slice none 0 0) (.slice none 0 0) (.int .i64 0) HR1.out.k _ rfl
  refine bodyPost_ret (v := .tuple #[lz0, .int .i64 2]) (by simp [results, Try.results40, go_sem, e0, e1, e2, e3, e4]) rfl ?_
  exact ⟨rfl, HR1.out.b.trans eb⟩
set_option maxRecDepth 100000 in
set_option maxHeartbeats 4000000 in
theorem look_far {w : World} {a : Option Addr} {m cap : Nat} {ps : List Pn} (hP : PS w (.slice a m cap) ps) (hok : chkP ps = true) {q : Int} (hq : one m q = false) :
    Calls Try.prog 40 #[.slice a m cap, .int .i64 q] w (fun e w' => e = .returned (.tuple #[lz0, .int .i64 9]) ∧ Below w.heap.size w w') := by
  have HR := Lib.hid (RB.start w)
  have HC := Lib.hid (checkp_fit (E := 0) (by unfold chkPE; rw [hok]; rfl) (hP.below HR.out.b))
  have HO := Lib.hid (fun W => one_fit hq W (by have := hP.len; have := chkP_len hok; unfold maxLen; omega))
  unfold lzo at HR HC
  clear hP hok hq
  go_enter Try.func40, Try.ntmps40
  go_wp2_with fail
  refine HC.out.mono ?_
  rintro e w1 ⟨rfl, hb⟩
  have HR1 := Lib.hid (HR.out.below hb)
  clear hb HC HR
  go_wp2_with fail
  refine (HO.out _).mono ?_
  rintro e w2 ⟨rfl, rfl⟩
  obtain ⟨c0, c1, c2, c3, c4⟩ := HR1.out.c
  obtain ⟨g0, g1, g2, g3, g4⟩ := HR1.out.f
  go_wp2_with fail
  clear c0 c1 c2 c3 c4 g0 g1 g2 g3 g4
  obtain ⟨⟨e0, e1, e2, e3, e4⟩, eb⟩ := five_end (.int .i64 0) (.int .i64 0) (.slice none 0 0) (.slice none 0 0) (.int .i64 0) HR1.out.k _ rfl
  refine bodyPost_ret (v := .tuple #[lz0, .int .i64 9]) (by simp [results, Try.results40, go_sem, e0, e1, e2, e3, e4]) rfl ?_
  exact ⟨rfl, HR1.out.b.trans eb⟩
set_option maxRecDepth 100000 in
set_option maxHeartbeats 4000000 in
theorem look_yes {w : World} {a : Option Addr} {m cap : Nat} {ps : List Pn} (hP : PS w (.slice a m cap) ps) (hok : chkP ps = true) {q : Nat} (hq : q < m) :
    Calls Try.prog 40 #[.slice a m cap, .int .i64 q] w (fun e w' => ∃ ta tcap, e = .returned (.tuple #[lkv ps a m cap q ta tcap, .int .i64 0]) ∧ LK w' ps a m cap q ta tcap ∧ Below w.heap.size w w') := by
  have HR := Lib.hid (RB.start w)
  have HP := Lib.hid hP
  have HC := Lib.hid (checkp_fit (E := 0) (by unfold chkPE; rw [hok]; rfl) (hP.below HR.out.b))
  have HO := Lib.hid (fun W => one_fit (R := true) (one_iff.2 ⟨Int.natCast_nonneg q, by omega⟩) W (by have := hP.len; have := chkP_len hok; unfold maxLen; omega : m ≤ maxLen))
  have HOK := Lib.hid hok
  unfold lzo at HR HC
  clear hP hok
  go_enter Try.func40, Try.ntmps40
  go_wp2_with fail
  refine HC.out.mono ?_
  rintro e w1 ⟨rfl, hb⟩
  have HR1 := Lib.hid (HR.out.below hb)
  clear hb HC HR
  go_wp2_with fail
  refine (HO.out _).mono ?_
  rintro e w2 ⟨rfl, rfl⟩
  obtain ⟨b, off, ta, tcap, rfl, d0, d1, d2, hT, l1, l2, l3⟩ := HP.out.at hq
  have HLK : Hid (∀ W, Below w.heap.size w W → LK W ps (some ⟨b, off, none⟩) m cap q ta tcap) := fun W hW => ⟨HP.out.below hW, HOK.out, hq, hT.below hW, l1, l2⟩
  have d0 := (HR1.out.b.cell (World.block_lt_of_cell? _ _ d0)).trans d0
  have d1 := (HR1.out.b.cell (World.block_lt_of_cell? _ _ d1)).trans d1
  have d2 := (HR1.out.b.cell (World.block_lt_of_cell? _ _ d2)).trans d2
  obtain ⟨p, hp⟩ : ∃ p, p = ps.getD q p0 := ⟨_, rfl⟩
  rw [← hp] at d0 d1 d2
  have HPP := Lib.hid hp
  have hqm : (q : Int) < m := by omega
  have hq0 : (0 : Int) ≤ q := by omega
  clear hp hT l1 l2 l3
  obtain ⟨per, bud, n, z⟩ := p
  dsimp only at d0 d1 d2
  obtain ⟨c0, c1, c2, c3, c4⟩ := HR1.out.c
  obtain ⟨g0, g1, g2, g3, g4⟩ := HR1.out.f
  go_wp2_with fail
  clear c0 c1 c2 c3 c4 g0 g1 g2 g3 g4 d0 d1 d2
  obtain ⟨⟨e0, e1, e2, e3, e4⟩, eb⟩ := five_end (.int .i64 per) (.int .i64 bud) (.slice ta n tcap) (.slice (some ⟨b, off, none⟩) m cap) (.int .i64 q) HR1.out.k _ rfl
  refine bodyPost_ret (v := .tuple #[lv per bud ta n tcap (some ⟨b, off, none⟩) m cap q, .int .i64 0]) (by simp [results, Try.results40, go_sem, e0, e1, e2, e3, e4]) rfl ?_
  have hB := HR1.out.b.trans eb
  exact ⟨ta, tcap, by unfold lkv; rw [← HPP.out], HLK.out _ hB, hB⟩
theorem look_no {w : World} {a : Option Addr} {m cap : Nat} {ps : List Pn} (hP : PS w (.slice a m cap) ps) {q E : Int} (h : (chkP ps = false ∧ E = 2) ∨ (chkP ps = true ∧ one m q = false ∧ E = 9)) :
    Calls Try.prog 40 #[.slice a m cap, .int .i64 q] w (fun e w' => e = .returned (.tuple #[lz0, .int .i64 E]) ∧ Below w.heap.size w w') := by
  rcases h with ⟨h, rfl⟩ | ⟨h, h2, rfl⟩
  · exact look_bad hP h q
  · exact look_far hP h h2
/-- what stands between a call and its answer: refused, with which error; or it is one of them -/
theorem look_cases {ps : List Pn} {m : Nat} (hm : m = ps.length) (q : Int) : (∃ E : Int, ((chkP ps = false ∧ E = 2) ∨ (chkP ps = true ∧ one m q = false ∧ E = 9)) ∧ (E != 0) = true) ∨ ∃ k : Nat, q = k ∧ k < m ∧ chkP ps = true := by
  cases h : chkP ps with
  | false => exact Or.inl ⟨2, Or.inl ⟨rfl, rfl⟩, by decide⟩
  | true =>
    cases h2 : one m q with
    | false => exact Or.inl ⟨9, Or.inr ⟨rfl, rfl, rfl⟩, by decide⟩
    | true =>
      have := one_iff.1 h2
      exact Or.inr ⟨q.toNat, by omega, by omega, rfl⟩
theorem waR_no {ps : List Pn} {m : Nat} (hm : m = ps.length) {q E : Int} (k : Int) (h : (chkP ps = false ∧ E = 2) ∨ (chkP ps = true ∧ one m q = false ∧ E = 9)) : waR ps q k = (0, E) := by
  unfold waR
  rcases h with ⟨h, rfl⟩ | ⟨h, h2, rfl⟩
  · rw [h]; rfl
  · rw [h, if_pos rfl, if_neg (fun hc => by rw [one_iff.2 ⟨hc.1, by omega⟩] at h2; cases h2)]
theorem moR_no {ps : List Pn} {m : Nat} (hm : m = ps.length) {q E : Int} (h : (chkP ps = false ∧ E = 2) ∨ (chkP ps = true ∧ one m q = false ∧ E = 9)) : moR ps q = ([], E) := by
  unfold moR
  rcases h with ⟨h, rfl⟩ | ⟨h, h2, rfl⟩
  · rw [h]; rfl
  · rw [h, if_pos rfl, if_neg (fun hc => by rw [one_iff.2 ⟨hc.1, by omega⟩] at h2; cases h2)]
theorem deR_no {ps : List Pn} {m : Nat} (hm : m = ps.length) {q E : Int} (T : Int) (h : (chkP ps = false ∧ E = 2) ∨ (chkP ps = true ∧ one m q = false ∧ E = 9)) : deR ps q T = (0, E) := by
  unfold deR
  rcases h with ⟨h, rfl⟩ | ⟨h, h2, rfl⟩
  · rw [h]; rfl
  · rw [h, if_pos rfl, if_neg (fun hc => by rw [one_iff.2 ⟨hc.1, by omega⟩] at h2; cases h2)]
/-- the box of the one that is looked at -/
structure LB (w W : World) (per bud : Int) (ta : Option Addr) (n tcap : Nat) (a : Option Addr) (m cap q : Nat) : Prop where
  k : W.heap[w.heap.size]? = some (lvo per bud ta n tcap a m cap q)
  b : Below w.heap.size w W
theorem LB.start (w : World) (per bud : Int) (ta : Option Addr) (n tcap : Nat) (a : Option Addr) (m cap q : Nat) : LB w (w.alloc (lvo per bud ta n tcap a m cap q)) per bud ta n tcap a m cap q := ⟨heap_alloc_new w _, (Below.refl _ w).alloc (Nat.le_refl _) _⟩
theorem LB.below {w W W' : World} {per bud : Int} {ta : Option Addr} {n tcap : Nat} {a : Option Addr} {m cap q : Nat} (h : LB w W per bud ta n tcap a m cap q) (b : Below W.heap.size W W') : LB w W' per bud ta n tcap a m cap q := ⟨(b.block _ (lt_of_block h.k)).trans h.k, chn h.b b⟩
theorem LB.c {w W : World} {per bud : Int} {ta : Option Addr} {n tcap : Nat} {a : Option Addr} {m cap q : Nat} (h : LB w W per bud ta n tcap a m cap q) :
    W.cell? ⟨w.heap.size, 0, none⟩ = some (.int .i64 per) ∧ W.cell? ⟨w.heap.size, 1, none⟩ = some (.int .i64 bud) ∧ W.cell? ⟨w.heap.size, 2, none⟩ = some (.slice ta n tcap) ∧ W.cell? ⟨w.heap.size, 3, none⟩ = some (.slice a m cap) ∧ W.cell? ⟨w.heap.size, 4, none⟩ = some (.int .i64 q) := by
  have hk := h.k
  unfold lvo at hk
  exact ⟨cell_of_row _ _ 0 _ _ _ hk, cell_of_row _ _ 1 _ _ _ hk, cell_of_row _ _ 2 _ _ _ hk, cell_of_row _ _ 3 _ _ _ hk, cell_of_row _ _ 4 _ _ _ hk⟩
end Go.Proofs.Ythhdfmpoebedcaa
