/- Two arrays beside a play: who had something locked, whose section was waited for (P18.8). -/
import Derived.Test.YtkkmfpllgjoceaaGreatRooZ
import Derived.Test.YtkkmfpllgjoceaaGreatRooWa
namespace Go.Proofs.YtkkmfpllgjoceaaGreat.Ro
open Go.RowKit Go.Sort Ac Jo
set_option linter.unusedVariables false
set_option maxRecDepth 100000

def hcl (f : Int → Int → Bool) : Array Value := jcl 16 (fun i => .bool (f ((i / 4 : Nat) : Int) ((i % 4 : Nat) : Int)))
def ycl (f : Int → Int) : Array Value := jcl 4 (fun i => .int .i64 (f (i : Int)))
def updB (f : Int → Int → Bool) (t k : Int) (b : Bool) : Int → Int → Bool := fun a c => if a = t ∧ c = k then b else f a c
theorem hcl_set (f : Int → Int → Bool) {t k : Nat} (ht : t < 4) (hk : k < 4) (b : Bool) : (hcl f).setIfInBounds (t * 4 + k) (.bool b) = hcl (updB f t k b) := by
  unfold hcl
  rw [jcl_set]
  refine jcl_ext fun i hi => ?_
  unfold updB
  by_cases e : i = t * 4 + k
  · rw [if_pos e, if_pos ⟨by omega, by omega⟩]
  · rw [if_neg e, if_neg (by omega)]
theorem ycl_set (f : Int → Int) (t : Nat) (x : Int) : (ycl f).setIfInBounds t (.int .i64 x) = ycl (updI f t x) := by
  unfold ycl
  rw [jcl_set]
  refine jcl_ext fun i hi => ?_
  unfold updI
  by_cases e : i = t
  · subst e; rw [if_pos rfl, if_pos rfl]
  · rw [if_neg e, if_neg (by omega)]
theorem hcl_at (f : Int → Int → Bool) {t k : Nat} (ht : t < 4) (hk : k < 4) : (hcl f)[t * 4 + k]? = some (.bool (f t k)) := by
  unfold hcl
  rw [jcl_at _ _ _ (by omega), show (t * 4 + k) / 4 = t by omega, show (t * 4 + k) % 4 = k by omega]
theorem ycl_at (f : Int → Int) {t : Nat} (ht : t < 4) : (ycl f)[t]? = some (.int .i64 (f t)) := by unfold ycl; rw [jcl_at _ _ _ ht]
def XW (hb yb : Nat) (had : Int → Int → Bool) (wh : Int → Int) : Nat → Option Obj := fun k =>
  if k = hb then some (.cells (hcl had) 51 (0, 0)) else if k = yb then some (.cells (ycl wh) 52 (0, 0)) else none
theorem XW_some {hb yb : Nat} {had : Int → Int → Bool} {wh : Int → Int} {k : Nat} : (XW hb yb had wh k).isSome = true ↔ k = hb ∨ k = yb := by
  unfold XW
  by_cases e : k = hb
  · rw [if_pos e]; exact ⟨fun _ => Or.inl e, fun _ => rfl⟩
  · rw [if_neg e]
    by_cases e2 : k = yb
    · rw [if_pos e2]; exact ⟨fun _ => Or.inr e2, fun _ => rfl⟩
    · rw [if_neg e2]; exact ⟨fun h => by simp at h, fun h => by rcases h with h | h; exact absurd h e; exact absurd h e2⟩
section
variable {X X' : Nat → Option Obj} {Q : Rprg} {B : Nat} {W w w' : World} {pb rb : Nat} {tv ov : Value} {s : Rm} {now : Int} {O : List Int}
/-- what lies beside it is written -/
theorem PL.reX (h : PL X Q B W w pb rb tv ov s now O) (q : Only (fun k => (X k).isSome = true) w w') (hX : ∀ k, (X' k).isSome = true → (X k).isSome = true) (hx : ∀ k o, X' k = some o → w'.heap[k]? = some o) : PL X' Q B W w' pb rb tv ov s now O := by
  have hF : ∀ k, PF X' pb tv ov k → PF X pb tv ov k := fun k hk => by
    rcases hk with e | e | e | e
    · exact Or.inl e
    · exact Or.inr (Or.inl e)
    · exact Or.inr (Or.inr (Or.inl e))
    · exact Or.inr (Or.inr (Or.inr (hX k e)))
  have ht := own_ge h.tk
  have hv := own_ge h.od
  have hn : ∀ k, k < w.heap.size → ¬ (X k).isSome = true → w'.heap[k]? = w.heap[k]? := fun k hk hne => q.block k hk hne
  refine ⟨(hn pb (lt_of_block h.ob) (fun e => (h.x1 pb e).2.1 rfl)).trans h.ob, row_keep h.tk (fun k hk => hn k (ht k hk).2 (fun e => (h.x1 k e).2.2.1 hk)), row_keep h.od (fun k hk => hn k (hv k hk).2 (fun e => (h.x1 k e).2.2.2 hk)), ?_, h.d1, h.d2, h.d3, h.pbB, hx, fun k hk => h.x1 k (hX k hk)⟩
  refine h.rm.to (F := PF X pb tv ov) ⟨q.os, q.tape, q.output, q.size, fun k hk hne => q.block k hk (fun e => hne (Or.inr (Or.inr (Or.inr e))))⟩ ?_ (fun k hk => Or.inl (hF k hk))
  rintro k (rfl | hk | hk | hk)
  · exact h.pbB
  · exact (ht k hk).1
  · exact (hv k hk).1
  · exact (h.x1 k hk).1
/-- a block more lies beside it -/
theorem PL.addX (h : PL X Q B W w pb rb tv ov s now O) (q : Below w.heap.size w w') (hX : ∀ k o, X' k = some o → X k = some o ∨ (w.heap.size ≤ k ∧ w'.heap[k]? = some o)) : PL X' Q B W w' pb rb tv ov s now O := by
  have ht := own_ge h.tk
  have hv := own_ge h.od
  have hp := lt_of_block h.ob
  have hs := h.rm.szw
  have hX' : ∀ k, (X' k).isSome = true → (X k).isSome = true ∨ (w.heap.size ≤ k ∧ k < w'.heap.size) := fun k hk => by
    obtain ⟨o, ho⟩ := Option.isSome_iff_exists.1 hk
    rcases hX k o ho with e | ⟨e, e2⟩
    · left; rw [e]; rfl
    · exact Or.inr ⟨e, lt_of_block e2⟩
  refine ⟨(q.block pb hp).trans h.ob, row_keep h.tk (fun k hk => q.block k (ht k hk).2), row_keep h.od (fun k hk => q.block k (hv k hk).2), ?_, h.d1, h.d2, h.d3, h.pbB, fun k o hk => ?_, fun k hk => ?_⟩
  · refine h.rm.to (F := PF X pb tv ov) (Only.of_below q) ?_ (fun k hk => ?_)
    · rintro k (rfl | hk | hk | hk)
      · exact h.pbB
      · exact (ht k hk).1
      · exact (hv k hk).1
      · exact (h.x1 k hk).1
    · rcases hk with e | e | e | e
      · exact Or.inl (Or.inl e)
      · exact Or.inl (Or.inr (Or.inl e))
      · exact Or.inl (Or.inr (Or.inr (Or.inl e)))
      · rcases hX' k e with e | e
        · exact Or.inl (Or.inr (Or.inr (Or.inr e)))
        · exact Or.inr e
  · rcases hX k o hk with e | ⟨_, e⟩
    · exact (q.block k (lt_of_block (h.xk k o e))).trans (h.xk k o e)
    · exact e
  · rcases hX' k hk with e | ⟨e, _⟩
    · exact h.x1 k e
    · exact ⟨by omega, by omega, fun y => by have := (ht k y).2; omega, fun y => by have := (hv k y).2; omega⟩
end
/-- a play and the two arrays, between two rounds -/
structure WS (B : Nat) (W wr : World) (pb rb hb yb : Nat) (tv : Value) (n : Nat) (j : Nat) (s : Rm) (now : Int) (O : List Int) (ov : Value) (had : Int → Int → Bool) (wh : Int → Int) : Prop where
  ps : PS (XW hb yb had wh) B W wr pb rb tv n j s now O ov
  ne : hb ≠ yb
section
variable {B : Nat} {W wr w' : World} {pb rb hb yb n j : Nat} {tv ov : Value} {s : Rm} {now : Int} {O : List Int} {had : Int → Int → Bool} {wh : Int → Int}
theorem WS.below (h : WS B W wr pb rb hb yb tv n j s now O ov had wh) (q : Below wr.heap.size wr w') : WS B W w' pb rb hb yb tv n j s now O ov had wh := ⟨h.ps.below q, h.ne⟩
theorem WS.hh (h : WS B W wr pb rb hb yb tv n j s now O ov had wh) : wr.heap[hb]? = some (.cells (hcl had) 51 (0, 0)) := h.ps.pl.xk _ _ (if_pos rfl)
theorem WS.yh (h : WS B W wr pb rb hb yb tv n j s now O ov had wh) : wr.heap[yb]? = some (.cells (ycl wh) 52 (0, 0)) := h.ps.pl.xk _ _ (by unfold XW; rw [if_neg (Ne.symm h.ne), if_pos rfl])
theorem WS.step (h : WS B W wr pb rb hb yb tv n j s now O ov had wh) (hj : j < 150) {x : Int} (hx0 : 0 ≤ x) (hx1 : x < 9600) :
    Calls Tryz.prog 16 #[.pointer (some ⟨pb, 0, none⟩), .int .i64 x] wr (fun e w' => e = .returned (.bool true) ∧ ∃ ov', WS B W w' pb rb hb yb tv n (j + 1) (stepS s now x) (stepN s now x) (stepO s x O) ov' had wh) :=
  (h.ps.step hj hx0 hx1).mono fun e w' q => ⟨q.1, q.2.choose, q.2.choose_spec, h.ne⟩
theorem WS.dead (h : WS B W wr pb rb hb yb tv n j s now O ov had wh) (t : Int) {v : Value} (e : deadV s t = v) :
    Calls Tryz.prog 17 #[.pointer (some ⟨rb, 0, none⟩), .int .i64 t] wr (VB v wr) := by
  obtain ⟨S, h1⟩ := h.ps.pl.rm.at
  rw [← e]
  exact Q0.dead h1 h.ps.pl.rm.iv t
theorem WS.who (h : WS B W wr pb rb hb yb tv n j s now O ov had wh) {v : Value} (e : whoV s = v) :
    Calls Tryz.prog 19 #[.pointer (some ⟨rb, 0, none⟩)] wr (VB v wr) := by
  obtain ⟨S, h1⟩ := h.ps.pl.rm.at
  rw [← e]
  exact Q0.who h1 h.ps.pl.rm.iv
theorem WS.held (h : WS B W wr pb rb hb yb tv n j s now O ov had wh) (t : Int) :
    Calls Tryz.prog 18 #[.pointer (some ⟨rb, 0, none⟩), .int .i64 t] wr (NumP wr (heldV s t)) := held_at (w' := wr) h.ps.pl.rm t
/-- who had something locked, set -/
theorem WS.sethad (h : WS B W wr pb rb hb yb tv n j s now O ov had wh) {t k : Nat} (ht : t < 4) (hk : k < 4) (b : Bool) {o : Nat} (ho : o = t * 4 + k) : WS B W (wr.setCell ⟨hb, o, none⟩ (.bool b)) pb rb hb yb tv n j s now O ov (updB had t k b) wh := by
  subst ho
  refine ⟨⟨h.ps.pl.reX (Only.set wr _ _ (XW_some.2 (Or.inl rfl))) (fun k hk => XW_some.2 (XW_some.1 hk)) (fun a q hq => ?_), h.ps.hp, h.ps.od, h.ps.n1, h.ps.ol, h.ps.nn⟩, h.ne⟩
  unfold XW at hq
  by_cases e : a = hb
  · subst e
    rw [if_pos rfl] at hq
    injection hq with hq
    rw [← hq, ← hcl_set had ht hk]
    exact heap_setCell_same wr _ _ _ _ _ h.hh
  · rw [if_neg e] at hq
    by_cases e2 : a = yb
    · subst e2
      rw [if_pos rfl] at hq
      injection hq with hq
      rw [← hq]
      exact (Below.heap_setCell _ _ _ _ e).trans h.yh
    · rw [if_neg e2] at hq; cases hq
theorem WS.setby (h : WS B W wr pb rb hb yb tv n j s now O ov had wh) {t : Nat} (ht : t < 4) (x : Int) {o : Nat} (ho : o = t) : WS B W (wr.setCell ⟨yb, o, none⟩ (.int .i64 x)) pb rb hb yb tv n j s now O ov had (updI wh t x) := by
  subst ho
  refine ⟨⟨h.ps.pl.reX (Only.set wr _ _ (XW_some.2 (Or.inr rfl))) (fun k hk => XW_some.2 (XW_some.1 hk)) (fun a q hq => ?_), h.ps.hp, h.ps.od, h.ps.n1, h.ps.ol, h.ps.nn⟩, h.ne⟩
  unfold XW at hq
  by_cases e : a = hb
  · subst e
    rw [if_pos rfl] at hq
    injection hq with hq
    rw [← hq]
    exact (Below.heap_setCell _ _ _ _ h.ne).trans h.hh
  · rw [if_neg e] at hq
    by_cases e2 : a = yb
    · subst e2
      rw [if_pos rfl] at hq
      injection hq with hq
      rw [← hq, ← ycl_set wh]
      exact heap_setCell_same wr _ _ _ _ _ h.yh
    · rw [if_neg e2] at hq; cases hq
theorem WS.hcell (h : WS B W wr pb rb hb yb tv n j s now O ov had wh) {t k : Nat} (ht : t < 4) (hk : k < 4) {o : Nat} (ho : o = t * 4 + k) : wr.cell? ⟨hb, o, none⟩ = some (.bool (had t k)) ∧ wr.frozen? ⟨hb, o, none⟩ = false := by
  subst ho
  exact ⟨(cell_of_row _ _ _ _ _ _ h.hh).trans (hcl_at had ht hk), frozen_of_row _ _ _ _ _ h.hh⟩
theorem WS.ycell (h : WS B W wr pb rb hb yb tv n j s now O ov had wh) {t : Nat} (ht : t < 4) {o : Nat} (ho : o = t) : wr.cell? ⟨yb, o, none⟩ = some (.int .i64 (wh t)) ∧ wr.frozen? ⟨yb, o, none⟩ = false := by
  subst ho
  exact ⟨(cell_of_row _ _ _ _ _ _ h.yh).trans (ycl_at wh ht), frozen_of_row _ _ _ _ _ h.yh⟩
/-- the two arrays are laid -/
theorem PS.arrays (h : PS (fun _ => none) B W wr pb rb tv n j s now O ov) : WS B W ((wr.alloc (.cells (hcl fun _ _ => false) 51)).alloc (.cells (ycl fun _ => 0) 52)) pb rb wr.heap.size (wr.heap.size + 1) tv n j s now O ov (fun _ _ => false) (fun _ => 0) := by
  have h1 : Below wr.heap.size wr ((wr.alloc (.cells (hcl fun _ _ => false) 51)).alloc (.cells (ycl fun _ => 0) 52)) := ((Below.refl _ _).alloc (Nat.le_refl _) _).alloc (by simp) _
  refine ⟨⟨h.pl.addX h1 (fun k o hk => ?_), h.hp, h.od, h.n1, h.ol, h.nn⟩, by omega⟩
  unfold XW at hk
  right
  by_cases e : k = wr.heap.size
  · subst e
    rw [if_pos rfl] at hk
    injection hk with hk
    refine ⟨Nat.le_refl _, ?_⟩
    rw [← hk]
    exact (((Below.refl (wr.alloc (.cells (hcl fun _ _ => false) 51)).heap.size _).alloc (Nat.le_refl _) (.cells (ycl fun _ => 0) 52)).block _ (by simp)).trans (heap_alloc_new wr _)
  · rw [if_neg e] at hk
    by_cases e2 : k = wr.heap.size + 1
    · subst e2
      rw [if_pos rfl] at hk
      injection hk with hk
      refine ⟨by omega, ?_⟩
      rw [← hk]
      have := heap_alloc_new (wr.alloc (.cells (hcl fun _ _ => false) 51)) (.cells (ycl fun _ => 0) 52)
      rw [show (wr.alloc (.cells (hcl fun _ _ => false) 51)).heap.size = wr.heap.size + 1 by simp] at this
      exact this
    · rw [if_neg e2] at hk; cases hk
end
section
variable {s : Rm} {now w x t : Int} {had : Int → Int → Bool} {wh : Int → Int}
/-- nothing is waited for at first -/
theorem Wt.no {n : Nat} {z : Nat → Nat → Int} : Wt (noRm n z) (fun _ _ => false) (fun _ => 0) := by
  have hd : ∀ t, ¬ 0 ≤ (noRm n z).dl t := fun t h => by
    have := (Rq.Rd.dl_in (L := Rq.Rd.noL n) (t := t) h)
    have h2 : Rq.Rd.dl (Rq.Rd.noL n) t = -1 := by
      simp only [Rq.Rd.dl, Rq.Rd.noL, List.getD_eq_getElem?_getD, List.getElem?_replicate]
      repeat' split
      all_goals rfl
    unfold noRm Rm.dl at h
    simp only at h
    omega
  exact ⟨fun t => Int.le_refl _, fun t k h _ _ => absurd h (hd t), fun t w h _ _ => absurd h (hd t), fun t w h _ _ _ _ => absurd h (hd t)⟩
/-- of each of the first k: for whom it has waited -/
def noteN (d : Int → Int) (w : Int) (wh : Int → Int) (k : Nat) : Int → Int := fun t => if t < k ∧ 0 ≤ t ∧ 0 ≤ d t ∧ d t < d w then w + 1 else wh t
theorem noteN_zero (d : Int → Int) (w : Int) (wh : Int → Int) : noteN d w wh 0 = wh := by funext t; unfold noteN; rw [if_neg (by omega)]
theorem noteN_yes {d : Int → Int} {w : Int} {wh : Int → Int} {k : Nat} (h : 0 ≤ d k) (h1 : d k < d w) : noteN d w wh (k + 1) = updI (noteN d w wh k) k (w + 1) := by
  funext t
  simp only [noteN, updI]
  by_cases e : t = k
  · subst e; rw [if_pos rfl, if_pos ⟨by omega, by omega, h, h1⟩]
  · rw [if_neg e]
    by_cases q : t < k ∧ 0 ≤ t ∧ 0 ≤ d t ∧ d t < d w
    · rw [if_pos q, if_pos ⟨by omega, q.2⟩]
    · rw [if_neg q, if_neg (fun y => q ⟨by omega, y.2⟩)]
theorem noteN_no {d : Int → Int} {w : Int} {wh : Int → Int} {k : Nat} (h : ¬ (0 ≤ d k ∧ d k < d w)) : noteN d w wh (k + 1) = noteN d w wh k := by
  funext t
  unfold noteN
  by_cases e : t = k
  · subst e; rw [if_neg (fun y => h y.2.2), if_neg (fun y => h y.2.2)]
  · by_cases q : t < k ∧ 0 ≤ t ∧ 0 ≤ d t ∧ d t < d w
    · rw [if_pos q, if_pos ⟨by omega, q.2⟩]
    · rw [if_neg q, if_neg (fun y => q ⟨by omega, y.2⟩)]
theorem noteN_all {d : Int → Int} {w : Int} {wh : Int → Int} {n : Nat} (h : ∀ t, 0 ≤ d t → 0 ≤ t ∧ t < n) : noteN d w wh n = note d w wh := by
  funext t
  unfold noteN note
  by_cases q : 0 ≤ d t ∧ d t < d w
  · have := h t q.1
    rw [if_pos q, if_pos ⟨this.2, this.1, q⟩]
  · rw [if_neg q, if_neg (fun y => q y.2.2)]
theorem noteN_at {d : Int → Int} {w : Int} {wh : Int → Int} (k : Nat) : noteN d w wh k k = wh k := by unfold noteN; rw [if_neg (by omega)]
end
end Go.Proofs.YtkkmfpllgjoceaaGreat.Ro
