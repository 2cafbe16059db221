/- A plan's purses in new memory, beside what has been planned; that they stand as the plain plan says. -/
import Derived.Test.YtfjeoefnpcgnnaaTurD
namespace Go.Proofs.Ytfjeoefnpcgnnaa.Pw
open Go.RowKit Go.Sort Pu
set_option linter.unusedVariables false
set_option maxRecDepth 100000

def setS {α : Type} (f : Nat → α) (k : Nat) (x : α) : Nat → α := fun i => if i = k then x else f i
theorem setS_at {α : Type} (f : Nat → α) (k : Nat) (x : α) : setS f k x k = x := if_pos rfl
theorem setS_ne {α : Type} (f : Nat → α) {k i : Nat} (x : α) (h : i ≠ k) : setS f k x i = f i := if_neg h
def ptr (c : Nat → Nat) (s : Nat → Option St) (i : Nat) : Value := .pointer ((s i).map fun _ => (⟨c i, 0, none⟩ : Addr))
/-- purses in new memory (from B0 on), their row in g; the row v of what has been planned (xs) -/
structure PM (PD : World → Nat → St → Prop) (T : TypeId) (B0 : Nat) (W w : World) (g m : Nat) (c : Nat → Nat) (s : Nat → Option St) (v : Value) (xs : List Int) : Prop where
  row : ∃ cur : Array Value, w.heap[g]? = some (.cells cur T (0, 0)) ∧ ∀ i, i < m → cur[i]? = some (ptr c s i)
  hg : B0 ≤ g
  pu : ∀ i x, i < m → s i = some x → PD w (c i) x ∧ B0 ≤ c i
  ap : ∀ i j x y, i < m → j < m → s i = some x → s j = some y → i ≠ j → c i ≠ c j
  nr : NR w B0 v xs
  bel : Below B0 W w
  le : B0 ≤ W.heap.size
section
variable {PD : World → Nat → St → Prop} {T : TypeId} {B0 : Nat} {W w w' : World} {g m : Nat} {c : Nat → Nat} {s : Nat → Option St} {v : Value} {xs : List Int}
theorem NR.keep (h : NR w B0 v xs) (hk : ∀ (j : Nat) (cur : Array Value) (fr : Nat × Nat), w.heap[j]? = some (Obj.cells cur 3 fr) → w'.heap[j]? = w.heap[j]?) : NR w' B0 v xs := by
  refine ⟨h.1, ?_⟩
  rcases h.2 with hn | ⟨g, cap, cur, rfl, hb, hgg, rest⟩
  · exact Or.inl hn
  · exact Or.inr ⟨g, cap, cur, rfl, hb, (hk g cur _ hgg).trans hgg, rest⟩
theorem NR.blk (h : NR w B0 v xs) {k : Nat} (e : v.ownBlock = some k) : ∃ cur fr, w.heap[k]? = some (.cells cur 3 fr) := by
  rcases h.2 with ⟨rfl, _⟩ | ⟨g, cap, cur, rfl, hb, hgg, rest⟩
  · simp [Value.ownBlock] at e
  · simp [Value.ownBlock] at e; subst e; exact ⟨cur, _, hgg⟩
theorem PM.lt (h : PM PD T B0 W w g m c s v xs) : g < w.heap.size := by obtain ⟨cur, h1, _⟩ := h.row; exact lt_of_block h1
theorem PM.B0le (h : PM PD T B0 W w g m c s v xs) : B0 ≤ w.heap.size := Nat.le_trans h.hg (Nat.le_of_lt h.lt)
theorem PM.at (h : PM PD T B0 W w g m c s v xs) {i : Nat} (hi : i < m) : w.cell? ⟨g, i, none⟩ = some (ptr c s i) ∧ w.frozen? ⟨g, i, none⟩ = false := by
  obtain ⟨cur, h1, h2⟩ := h.row
  exact ⟨by rw [cell_of_row _ _ i _ _ _ h1]; exact h2 i hi, frozen_of_row _ _ i _ _ h1⟩
theorem PM.dw (h : PM PD T B0 W w g m c s v xs) (hm : m ≤ maxLen) : DW PD w (.slice (some ⟨g, 0, none⟩) m m) m s := by
  refine ⟨_, _, rfl, Nat.le_refl _, hm, fun _ => ⟨g, 0, rfl, fun i hi => ?_⟩⟩
  have h1 := (h.at hi).1
  rw [Nat.zero_add]
  cases hs : s i with
  | none => unfold ptr at h1; rw [hs] at h1; exact h1
  | some x => unfold ptr at h1; rw [hs] at h1; exact ⟨c i, h1, (h.pu i x hi hs).1⟩
theorem PM.below (K : PK PD T) (h : PM PD T B0 W w g m c s v xs) (q : Below w.heap.size w w') : PM PD T B0 W w' g m c s v xs := by
  obtain ⟨cur, h1, h2⟩ := h.row
  exact ⟨⟨cur, (q.block g (lt_of_block h1)).trans h1, h2⟩, h.hg, fun i x hi hs => ⟨K.below (h.pu i x hi hs).1 q, (h.pu i x hi hs).2⟩, h.ap, h.nr.keep fun j cur fr e => q.block j (lt_of_block e), h.bel.trans (q.mono h.B0le), h.le⟩
theorem PM.drew (K : PK PD T) (h : PM PD T B0 W w g m c s v xs) : PM PD T B0 W w.drew g m c s v xs := h.below K (bdn w 1)
/-- something more has been planned -/
theorem PM.grown {v' : Value} {ys : List Int} (K : PK PD T) (hT : T ≠ 3) (h : PM PD T B0 W w g m c s v xs) (q : w.grownBy w' v.ownBlock) (hn : NR w' B0 v' ys) : PM PD T B0 W w' g m c s v' ys := by
  obtain ⟨cur, h1, h2⟩ := h.row
  cases hk : v.ownBlock with
  | none =>
    have q2 : Below w.heap.size w w' := ⟨q.os, q.tape, q.output, q.size, fun k hk' => q.block k hk' (by rw [hk]; simp)⟩
    have := h.below K q2
    exact ⟨this.row, this.hg, this.pu, this.ap, hn, this.bel, this.le⟩
  | some k =>
    obtain ⟨ck, fr, hc⟩ := h.nr.blk hk
    have hB : B0 ≤ k := (World.ownsRow.lt h.nr k hk).1
    have q2 : Only k w w' := ⟨q.os, q.tape, q.output, q.size, fun j hj hne => q.block j hj (by rw [hk]; simpa using hne)⟩
    have hgk : g ≠ k := by rintro rfl; have := h1.symm.trans hc; simp at this; exact hT this.2.1
    exact ⟨⟨cur, (q2.block g (lt_of_block h1) hgk).trans h1, h2⟩, h.hg, fun i x hi hs => ⟨K.off (h.pu i x hi hs).1 hc (Or.inr rfl) q2, (h.pu i x hi hs).2⟩, h.ap, hn, h.bel.trans (q2.below h.B0le hB), h.le⟩
/-- a purse is asked -/
theorem PM.op {i : Nat} {x x' : St} (K : PK PD T) (h : PM PD T B0 W w g m c s v xs) (hi : i < m) (hs : s i = some x) (o : Only (c i) w w') (hx : PD w' (c i) x') : PM PD T B0 W w' g m c (setS s i (some x')) v xs := by
  obtain ⟨cur, h1, h2⟩ := h.row
  obtain ⟨p1, p2⟩ := h.pu i x hi hs
  have hne := K.ne p1 h1 (Or.inl rfl)
  refine ⟨⟨cur, (o.block g (lt_of_block h1) (Ne.symm hne)).trans h1, fun j hj => ?_⟩, h.hg, fun j y hj hy => ?_, fun j k y z hj hk hy hz hjk => ?_, h.nr.keep fun j cur fr e => o.block j (lt_of_block e) (Ne.symm (K.ne p1 e (Or.inr rfl))), h.bel.trans (o.below h.B0le p2), h.le⟩
  · rw [h2 j hj]
    unfold ptr
    by_cases e : j = i
    · rw [e, setS_at, hs]; rfl
    · rw [setS_ne _ _ e]
  · by_cases e : j = i
    · rw [e, setS_at] at hy; obtain rfl : x' = y := by simpa using hy
      rw [e]; exact ⟨hx, p2⟩
    · rw [setS_ne _ _ e] at hy
      obtain ⟨q1, q2⟩ := h.pu j y hj hy
      exact ⟨K.other q1 p1 (h.ap j i y x hj hi hy hs e) o, q2⟩
  · have old : ∀ l z, setS s i (some x') l = some z → ∃ z', s l = some z' := fun l z hz => by
      by_cases e : l = i
      · rw [e]; exact ⟨x, hs⟩
      · rw [setS_ne _ _ e] at hz; exact ⟨z, hz⟩
    obtain ⟨y', hy'⟩ := old j y hy
    obtain ⟨z', hz'⟩ := old k z hz
    exact h.ap j k y' z' hj hk hy' hz' hjk
/-- a purse comes to the row -/
theorem PM.put {i b : Nat} {x : St} (K : PK PD T) (h : PM PD T B0 W w g m c s v xs) (hi : i < m) (q : Below w.heap.size w w') (hx : PD w' b x) (hb : w.heap.size ≤ b) (hT : T ≠ 3) : PM PD T B0 W (w'.setCell ⟨g, i, none⟩ (.pointer (some ⟨b, 0, none⟩))) g m (setS c i b) (setS s i (some x)) v xs := by
  have h0 := h.below K q
  obtain ⟨cur, h1, h2⟩ := h0.row
  have o := Only.set w' g i (.pointer (some ⟨b, 0, none⟩))
  have hr : (w'.setCell ⟨g, i, none⟩ (.pointer (some ⟨b, 0, none⟩))).heap[g]? = some (.cells (cur.setIfInBounds i (.pointer (some ⟨b, 0, none⟩))) T (0, 0)) := heap_setCell_same w' g i _ _ _ h1
  refine ⟨⟨_, hr, fun j hj => ?_⟩, h.hg, fun j y hj hy => ?_, fun j k y z hj hk hy hz hjk => ?_, h0.nr.keep fun j cur fr e => o.block j (lt_of_block e) (by rintro rfl; have := h1.symm.trans e; simp at this; exact hT this.2.1), h0.bel.trans (o.below h0.B0le h.hg), h.le⟩
  · unfold ptr
    have hsz : i < cur.size := by have := h2 i hi; exact (Array.getElem?_eq_some_iff.1 this).1
    by_cases e : j = i
    · rw [e, setS_at, setS_at, Array.getElem?_setIfInBounds_self_of_lt hsz]; rfl
    · rw [setS_ne _ _ e, setS_ne _ _ e, Array.getElem?_setIfInBounds_ne (Ne.symm e)]; exact h2 j hj
  · by_cases e : j = i
    · rw [e, setS_at] at hy; obtain rfl : x = y := by simpa using hy
      rw [e, setS_at]
      exact ⟨K.off hx h1 (Or.inl rfl) o, Nat.le_trans h.B0le hb⟩
    · rw [setS_ne _ _ e] at hy ⊢
      obtain ⟨q1, q2⟩ := h0.pu j y hj hy
      exact ⟨K.off q1 h1 (Or.inl rfl) o, q2⟩
  · have hlt : ∀ l z, l < m → s l = some z → c l < w.heap.size := fun l z hl hz => K.lt (h.pu l z hl hz).1
    by_cases e1 : j = i
    · have e2 : k ≠ i := by omega
      rw [setS_ne _ _ e2] at hz
      rw [e1, setS_at, setS_ne _ _ e2]
      have := hlt k z hk hz; omega
    · rw [setS_ne _ _ e1] at hy
      by_cases e2 : k = i
      · rw [e2, setS_at, setS_ne _ _ e1]
        have := hlt j y hj hy; omega
      · rw [setS_ne _ _ e2] at hz
        rw [setS_ne _ _ e1, setS_ne _ _ e2]
        exact h.ap j k y z hj hk hy hz hjk
end
/-- a purse of a plan: its period p, its budget q, what is left l, when its period ends e -/
structure Gd (k p q l e : Nat) (x : St) : Prop where
  p : x.p = p
  b : x.b = q
  n : x.n = l
  e : x.e = e
  q : x.q = 0
  lv : x.lv = false
  ov : x.ov = false
  ok : Ok k x
section
variable {k p q l e t : Nat} {x : St}
theorem Gd.up (h : Gd k p q l e x) : Gd (k + 1) p q l e x := ⟨h.p, h.b, h.n, h.e, h.q, h.lv, h.ov, h.ok.up⟩
theorem Gd.turn_no (h : Gd k p q l e x) (ht : t < e) : tuB x t = false ∧ tuE x t = 0 ∧ tuS x t = x := by
  have he := h.e
  rcases tu_cases x t with ⟨h1, _⟩ | ⟨_, h1, _⟩ | ⟨_, h1, e1, e2, e3⟩ | ⟨_, h1, _⟩
  · rw [h.ov] at h1; cases h1
  · omega
  · exact ⟨e2, e1, e3⟩
  · omega
theorem Gd.turn_yes (h : Gd k p q l e x) (ht : e = t) : tuB x t = true ∧ tuE x t = 0 ∧ Gd (k + 1) p q q (t + p) (tuS x t) := by
  have he := h.e
  rcases tu_cases x t with ⟨h1, _⟩ | ⟨_, h1, _⟩ | ⟨_, h1, _⟩ | ⟨_, h1, e1, e2, e3⟩
  · rw [h.ov] at h1; cases h1
  · omega
  · omega
  · have ho := h.ok.tu t
    refine ⟨e2, e1, ?_⟩
    rw [e3] at ho ⊢
    rcases ended_cases x t with ⟨q1, _⟩ | ⟨_, q2, e4⟩ | ⟨_, q2, _⟩
    · rw [h.lv] at q1; cases q1
    · rw [e4] at ho ⊢
      exact ⟨h.p, h.b, h.b, by show (t : Int) + x.p = _; rw [h.p]; omega, h.q, h.lv, h.ov, ho⟩
    · exact absurd h.q q2
theorem Gd.new (h1 : 1 ≤ p) (h2 : p ≤ 64) (h3 : 1 ≤ q) (h4 : q ≤ p) (ht : t ≤ 1000) : nwE p q t = 0 ∧ Gd 0 p q q (t + p) (nwS p q t) := by
  have hn : nwE p q t = 0 := by
    rcases nwE_cases p q t with ⟨x, _⟩ | ⟨_, x, _⟩ | ⟨_, x, _⟩ | ⟨_, _, _, x⟩
    · exact absurd ⟨⟨by omega, by omega⟩, by omega, by omega⟩ x
    · omega
    · omega
    · exact x
  exact ⟨hn, rfl, rfl, rfl, by show (t : Int) + p = _; omega, rfl, rfl, rfl, Ok.new hn⟩
theorem Gd.charge (h : Gd k p q l e x) (hl : 0 < l) : chE x = 0 ∧ Gd (k + 1) p q (l - 1) e (chS x) := by
  have hn := h.n
  have ho := h.ok.ch
  rcases ch_cases x with ⟨h1, _⟩ | ⟨_, h1, _⟩ | ⟨_, h1, e1, e2⟩
  · rw [h.ov] at h1; cases h1
  · omega
  · rw [e2] at ho ⊢
    exact ⟨e1, h.p, h.b, by show x.n - 1 = _; omega, h.e, h.q, h.lv, h.ov, ho⟩
end
/-- purses stand as the plain plan says: before those of j and behind have been looked at in the tick t -/
def At (n : Nat) (P B b : Nat → Nat) (k t j : Nat) (s : Nat → Option St) : Prop := ∀ i, i < n →
  if i < j then (t < b i → s i = none) ∧ (b i ≤ t → ∃ x, s i = some x ∧ Gd k (P i) (B i) (Tu.L1 n P B b t i) (Tu.E1 n P B b t i) x)
  else (t ≤ b i → s i = none) ∧ (b i < t → ∃ x, s i = some x ∧ Gd k (P i) (B i) (Tu.L n P B b t i) (Tu.E n P B b t i) x)
section
variable {n k t j : Nat} {P B b : Nat → Nat} {s : Nat → Option St}
theorem At.start : At n P B b k 0 0 (fun _ => none) := fun i hi => by
  rw [if_neg (by omega)]; exact ⟨fun _ => rfl, fun h => by omega⟩
theorem At.undone (h : At n P B b k t j s) {i : Nat} (hi : i < n) (hj : j ≤ i) : (t ≤ b i → s i = none) ∧ (b i < t → ∃ x, s i = some x ∧ Gd k (P i) (B i) (Tu.L n P B b t i) (Tu.E n P B b t i) x) := by
  have := h i hi; rwa [if_neg (by omega)] at this
theorem At.done (h : At n P B b k t j s) {i : Nat} (hi : i < n) (hj : i < j) : (t < b i → s i = none) ∧ (b i ≤ t → ∃ x, s i = some x ∧ Gd k (P i) (B i) (Tu.L1 n P B b t i) (Tu.E1 n P B b t i) x) := by
  have := h i hi; rwa [if_pos (by omega)] at this
theorem At.up (h : At n P B b k t j s) : At n P B b (k + 1) t j s := fun i hi => by
  have := h i hi
  split at this <;> split
  · exact ⟨this.1, fun q => by obtain ⟨x, e, g⟩ := this.2 q; exact ⟨x, e, g.up⟩⟩
  · contradiction
  · contradiction
  · exact ⟨this.1, fun q => by obtain ⟨x, e, g⟩ := this.2 q; exact ⟨x, e, g.up⟩⟩
/-- one more has been looked at -/
theorem At.step {o : Option St} (h : At n P B b k t j s) (hj : j < n) (ho : (t < b j → o = none) ∧ (b j ≤ t → ∃ x, o = some x ∧ Gd (k + 1) (P j) (B j) (Tu.L1 n P B b t j) (Tu.E1 n P B b t j) x)) : At n P B b (k + 1) t (j + 1) (setS s j o) := fun i hi => by
  by_cases e : i = j
  · subst e; rw [if_pos (by omega), setS_at]; exact ho
  · rw [setS_ne _ _ e]
    by_cases e2 : i < j
    · rw [if_pos (by omega)]
      obtain ⟨h1, h2⟩ := h.done hi e2
      exact ⟨h1, fun q => by obtain ⟨x, e, g⟩ := h2 q; exact ⟨x, e, g.up⟩⟩
    · rw [if_neg (by omega)]
      obtain ⟨h1, h2⟩ := h.undone hi (by omega)
      exact ⟨h1, fun q => by obtain ⟨x, e, g⟩ := h2 q; exact ⟨x, e, g.up⟩⟩
theorem setS_self {s : Nat → Option St} {j : Nat} {o : Option St} (h : s j = o) : setS s j o = s := by
  funext i; unfold setS; split
  · rename_i e; rw [e, h]
  · rfl
/-- nothing is to be done for one that has not begun -/
theorem At.ahead (h : At n P B b k t j s) (hj : j < n) (hb : t < b j) : s j = none ∧ At n P B b (k + 1) t (j + 1) s := by
  have h1 := (h.undone hj (Nat.le_refl _)).1 (by omega)
  have := h.step (o := none) hj ⟨fun _ => rfl, fun q => by omega⟩
  rw [setS_self h1] at this
  exact ⟨h1, this⟩
/-- one begins -/
theorem At.begins (h : At n P B b k t j s) (hj : j < n) (hb : b j = t) (hP : 1 ≤ P j ∧ P j ≤ 64 ∧ 1 ≤ B j ∧ B j ≤ P j) (ht : t ≤ 1000) : nwE (P j) (B j) t = 0 ∧ (tuB (nwS (P j) (B j) t) t = false ∧ tuE (nwS (P j) (B j) t) t = 0 ∧ tuS (nwS (P j) (B j) t) t = nwS (P j) (B j) t) ∧ Ok 0 (nwS (P j) (B j) t) ∧ s j = none ∧ At n P B b (k + 1) t (j + 1) (setS s j (some (nwS (P j) (B j) t))) := by
  obtain ⟨p1, p2, p3, p4⟩ := hP
  obtain ⟨n1, n2⟩ := Gd.new p1 p2 p3 p4 ht
  obtain ⟨l1, l2⟩ := Tu.L1_rel (n := n) (P := P) (B := B) (b := b) (t := t) hj (by rw [← hb]; exact Tu.rel_self _ _)
  have hm : Gd (k + 1) (P j) (B j) (B j) (t + P j) (nwS (P j) (B j) t) := by
    have := n2.ok
    exact ⟨n2.p, n2.b, n2.n, n2.e, n2.q, n2.lv, n2.ov, ⟨this.m, this.n0, this.n1, this.e0, by have := this.e1; omega, this.q, this.s0, by have := this.s1; omega⟩⟩
  refine ⟨n1, n2.turn_no (by omega), n2.ok, (h.undone hj (Nat.le_refl _)).1 (by omega), h.step hj ⟨fun q => by omega, fun _ => ⟨_, rfl, ?_⟩⟩⟩
  rw [l1, l2]; exact hm
/-- one that has begun is turned -/
theorem At.turns (h : At n P B b k t j s) (hj : j < n) (hb : b j < t) (hP : 1 ≤ P j) : ∃ x, s j = some x ∧ Ok k x ∧ tuE x t = 0 ∧ At n P B b (k + 1) t (j + 1) (setS s j (some (tuS x t))) := by
  obtain ⟨x, hx, hg⟩ := (h.undone hj (Nat.le_refl _)).2 hb
  obtain ⟨r1, r2⟩ := Tu.rel_iff (n := n) (B := B) hj hP hb
  by_cases he : Tu.E n P B b t j = t
  · obtain ⟨l1, l2⟩ := Tu.L1_rel (n := n) (P := P) (B := B) (b := b) (t := t) hj (r1.2 he)
    obtain ⟨_, g2, g3⟩ := hg.turn_yes he
    exact ⟨x, hx, hg.ok, g2, h.step hj ⟨fun q => by omega, fun _ => ⟨_, rfl, by rw [l1, l2]; exact g3⟩⟩⟩
  · obtain ⟨l1, l2⟩ := Tu.L1_not (n := n) (P := P) (B := B) (b := b) (t := t) (i := j) (fun r => he (r1.1 r))
    obtain ⟨_, g2, g3⟩ := hg.turn_no (t := t) (by omega)
    exact ⟨x, hx, hg.ok, g2, by rw [g3]; exact h.step hj ⟨fun q => by omega, fun _ => ⟨_, rfl, by rw [l1, l2]; exact hg.up⟩⟩⟩
theorem E_ahead {i : Nat} : ∀ {t : Nat}, t ≤ b i → Tu.E n P B b t i = 0
  | 0, _ => rfl
  | t + 1, h => by
    rw [Tu.E_next, (Tu.L1_not (by rintro ⟨x, _⟩; omega)).2]; exact E_ahead (by omega)
theorem At.who (h : At n P B b k t n s) : who s n = Tu.pl n P B b t ∧ OkS n s := by
  constructor
  · refine Tu.near_congr fun i hi => ?_
    obtain ⟨h1, h2⟩ := h.done hi hi
    by_cases hb : t < b i
    · rw [Tu.L1_ahead hb, (Tu.L1_not (B := B) (by rintro ⟨x, _⟩; omega)).2, E_ahead (by omega)]
      unfold lf ef; rw [h1 hb]; exact ⟨rfl, rfl⟩
    · obtain ⟨x, hx, hg⟩ := h2 (by omega)
      rw [lf_some hx, ef_some hx, if_neg (by rw [hg.ov]; decide), hg.n, hg.e]
      exact ⟨rfl, rfl⟩
  · intro i x hi hx
    obtain ⟨h1, h2⟩ := h.done hi hi
    by_cases hb : t < b i
    · rw [h1 hb] at hx; cases hx
    · obtain ⟨y, hy, hg⟩ := h2 (by omega)
      rw [hy] at hx; obtain rfl : y = x := by simpa using hx
      exact ⟨hg.ok.n0, hg.ok.e0, fun e => by rw [hg.ov] at e; cases e⟩
/-- nobody runs -/
theorem At.none (h : At n P B b k t n s) (hp : Tu.pl n P B b t = -1) : At n P B b k (t + 1) 0 s := fun i hi => by
  rw [if_neg (by omega)]
  obtain ⟨h1, h2⟩ := h.done hi hi
  refine ⟨fun q => h1 (by omega), fun q => ?_⟩
  rw [Tu.L_next, if_neg (by omega), Tu.E_next]
  exact h2 (by omega)
/-- one runs -/
theorem At.runs {i : Nat} (h : At n P B b k t n s) (hp : Tu.pl n P B b t = (i : Nat)) : i < n ∧ ∃ x, s i = some x ∧ Ok k x ∧ chE x = 0 ∧ At n P B b (k + 1) (t + 1) 0 (setS s i (some (chS x))) := by
  rcases Tu.pl_cases (n := n) (P := P) (B := B) (b := b) (t := t) with ⟨z, _⟩ | ⟨m, z, z1, z2, _⟩
  · omega
  obtain rfl : m = i := by omega
  obtain ⟨h1, h2⟩ := h.done z1 z1
  by_cases hb : t < b m
  · rw [Tu.L1_ahead hb] at z2; omega
  obtain ⟨x, hx, hg⟩ := h2 (by omega)
  obtain ⟨c1, c2⟩ := hg.charge z2
  refine ⟨z1, x, hx, hg.ok, c1, fun j hj => ?_⟩
  rw [if_neg (by omega), Tu.L_next, Tu.E_next]
  obtain ⟨j1, j2⟩ := h.done hj hj
  by_cases e : j = m
  · subst e
    rw [setS_at, if_pos (by omega)]
    exact ⟨fun q => by omega, fun _ => ⟨_, rfl, c2⟩⟩
  · rw [setS_ne _ _ e, if_neg (by omega)]
    exact ⟨fun q => j1 (by omega), fun q => by obtain ⟨y, hy, g⟩ := j2 (by omega); exact ⟨y, hy, g.up⟩⟩
end
end Go.Proofs.Ytfjeoefnpcgnnaa.Pw
