/- A room, plainly: who kept whom waiting (P18.8); in which order something was locked (P18.7). -/
import Derived.Test.YtkkmfpllgjoceaaGreatRooP
namespace Go.Proofs.YtkkmfpllgjoceaaGreat.Ro
open St.Sk
set_option linter.unusedVariables false

def Hd (E : List En) (k : Int) : Prop := ∃ e ∈ E, e.1 = k
/-- of each job: who had something locked when it was released, and ever since; whose section it has waited for, one more than the task, or 0 -/
structure Wts (V : Env) (d : Int → Int) (E : List En) (had : Int → Int → Bool) (wh : Int → Int) : Prop where
  nn : ∀ t, 0 ≤ wh t
  r1 : ∀ t k, 0 ≤ d t → d t < d k → Hd E k → had t k = true
  r3 : ∀ t w, 0 ≤ d t → wh t = w + 1 → 0 ≤ w → ∀ e ∈ E, e.1 ≠ w → d t < d e.1 → ∀ f, 0 ≤ d f → (f = t ∨ Ah d f t) → V.c e.2 < V.lev f
  r4 : ∀ t w, 0 ≤ d t → wh t = w + 1 → 0 ≤ w → Hd E w → d t < d w → ∀ e ∈ E, e.1 ≠ w → d t < d e.1 → Ah d w e.1
section
variable {V : Env} {d : Int → Int} {E : List En} {O : List Int} {b : Int → Bool} {now : Int} {had : Int → Int → Bool} {wh : Int → Int} {w s t r : Int}
/-- a job waits for who goes on with a later deadline: that one has something locked, had so when the job was released, and is the only one for which it waits -/
theorem waits_ok (h : Inv V d E b now) (q : Wts V d E had wh) (g : Goes V d E b w) (ht : 0 ≤ d t) (hl : d t < d w) : Hd E w ∧ had t w = true ∧ (wh t = 0 ∨ wh t = w + 1) := by
  obtain ⟨f, hf, ⟨_, rfl⟩ | ⟨ho, E', x, he, rfl⟩⟩ := g
  · exfalso
    by_cases e : t = w
    · subst e; omega
    · have := (hf.ah t ht e).le; omega
  · have hx : x ∈ E := by rw [he]; exact List.mem_append_right _ (List.mem_singleton.2 rfl)
    have hd : Hd E x.1 := ⟨x, hx, rfl⟩
    refine ⟨hd, q.r1 t x.1 ht hl hd, ?_⟩
    by_cases h0 : wh t = 0
    · exact Or.inl h0
    · right
      have hn := q.nn t
      obtain ⟨u, hu, hu0⟩ : ∃ u, wh t = u + 1 ∧ 0 ≤ u := ⟨wh t - 1, by omega, by omega⟩
      by_cases hux : u = x.1
      · rw [hu, hux]
      exfalso
      have hft : f = t ∨ Ah d f t := by
        by_cases e : t = f
        · exact Or.inl e.symm
        · exact Or.inr (hf.ah t ht e)
      have hnl : ¬ cl V.c E < V.lev f := fun y => ho (Or.inr y)
      rcases cl_or V.c E with p | ⟨e0, hm, p⟩
      · have := V.pos f (h.dom f hf.job).1 (h.dom f hf.job).2; omega
      · have hle : d x.1 ≤ d e0.1 := by
          rcases last_ord h he e0 hm with y | y
          · rw [y]; exact Int.le_refl _
          · exact y.le
        by_cases hu2 : e0.1 = u
        · have k1 := q.r4 t u ht hu hu0 ⟨e0, hm, hu2⟩ (by rw [← hu2]; omega) x hx (fun y => hux y.symm) hl
          rcases last_ord h he e0 hm with y | y
          · exact hux (hu2.symm.trans y)
          · rw [hu2] at y; exact y.not k1
        · have := q.r3 t u ht hu hu0 e0 hm hu2 (by omega) f hf.job hft
          omega
/-- that is noted -/
def note (d : Int → Int) (w : Int) (wh : Int → Int) : Int → Int := fun t => if 0 ≤ d t ∧ d t < d w then w + 1 else wh t
theorem note_at {t : Int} (h : 0 ≤ d t) (h1 : d t < d w) : note d w wh t = w + 1 := if_pos ⟨h, h1⟩
theorem Wts.note (h : Inv V d E b now) (q : Wts V d E had wh) (g : Goes V d E b w) : Wts V d E had (note d w wh) := by
  have hw := h.dom w (goes_job h g)
  refine ⟨fun t => ?_, q.r1, fun t u ht hu hu0 e he hn hl f hf hft => ?_, fun t u ht hu hu0 hd hl e he hn hl2 => ?_⟩
  · unfold Ro.note; split
    · omega
    · exact q.nn t
  · unfold Ro.note at hu
    split at hu
    · rename_i hc
      obtain rfl : w = u := by omega
      have hh := (waits_ok h q g ht hc.2).1
      have hfw : Ah d f w := by
        rcases hft with rfl | y
        · exact Or.inl hc.2
        · have := y.le; exact Or.inl (by omega)
      have := h.lev (Or.inr hh) hf hfw
      have := goes_low h g e he hn
      omega
    · exact q.r3 t u ht hu hu0 e he hn hl f hf hft
  · unfold Ro.note at hu
    split at hu
    · rename_i hc
      obtain rfl : w = u := by omega
      exact goes_ahead h g (Or.inr ⟨e, he, rfl⟩) hn
    · exact q.r4 t u ht hu hu0 hd hl e he hn hl2
/-- who goes on locks something -/
theorem Wts.lock (h : Inv V d E b now) (q : Wts V d E had wh) (g : Goes V d E b w) (hb : ∀ t, 0 ≤ d t → d t < d w → wh t = w + 1) (r : Int) : Wts V d (E ++ [(w, r)]) had wh := by
  have hH : ∀ k, Hd (E ++ [(w, r)]) k → k = w ∨ Hd E k := fun k ⟨e, he, hk⟩ => by
    rcases List.mem_append.1 he with y | y
    · exact Or.inr ⟨e, y, hk⟩
    · rw [List.mem_singleton.1 y] at hk; exact Or.inl hk.symm
  refine ⟨q.nn, fun t k ht hl hk => ?_, fun t u ht hu hu0 e he hn hl f hf hft => ?_, fun t u ht hu hu0 hd hl e he hn hl2 => ?_⟩
  · rcases hH k hk with rfl | y
    · exact (waits_ok h q g ht hl).2.1
    · exact q.r1 t k ht hl y
  · rcases List.mem_append.1 he with y | y
    · exact q.r3 t u ht hu hu0 e y hn hl f hf hft
    · rw [List.mem_singleton.1 y] at hn hl
      have := hb t ht hl
      exact absurd (show w = u by omega) hn
  · rcases List.mem_append.1 he with y | y
    · rcases hH u hd with rfl | z
      · exact goes_ahead h g (Or.inr ⟨e, y, rfl⟩) hn
      · exact q.r4 t u ht hu hu0 z hl e y hn hl2
    · rw [List.mem_singleton.1 y] at hn hl2
      have := hb t ht hl2
      exact absurd (show w = u by omega) hn
theorem Wts.sub (q : Wts V d E had wh) {E' : List En} (k : ∀ e ∈ E', e ∈ E) : Wts V d E' had wh :=
  ⟨q.nn, fun t k' ht hl ⟨e, he, hk⟩ => q.r1 t k' ht hl ⟨e, k e he, hk⟩, fun t u ht hu hu0 e he => q.r3 t u ht hu hu0 e (k e he), fun t u ht hu hu0 ⟨x, hx, hk⟩ hl e he => q.r4 t u ht hu hu0 ⟨x, k x hx, hk⟩ hl e (k e he)⟩
/-- who has something locked still -/
theorem Wts.still (q : Wts V d E had wh) {had' : Int → Int → Bool} (k : ∀ t u, had t u = true → Hd E u → had' t u = true) : Wts V d E had' wh :=
  ⟨q.nn, fun t u ht hl hh => k t u (q.r1 t u ht hl hh) hh, q.r3, q.r4⟩
theorem Wts.fin (q : Wts V d E had wh) (t0 : Int) : Wts V (updI d t0 (-1)) (drp E t0) had wh := by
  have hn : ∀ i, i ≠ t0 → updI d t0 (-1) i = d i := fun i e => if_neg e
  have hj : ∀ i, 0 ≤ updI d t0 (-1) i → i ≠ t0 := fun i y e => by subst e; simp [updI] at y
  have he : ∀ e ∈ drp E t0, e ∈ E ∧ e.1 ≠ t0 := fun e y => by
    unfold drp at y
    rw [List.mem_filter] at y
    exact ⟨y.1, by simpa using y.2⟩
  have ha : ∀ x y, x ≠ t0 → y ≠ t0 → (Ah (updI d t0 (-1)) x y ↔ Ah d x y) := fun x y hx hy => by unfold Ah; rw [hn x hx, hn y hy]
  have hh : ∀ k, Hd (drp E t0) k → Hd E k ∧ k ≠ t0 := fun k ⟨e, y, hk⟩ => ⟨⟨e, (he e y).1, hk⟩, by rw [← hk]; exact (he e y).2⟩
  refine ⟨q.nn, fun t k ht hl hk => ?_, fun t u ht hu hu0 e hm hne hl f hf hft => ?_, fun t u ht hu hu0 hd hl e hm hne hl2 => ?_⟩
  · have a1 := hj t ht
    obtain ⟨a2, a3⟩ := hh k hk
    rw [hn t a1] at ht hl; rw [hn k a3] at hl
    exact q.r1 t k ht hl a2
  · have a1 := hj t ht
    obtain ⟨a2, a3⟩ := he e hm
    have a4 := hj f hf
    rw [hn t a1] at ht hl; rw [hn _ a3] at hl; rw [hn f a4] at hf
    refine q.r3 t u ht hu hu0 e a2 hne hl f hf ?_
    rcases hft with y | y
    · exact Or.inl y
    · exact Or.inr ((ha f t a4 a1).1 y)
  · have a1 := hj t ht
    obtain ⟨a2, a3⟩ := he e hm
    obtain ⟨a5, a6⟩ := hh u hd
    rw [hn t a1] at ht hl hl2; rw [hn _ a3] at hl2; rw [hn u a6] at hl
    exact (ha u e.1 a6 a3).2 (q.r4 t u ht hu hu0 a5 hl e a2 hne hl2)
/-- a job is released -/
theorem Wts.put (h : Inv V d E b now) (q : Wts V d E had wh) {t0 : Int} (ht0 : d t0 < 0) (h0 : 0 ≤ t0) (h1 : t0 < V.n) {had' : Int → Int → Bool} {wh' : Int → Int}
    (k1 : ∀ t u, t ≠ t0 → had' t u = had t u) (k2 : ∀ u, Hd E u → had' t0 u = true) (k3 : wh' t0 = 0) (k4 : ∀ t, t ≠ t0 → wh' t = wh t) : Wts V (updI d t0 (now + V.D t0)) E had' wh' := by
  have hn : ∀ i, i ≠ t0 → updI d t0 (now + V.D t0) i = d i := fun i e => if_neg e
  have hne : ∀ i, 0 ≤ d i → i ≠ t0 := fun i y e => by subst e; omega
  have hh : ∀ k, Hd E k → k ≠ t0 := fun k ⟨e, y, hk⟩ => by rw [← hk]; exact hne _ (h.own e y)
  have ha : ∀ x y, x ≠ t0 → y ≠ t0 → (Ah (updI d t0 (now + V.D t0)) x y ↔ Ah d x y) := fun x y hx hy => by unfold Ah; rw [hn x hx, hn y hy]
  refine ⟨fun t => ?_, fun t k ht hl hk => ?_, fun t u ht hu hu0 e_1 hm hne' hl f hf hft => ?_, fun t u ht hu hu0 hd hl e_1 hm hne' hl2 => ?_⟩
  · by_cases e : t = t0
    · subst e; omega
    · rw [k4 t e]; exact q.nn t
  · by_cases e : t = t0
    · subst e; exact k2 k hk
    · rw [k1 t k e]
      rw [hn t e] at ht hl
      rw [hn k (hh k hk)] at hl
      exact q.r1 t k ht hl hk
  · have e : t ≠ t0 := fun e => by subst e; omega
    rw [k4 t e] at hu
    rw [hn t e] at ht hl
    have he := hne _ (h.own _ hm)
    rw [hn _ he] at hl
    by_cases ef : f = t0
    · subst ef
      rcases hft with y | y
      · exact absurd y.symm e
      · have c1 := q.r3 t u ht hu hu0 e_1 hm hne' hl t ht (Or.inl rfl)
        have c2 := h.now t ht
        have c3 := y.le
        rw [hn t e] at c3
        simp only [updI, if_pos] at c3
        obtain ⟨d1, d2⟩ := h.dom t ht
        have := V.mono f t h0 h1 d1 d2 (by omega)
        omega
    · rw [hn f ef] at hf
      refine q.r3 t u ht hu hu0 _ hm hne' hl f hf ?_
      rcases hft with y | y
      · exact Or.inl y
      · exact Or.inr ((ha f t ef e).1 y)
  · have e : t ≠ t0 := fun e => by subst e; omega
    rw [k4 t e] at hu
    have hu1 := hh u hd
    have he := hne _ (h.own _ hm)
    rw [hn t e] at ht hl hl2
    rw [hn u hu1] at hl
    rw [hn _ he] at hl2
    exact (ha u _ hu1 he).2 (q.r4 t u ht hu hu0 hd hl _ hm hne' hl2)
/-- tasks that have something locked, as they did first: each later one has the earlier deadline -/
structure Ord (d : Int → Int) (E : List En) (O : List Int) : Prop where
  pw : O.Pairwise (fun a e => d e ≤ d a)
  hd : ∀ t ∈ O, Hd E t
theorem Ord.nil : Ord d E [] := ⟨List.Pairwise.nil, fun _ h => by cases h⟩
theorem Ord.keep (h : Ord d E O) {E' : List En} (k : ∀ t ∈ O, Hd E t → Hd E' t) : Ord d E' O := ⟨h.pw, fun t ht => k t ht (h.hd t ht)⟩
theorem Ord.snoc (h : Inv V d E b now) (g : Goes V d E b w) (q : Ord d E O) (hn : ¬ Hd E w) (r : Int) : Ord d (E ++ [(w, r)]) (O ++ [w]) := by
  refine ⟨List.pairwise_append.2 ⟨q.pw, List.pairwise_singleton _ _, fun a ha e he => ?_⟩, fun t ht => ?_⟩
  · rw [List.mem_singleton.1 he]
    have := q.hd a ha
    exact (goes_ahead h g (Or.inr this) (fun y => hn (y ▸ this))).le
  · rcases List.mem_append.1 ht with y | y
    · obtain ⟨e, h1, h2⟩ := q.hd t y; exact ⟨e, List.mem_append_left _ h1, h2⟩
    · rw [List.mem_singleton.1 y]; exact ⟨(w, r), List.mem_append_right _ (List.mem_singleton.2 rfl), rfl⟩
/-- a task is gone -/
def gone (O : List Int) (t : Int) : List Int := O.filter (fun x => !(x == t))
theorem Ord.gone (q : Ord d E O) (t : Int) {d' : Int → Int} {E' : List En} (k : ∀ x, x ≠ t → Hd E x → Hd E' x) (kd : ∀ x, x ≠ t → d' x = d x) : Ord d' E' (gone O t) := by
  have hm : ∀ x ∈ Ro.gone O t, x ∈ O ∧ x ≠ t := fun x hx => by
    unfold Ro.gone at hx
    rw [List.mem_filter] at hx
    exact ⟨hx.1, by simpa using hx.2⟩
  refine ⟨?_, fun x hx => k x (hm x hx).2 (q.hd x (hm x hx).1)⟩
  refine (q.pw.sublist (List.filter_sublist)).imp_of_mem ?_
  intro a e ha he y
  rw [kd a (hm a ha).2, kd e (hm e he).2]
  exact y
theorem Ord.put (h : Inv V d E b now) (q : Ord d E O) {t0 x : Int} (ht0 : d t0 < 0) : Ord (updI d t0 x) E O := by
  have hne : ∀ t ∈ O, t ≠ t0 := fun t ht e => by
    obtain ⟨y, h1, h2⟩ := q.hd t ht
    have := h.own y h1
    rw [h2, e] at this; omega
  refine ⟨q.pw.imp_of_mem ?_, q.hd⟩
  intro a e ha he y
  unfold updI
  rw [if_neg (hne a ha), if_neg (hne e he)]
  exact y
/-- what stands at two places, one behind the other -/
theorem Ord.at (q : Ord d E O) {k : Nat} (hk : k + 1 < O.length) : d (O.getD (k + 1) 0) ≤ d (O.getD k 0) := by
  have := List.pairwise_iff_getElem.1 q.pw k (k + 1) (by omega) hk (by omega)
  rw [List.getD_eq_getElem?_getD, List.getD_eq_getElem?_getD, List.getElem?_eq_getElem hk, List.getElem?_eq_getElem (show k < O.length by omega)]
  exact this
end
end Go.Proofs.YtkkmfpllgjoceaaGreat.Ro
