/- A room, plainly: who goes on; what is so as long as only who goes on does anything (P18.7). -/
import Derived.Test.YtkkmfpllgjoceaaGreatStaP
namespace Go.Proofs.YtkkmfpllgjoceaaGreat.Ro
open St.Sk
set_option linter.unusedVariables false

/-- what is told of tasks: their Deadlines, levels, ceilings of resources, which task uses which -/
structure Env where
  n : Nat
  D : Int → Int
  lev : Int → Int
  c : Int → Int
  use : Int → Int → Bool
  mono : ∀ a b : Int, 0 ≤ a → a < n → 0 ≤ b → b < n → D a ≤ D b → lev b ≤ lev a
  high : ∀ t r, use t r = true → lev t ≤ c r
  pos : ∀ t : Int, 0 ≤ t → t < n → 1 ≤ lev t
/-- one job is ahead of another one -/
def Ah (d : Int → Int) (a b : Int) : Prop := d a < d b ∨ (d a = d b ∧ a < b)
theorem Ah.not {d : Int → Int} {a b : Int} (h : Ah d a b) (k : Ah d b a) : False := by unfold Ah at h k; omega
theorem Ah.trans {d : Int → Int} {a b c : Int} (h : Ah d a b) (k : Ah d b c) : Ah d a c := by unfold Ah at *; omega
theorem Ah.le {d : Int → Int} {a b : Int} (h : Ah d a b) : d a ≤ d b := by unfold Ah at h; omega
theorem ah_or (d : Int → Int) {a b : Int} (h : a ≠ b) : Ah d a b ∨ Ah d b a := by unfold Ah; omega
/-- the first of all jobs -/
structure Fst (d : Int → Int) (f : Int) : Prop where
  job : 0 ≤ d f
  ah : ∀ g, 0 ≤ d g → g ≠ f → Ah d f g
/-- the ceiling of what is locked -/
def cl (c : Int → Int) : List En → Int
  | [] => 0
  | e :: t => max (cl c t) (c e.2)
theorem cl_ge {c : Int → Int} : ∀ {E : List En} {e : En}, e ∈ E → c e.2 ≤ cl c E
  | x :: t, e, h => by
    rcases List.mem_cons.1 h with rfl | h
    · simp only [cl]; omega
    · have := cl_ge (c := c) h; simp only [cl]; omega
theorem cl_nn (c : Int → Int) : ∀ E : List En, 0 ≤ cl c E
  | [] => Int.le_refl _
  | x :: t => by have := cl_nn c t; simp only [cl]; omega
theorem cl_or (c : Int → Int) : ∀ E : List En, cl c E = 0 ∨ ∃ e ∈ E, cl c E = c e.2
  | [] => Or.inl rfl
  | x :: t => by
    by_cases h : cl c t ≤ c x.2
    · exact Or.inr ⟨x, List.mem_cons_self .., by simp only [cl]; omega⟩
    · rcases cl_or c t with q | ⟨e, he, q⟩
      · exact Or.inl (by simp only [cl]; omega)
      · exact Or.inr ⟨e, List.mem_cons_of_mem _ he, by simp only [cl]; omega⟩
/-- the first one goes on -/
def Ok (V : Env) (E : List En) (b : Int → Bool) (f : Int) : Prop := b f = true ∨ cl V.c E < V.lev f
/-- who goes on -/
def Goes (V : Env) (d : Int → Int) (E : List En) (b : Int → Bool) (w : Int) : Prop :=
  ∃ f, Fst d f ∧ ((Ok V E b f ∧ w = f) ∨ (¬ Ok V E b f ∧ ∃ E' e, E = E' ++ [e] ∧ e.1 = w))
/-- it has begun, or has something locked -/
def Std (E : List En) (b : Int → Bool) (t : Int) : Prop := b t = true ∨ ∃ e ∈ E, e.1 = t
structure Inv (V : Env) (d : Int → Int) (E : List En) (b : Int → Bool) (now : Int) : Prop where
  own : ∀ e ∈ E, 0 ≤ d e.1
  dom : ∀ t, 0 ≤ d t → 0 ≤ t ∧ t < V.n
  beg : ∀ t, b t = true → 0 ≤ d t
  ord : E.Pairwise (fun a e => a.1 = e.1 ∨ Ah d e.1 a.1)
  rel : ∀ s f, Std E b s → 0 ≤ d f → Ah d f s → d s - V.D s ≤ d f - V.D f
  low : ∀ s, Std E b s → ∀ e ∈ E, e.1 ≠ s → Ah d s e.1 → V.c e.2 < V.lev s
  now : ∀ t, 0 ≤ d t → d t - V.D t ≤ now
section
variable {V : Env} {d : Int → Int} {E : List En} {b : Int → Bool} {now : Int} {w s t r : Int}
theorem Inv.job (h : Inv V d E b now) (q : Std E b s) : 0 ≤ d s := by
  rcases q with q | ⟨e, he, rfl⟩
  · exact h.beg s q
  · exact h.own e he
/-- one that is ahead of one that has begun has no lower level -/
theorem Inv.lev (h : Inv V d E b now) {f : Int} (q : Std E b s) (hf : 0 ≤ d f) (k : Ah d f s) : V.lev s ≤ V.lev f := by
  have h1 := h.rel s f q hf k
  have h2 := k.le
  obtain ⟨a1, a2⟩ := h.dom f hf
  obtain ⟨b1, b2⟩ := h.dom s (h.job q)
  exact V.mono f s a1 a2 b1 b2 (by omega)
theorem last_ord (h : Inv V d E b now) {E' : List En} {x : En} (he : E = E' ++ [x]) : ∀ e ∈ E, e.1 = x.1 ∨ Ah d x.1 e.1 := by
  subst he
  intro e he
  have hp := (List.pairwise_append.1 h.ord).2.2
  rcases List.mem_append.1 he with q | q
  · exact hp e q x (List.mem_singleton.2 rfl)
  · rw [List.mem_singleton.1 q]; exact Or.inl rfl
/-- who goes on has a job -/
theorem goes_job (h : Inv V d E b now) (g : Goes V d E b w) : 0 ≤ d w := by
  obtain ⟨f, hf, ⟨_, rfl⟩ | ⟨_, E', e, he, rfl⟩⟩ := g
  · exact hf.job
  · exact h.own e (by rw [he]; exact List.mem_append_right _ (List.mem_singleton.2 rfl))
/-- who goes on is ahead of all others that have begun -/
theorem goes_ahead (h : Inv V d E b now) (g : Goes V d E b w) (q : Std E b s) (hs : s ≠ w) : Ah d w s := by
  obtain ⟨f, hf, ⟨_, rfl⟩ | ⟨ho, E', x, he, rfl⟩⟩ := g
  · exact hf.ah s (h.job q) hs
  · rcases ah_or d hs with k | k
    · exfalso
      have hl := last_ord h he
      have hx : x ∈ E := by rw [he]; exact List.mem_append_right _ (List.mem_singleton.2 rfl)
      have hall : ∀ e ∈ E, V.c e.2 < V.lev s := fun e hm => by
        rcases hl e hm with p | p
        · exact h.low s q e hm (by rw [p]; exact fun y => hs y.symm) (by rw [p]; exact k)
        · exact h.low s q e hm (fun y => (k.trans p).not (by rw [y]; exact k.trans p |>.elim (fun z => by rw [y] at z; omega) (fun z => by rw [y] at z; omega))) (k.trans p)
      have hc : cl V.c E < V.lev s := by
        rcases cl_or V.c E with p | ⟨e, hm, p⟩
        · have := V.pos s (h.dom s (h.job q)).1 (h.dom s (h.job q)).2; omega
        · rw [p]; exact hall e hm
      by_cases hfs : f = s
      · subst hfs; exact ho (Or.inr hc)
      · have := h.lev q hf.job (hf.ah s (h.job q) (fun y => hfs y.symm))
        exact ho (Or.inr (by omega))
    · exact k
/-- what others have locked has a ceiling below the level of who goes on -/
theorem goes_low (h : Inv V d E b now) (g : Goes V d E b w) : ∀ e ∈ E, e.1 ≠ w → V.c e.2 < V.lev w := by
  intro e he hn
  have ha := goes_ahead h g (Or.inr ⟨e, he, rfl⟩) hn
  have g0 := g
  obtain ⟨f, hf, ⟨ho, rfl⟩ | ⟨ho, E', x, hE, rfl⟩⟩ := g0
  · rcases ho with ho | ho
    · exact h.low w (Or.inl ho) e he hn ha
    · have := cl_ge (c := V.c) he; omega
  · exact h.low x.1 (Or.inr ⟨x, by rw [hE]; exact List.mem_append_right _ (List.mem_singleton.2 rfl), rfl⟩) e he hn ha
/-- what it uses is free, but for what it has itself -/
theorem goes_free (h : Inv V d E b now) (g : Goes V d E b w) (hu : V.use w r = true) : ∀ e ∈ E, e.2 = r → e.1 = w := by
  intro e he hr
  by_cases hn : e.1 = w
  · exact hn
  · have h1 := goes_low h g e he hn
    have h2 := V.high w r hu
    rw [hr] at h1
    omega
/-- somebody goes on, if there is a job -/
theorem goes_some (h : Inv V d E b now) {f : Int} (hf : Fst d f) : ∃ w, Goes V d E b w := by
  by_cases ho : Ok V E b f
  · exact ⟨f, f, hf, Or.inl ⟨ho, rfl⟩⟩
  · cases hE : E.getLast? with
    | none =>
      exfalso
      have : E = [] := List.getLast?_eq_none_iff.1 hE
      subst this
      have := V.pos f (h.dom f hf.job).1 (h.dom f hf.job).2
      exact ho (Or.inr (by simp only [cl]; omega))
    | some e =>
      obtain ⟨E', q⟩ := List.getLast?_eq_some_iff.1 hE
      exact ⟨e.1, f, hf, Or.inr ⟨ho, E', e, q, rfl⟩⟩
theorem std_lock (q : Std (E ++ [(w, r)]) b s) : Std E b s ∨ s = w := by
  rcases q with q | ⟨e, he, rfl⟩
  · exact Or.inl (Or.inl q)
  · rcases List.mem_append.1 he with q | q
    · exact Or.inl (Or.inr ⟨e, q, rfl⟩)
    · rw [List.mem_singleton.1 q]; exact Or.inr rfl
/-- nobody is ahead of who goes on, and has begun; so it may be counted among those -/
theorem goes_rel (h : Inv V d E b now) (g : Goes V d E b w) : ∀ f, 0 ≤ d f → Ah d f w → d w - V.D w ≤ d f - V.D f := by
  intro f hf k
  have g0 := g
  obtain ⟨f', hf', ⟨ho, rfl⟩ | ⟨ho, E', x, hE, rfl⟩⟩ := g0
  · exact absurd (hf'.ah f hf (fun e => by subst e; exact k.not k)) (fun q => q.not k)
  · exact h.rel x.1 f (Or.inr ⟨x, by rw [hE]; exact List.mem_append_right _ (List.mem_singleton.2 rfl), rfl⟩) hf k
/-- who goes on locks something -/
theorem Inv.lock (h : Inv V d E b now) (g : Goes V d E b w) (r : Int) : Inv V d (E ++ [(w, r)]) b now := by
  have hj := goes_job h g
  refine ⟨fun e he => ?_, h.dom, h.beg, ?_, fun s f q hf k => ?_, fun s q e he hn k => ?_, h.now⟩
  · rcases List.mem_append.1 he with q | q
    · exact h.own e q
    · rw [List.mem_singleton.1 q]; exact hj
  · refine List.pairwise_append.2 ⟨h.ord, List.pairwise_singleton _ _, fun a ha e he => ?_⟩
    rw [List.mem_singleton.1 he]
    by_cases hn : a.1 = w
    · exact Or.inl hn
    · exact Or.inr (goes_ahead h g (Or.inr ⟨a, ha, rfl⟩) hn)
  · rcases std_lock q with q | rfl
    · exact h.rel s f q hf k
    · exact goes_rel h g f hf k
  · rcases List.mem_append.1 he with p | p
    · rcases std_lock q with q | rfl
      · exact h.low s q e p hn k
      · exact goes_low h g e p hn
    · rw [List.mem_singleton.1 p] at hn k ⊢
      rcases std_lock q with q | rfl
      · exact absurd (goes_ahead h g q (fun y => hn y.symm)) (fun z => z.not k)
      · exact absurd rfl hn
def upd (b : Int → Bool) (t : Int) (x : Bool) : Int → Bool := fun i => if i = t then x else b i
theorem std_run (q : Std E (upd b w true) s) : Std E b s ∨ s = w := by
  rcases q with q | q
  · unfold upd at q
    by_cases e : s = w
    · exact Or.inr e
    · rw [if_neg e] at q; exact Or.inl (Or.inl q)
  · exact Or.inl (Or.inr q)
/-- who goes on begins -/
theorem Inv.run (h : Inv V d E b now) (g : Goes V d E b w) : Inv V d E (upd b w true) now := by
  have hj := goes_job h g
  refine ⟨h.own, h.dom, fun t q => ?_, h.ord, fun s f q hf k => ?_, fun s q e he hn k => ?_, h.now⟩
  · unfold upd at q
    by_cases e : t = w
    · subst e; exact hj
    · rw [if_neg e] at q; exact h.beg t q
  · rcases std_run q with q | rfl
    · exact h.rel s f q hf k
    · exact goes_rel h g f hf k
  · rcases std_run q with q | rfl
    · exact h.low s q e he hn k
    · exact goes_low h g e he hn
/-- something is unlocked -/
theorem Inv.sub (h : Inv V d E b now) {E' : List En} (q : E'.Sublist E) : Inv V d E' b now := by
  have hs : ∀ s, Std E' b s → Std E b s := fun s k => by
    rcases k with k | ⟨e, he, rfl⟩
    · exact Or.inl k
    · exact Or.inr ⟨e, q.subset he, rfl⟩
  exact ⟨fun e he => h.own e (q.subset he), h.dom, h.beg, h.ord.sublist q, fun s f k => h.rel s f (hs s k), fun s k e he => h.low s (hs s k) e (q.subset he), h.now⟩
def updI (d : Int → Int) (t : Int) (x : Int) : Int → Int := fun i => if i = t then x else d i
/-- a job ends -/
theorem Inv.fin (h : Inv V d E b now) (t : Int) : Inv V (updI d t (-1)) (drp E t) (upd b t false) now := by
  have hd : ∀ i, 0 ≤ updI d t (-1) i → i ≠ t ∧ updI d t (-1) i = d i ∧ 0 ≤ d i := fun i q => by
    unfold updI at q ⊢
    by_cases e : i = t
    · rw [if_pos e] at q; omega
    · rw [if_neg e] at q ⊢; exact ⟨e, rfl, q⟩
  have hn : ∀ i, i ≠ t → updI d t (-1) i = d i := fun i e => if_neg e
  have he : ∀ e ∈ drp E t, e ∈ E ∧ e.1 ≠ t := fun e q => by
    unfold drp at q
    rw [List.mem_filter] at q
    exact ⟨q.1, by simpa using q.2⟩
  have hs : ∀ s, Std (drp E t) (upd b t false) s → Std E b s ∧ s ≠ t := fun s k => by
    rcases k with k | ⟨e, hm, rfl⟩
    · unfold upd at k
      by_cases e : s = t
      · rw [if_pos e] at k; cases k
      · rw [if_neg e] at k; exact ⟨Or.inl k, e⟩
    · exact ⟨Or.inr ⟨e, (he e hm).1, rfl⟩, (he e hm).2⟩
  have ha : ∀ x y, x ≠ t → y ≠ t → (Ah (updI d t (-1)) x y ↔ Ah d x y) := fun x y hx hy => by unfold Ah; rw [hn x hx, hn y hy]
  refine ⟨fun e q => ?_, fun i q => h.dom i (hd i q).2.2, fun i q => ?_, ?_, fun s f q hf k => ?_, fun s q e hm hne k => ?_, fun i q => ?_⟩
  · rw [hn _ (he e q).2]; exact h.own e (he e q).1
  · unfold upd at q
    by_cases e : i = t
    · rw [if_pos e] at q; cases q
    · rw [if_neg e] at q; rw [hn i e]; exact h.beg i q
  · refine ((h.ord.sublist (drp_sub E t)).imp_of_mem ?_)
    intro a e hma hme q
    rcases q with q | q
    · exact Or.inl q
    · exact Or.inr ((ha _ _ (he e hme).2 (he a hma).2).2 q)
  · obtain ⟨p1, p2⟩ := hs s q
    obtain ⟨q1, q2, q3⟩ := hd f hf
    rw [hn s p2, q2]
    exact h.rel s f p1 q3 ((ha f s q1 p2).1 k)
  · obtain ⟨p1, p2⟩ := hs s q
    exact h.low s p1 e (he e hm).1 hne ((ha s e.1 p2 (he e hm).2).1 k)
  · obtain ⟨q1, q2, q3⟩ := hd i q
    rw [q2]; exact h.now i q3
/-- a job is released -/
theorem Inv.put (h : Inv V d E b now) (ht : d t < 0) (h0 : 0 ≤ t) (h1 : t < V.n) (hD : 0 ≤ V.D t) (hn0 : 0 ≤ now) : Inv V (updI d t (now + V.D t)) E b now := by
  have hne : ∀ i, 0 ≤ d i → i ≠ t := fun i q e => by subst e; omega
  have hn : ∀ i, i ≠ t → updI d t (now + V.D t) i = d i := fun i e => if_neg e
  have hs : ∀ s, Std E b s → s ≠ t := fun s q => hne s (h.job q)
  have ha : ∀ x y, x ≠ t → y ≠ t → (Ah (updI d t (now + V.D t)) x y ↔ Ah d x y) := fun x y hx hy => by unfold Ah; rw [hn x hx, hn y hy]
  refine ⟨fun e q => ?_, fun i q => ?_, fun i q => ?_, ?_, fun s f q hf k => ?_, fun s q e hm hne' k => ?_, fun i q => ?_⟩
  · rw [hn _ (hne _ (h.own e q))]; exact h.own e q
  · by_cases e : i = t
    · subst e; exact ⟨h0, h1⟩
    · rw [hn i e] at q; exact h.dom i q
  · rw [hn i (hne i (h.beg i q))]; exact h.beg i q
  · refine h.ord.imp_of_mem ?_
    intro a e hma hme q
    rcases q with q | q
    · exact Or.inl q
    · exact Or.inr ((ha _ _ (hne _ (h.own e hme)) (hne _ (h.own a hma))).2 q)
  · have p := hs s q
    rw [hn s p]
    by_cases e : f = t
    · subst e
      have := h.now s (h.job q)
      simp only [updI, if_pos]
      omega
    · rw [hn f e] at hf ⊢
      exact h.rel s f q hf ((ha f s e p).1 k)
  · exact h.low s q e hm hne' ((ha s e.1 (hs s q) (hne _ (h.own e hm))).1 k)
  · by_cases e : i = t
    · subst e; simp only [updI, if_pos]; omega
    · rw [hn i e] at q ⊢; exact h.now i q
theorem Inv.tick (h : Inv V d E b now) : Inv V d E b (now + 1) := ⟨h.own, h.dom, h.beg, h.ord, h.rel, h.low, fun t q => by have := h.now t q; omega⟩
end
end Go.Proofs.YtkkmfpllgjoceaaGreat.Ro
