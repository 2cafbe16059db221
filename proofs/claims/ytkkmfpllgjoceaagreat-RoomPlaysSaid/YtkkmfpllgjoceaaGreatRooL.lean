/- A room, plainly: as long as only who goes on does anything, and nobody asks for what partitions share. -/
import Derived.Test.YtkkmfpllgjoceaaGreatRooS
namespace Go.Proofs.YtkkmfpllgjoceaaGreat.Ro
open Ac Jo
set_option linter.unusedVariables false

/-- has a task's job begun? -/
def Rm.bg (s : Rm) (t : Int) : Bool := decide (0 ≤ s.dl t) && (s.j t).b
theorem bg_job {s : Rm} {t : Int} (h : s.bg t = true) : 0 ≤ s.dl t := by
  unfold Rm.bg at h
  simp only [Bool.and_eq_true, decide_eq_true_eq] at h
  exact h.1
def Rm.ev (s : Rm) : Env := env s.n s.z
structure Pl (s : Rm) (now : Int) : Prop where
  iv : Rinv s
  i : Inv s.ev s.dl s.E s.bg now
  c1 : ∀ i : Nat, i < s.n → 0 ≤ s.dl i → (s.J i).c < 2
  now0 : 0 ≤ now
theorem sole_none {s : Rm} (h : ∀ i : Nat, i < s.n → 0 ≤ s.dl i → (s.J i).c < 2) : ∀ k, k ≤ s.n → sole s k = none
  | 0, _ => rfl
  | k + 1, hk => by
    unfold sole
    rw [sole_none h k (by omega)]
    simp only
    rw [if_neg (by intro q; have := h k (by omega) q.1; omega)]
theorem fs_fst {s : Rm} (h : Rinv s) (hl : 0 < (Rq.Rd.srt s.L).length) : Fst s.dl (Rq.Rd.fs s.L).1 ∧ 0 ≤ (Rq.Rd.fs s.L).1 ∧ (Rq.Rd.fs s.L).1 < s.n := by
  obtain ⟨h1, h2⟩ := Rq.Rd.fs_is hl
  obtain ⟨h3, h4⟩ := Rq.Rd.mp_is h1
  have h5 := Rq.Rd.dl_in (L := s.L) (t := (Rq.Rd.fs s.L).1) (by omega)
  rw [h.len] at h5
  refine ⟨⟨by show 0 ≤ Rq.Rd.dl s.L _; omega, fun g hg hn => ?_⟩, h5.1, h5.2⟩
  have hg' : 0 ≤ Rq.Rd.dl s.L g := hg
  have := h2 g _ (Rq.Rd.mp_some hg')
  unfold Rq.Rk.le Rq.Rk.lt at this
  unfold Ah
  show Rq.Rd.dl s.L _ < Rq.Rd.dl s.L g ∨ (Rq.Rd.dl s.L _ = Rq.Rd.dl s.L g ∧ _)
  rw [h3]
  simp only at this
  omega
/-- who goes on -/
theorem who_goes {s : Rm} {now : Int} (h : Pl s now) : (∃ w, who s = some w ∧ Goes s.ev s.dl s.E s.bg w) ∨ (who s = none ∧ (Rq.Rd.srt s.L).length = 0) := by
  unfold who
  rw [sole_none h.c1 s.n (Nat.le_refl _)]
  simp only
  by_cases hl : (Rq.Rd.srt s.L).length = 0
  · rw [if_pos hl]; exact Or.inr ⟨rfl, hl⟩
  rw [if_neg hl]
  obtain ⟨hf, f0, f1⟩ := fs_fst h.iv (by omega)
  generalize (Rq.Rd.fs s.L).1 = f at *
  have hbg : s.bg f = (s.j f).b := by
    unfold Rm.bg
    rw [show decide (0 ≤ s.dl f) = true from decide_eq_true hf.job, Bool.true_and]
  left
  by_cases ho : (s.j f).b = true ∨ cl (env s.n s.z).c s.E < (env s.n s.z).lev f
  · refine ⟨f, by rw [if_pos ho], f, hf, Or.inl ⟨?_, rfl⟩⟩
    rcases ho with ho | ho
    · exact Or.inl (hbg.trans ho)
    · exact Or.inr ho
  · have ho' : ¬ Ok s.ev s.E s.bg f := by
      rintro (y | y)
      · exact ho (Or.inl (hbg.symm.trans y))
      · exact ho (Or.inr y)
    rw [if_neg ho]
    cases hE : s.E.getLast? with
    | none =>
      exfalso
      have : s.E = [] := List.getLast?_eq_none_iff.1 hE
      have hp := s.ev.pos f f0 f1
      refine ho' (Or.inr ?_)
      rw [this]
      simp only [cl]
      omega
    | some e =>
      obtain ⟨E', q⟩ := List.getLast?_eq_some_iff.1 hE
      exact ⟨e.1, rfl, f, hf, Or.inr ⟨ho', E', e, q, rfl⟩⟩
theorem inv_cong {V : Env} {d d' : Int → Int} {E : List St.Sk.En} {b b' : Int → Bool} {now : Int} (h : Inv V d E b now) (h1 : d' = d) (h2 : b' = b) : Inv V d' E b' now := by subst h1; subst h2; exact h
theorem setJ_bg {s : Rm} {t : Int} {j : Jb} (h0 : 0 ≤ t) (hr : ∀ i, 0 ≤ s.dl i → 0 ≤ i) : (setJ s t j).bg = fun i => if i = t then (decide (0 ≤ s.dl t) && j.b) else s.bg i := by
  funext i
  show (decide (0 ≤ s.dl i) && (if i.toNat = t.toNat then j else s.J i.toNat).b) = _
  by_cases e : i = t
  · subst e
    rw [if_pos rfl, if_pos rfl]
  · rw [if_neg e]
    by_cases hd : 0 ≤ s.dl i
    · have := hr i hd
      rw [if_neg (by omega)]; rfl
    · rw [show decide (0 ≤ s.dl i) = false from decide_eq_false hd]
      unfold Rm.bg
      rw [show decide (0 ≤ s.dl i) = false from decide_eq_false hd, Bool.false_and, Bool.false_and]
theorem dl_in' {s : Rm} (h : Rinv s) {i : Int} (hd : 0 ≤ s.dl i) : 0 ≤ i ∧ i < s.n := by
  have := Rq.Rd.dl_in (L := s.L) (t := i) hd
  rw [h.len] at this
  exact this
theorem setJ_c {s : Rm} {t : Int} {j : Jb} (hc : ∀ i : Nat, i < s.n → 0 ≤ s.dl i → (s.J i).c < 2) (hj : j.c < 2) : ∀ i : Nat, i < (setJ s t j).n → 0 ≤ (setJ s t j).dl i → ((setJ s t j).J i).c < 2 := fun i h1 h2 => by
  show (if i = t.toNat then j else s.J i).c < 2
  split
  · exact hj
  · exact hc i h1 h2
theorem bg_same {s : Rm} (h : Rinv s) {t : Int} {j : Jb} (h0 : 0 ≤ t) (hb : j.b = (s.j t).b) : (setJ s t j).bg = s.bg := by
  rw [setJ_bg h0 (fun i hd => (dl_in' h hd).1)]
  funext i
  split
  · rename_i e; subst e; rw [hb]; rfl
  · rfl
theorem ent_b (s : Jb) (a : Int) : (entJ s a).b = s.b := by unfold entJ; split <;> rfl
theorem lea_b (s : Jb) : (leaJ s).b = s.b := by unfold leaJ; split <;> rfl
theorem lea_c (s : Jb) : (leaJ s).c = 0 := by
  unfold leaJ
  split
  · rename_i h; exact h
  · rfl
theorem ent1_c {s : Jb} (h : s.c < 2) : (entJ s 1).c < 2 := by
  unfold entJ
  split
  · show (1 : Int) < 2; decide
  · exact h
section
variable {s : Rm} {now w r t : Int}
theorem Pl.lock (h : Pl s now) (g : Goes s.ev s.dl s.E s.bg w) (r : Int) : Pl (lockR s w r) now := by
  have hr := h.iv.lock w r
  unfold lockR at hr ⊢
  by_cases q : lockRE s w r = 0
  · rw [if_pos q] at hr ⊢
    obtain ⟨q1, q2, _⟩ := lock_cases q
    have a := asked_in q1
    refine ⟨hr, ?_, setJ_c h.c1 ?_, h.now0⟩
    · refine inv_cong (h.i.lock g r) rfl ?_
      exact bg_same (s := s) (t := w) (j := if (s.j w).c = 0 then entJ (s.j w) 1 else s.j w) h.iv a.1 (by split; exact ent_b _ _; rfl)
    · split
      · exact ent1_c q2
      · exact q2
  · rw [if_neg q]; exact h
theorem Pl.unl (h : Pl s now) (t : Int) : Pl (unlRm s t) now := by
  have hr := h.iv.unl t
  unfold unlRm at hr ⊢
  by_cases q : unlRE s t = 0
  · rw [if_pos q] at hr ⊢
    have q1 : asked s t = 0 := by
      unfold unlRE at q
      split at q
      · rename_i r; exact absurd q r
      · rename_i r; exact Decidable.not_not.1 r
    have a := asked_in q1
    have hc := h.c1 t.toNat (by omega) (by rw [show ((t.toNat : Nat) : Int) = t by omega]; exact a.2.2)
    refine ⟨hr, ?_, setJ_c h.c1 ?_, h.now0⟩
    · exact inv_cong (h.i.sub (unlL_sub s.E t)) rfl (bg_same (h.iv.subE (unlL_sub s.E t)) a.1 (by split; exact lea_b _; rfl))
    · split
      · rw [lea_c]; decide
      · exact hc
  · rw [if_neg q]; exact h
theorem Pl.fin (h : Pl s now) (t : Int) : Pl (endR s t) now := by
  have hr := h.iv.fin t
  unfold endR at hr ⊢
  by_cases q : asked s t = 0
  · rw [if_pos q] at hr ⊢
    have a := asked_in q
    have hd : ∀ i, Rq.Rd.dl (Rq.Rd.rmL s.L t) i = if i = t then -1 else s.dl i := fun i => by
      by_cases e : i = t
      · subst e
        rw [if_pos rfl]
        unfold Rq.Rd.rmL
        rw [if_pos (show 0 ≤ Rq.Rd.dl s.L i from a.2.2), Rq.Rd.dl_set a.1 (by rw [h.iv.len]; exact a.2.1), if_pos rfl]
      · rw [if_neg e, rm_other e]; rfl
    refine ⟨hr, inv_cong (h.i.fin t) ?_ ?_, fun i h1 h2 => ?_, h.now0⟩
    · funext i; exact hd i
    · funext i
      show (decide (0 ≤ Rq.Rd.dl (Rq.Rd.rmL s.L t) i) && (s.j i).b) = upd s.bg t false i
      rw [hd]
      unfold upd
      by_cases e : i = t
      · rw [if_pos e, if_pos e]; rfl
      · rw [if_neg e, if_neg e]; rfl
    · have h2' : 0 ≤ Rq.Rd.dl (Rq.Rd.rmL s.L t) (i : Int) := h2
      rw [hd] at h2'
      by_cases e : (i : Int) = t
      · rw [if_pos e] at h2'; omega
      · rw [if_neg e] at h2'; exact h.c1 i h1 h2'
  · rw [if_neg q]; exact h
theorem Pl.run (h : Pl s now) (g : Goes s.ev s.dl s.E s.bg w) : Pl (runR s w) now := by
  have hr := h.iv.run w
  unfold runR at hr ⊢
  by_cases q : asked s w = 0
  · rw [if_pos q] at hr ⊢
    have a := asked_in q
    have hc : (s.j w).c < 2 := h.c1 w.toNat (by omega) (by rw [show ((w.toNat : Nat) : Int) = w by omega]; exact a.2.2)
    refine ⟨hr, ?_, setJ_c h.c1 (by rw [run_c]; exact hc), h.now0⟩
    by_cases hx : runE (s.j w) = 0
    · refine inv_cong (h.i.run g) rfl ?_
      rw [setJ_bg a.1 (fun i hd => (dl_in' h.iv hd).1)]
      funext i
      unfold upd
      split
      · have hb : (runJ (s.j w)).b = true := by
          unfold runJ
          unfold runE at hx
          split at hx
          · cases hx
          · rename_i h3
            rw [if_neg h3, if_pos hx]
        rw [hb, Bool.and_true]
        exact decide_eq_true a.2.2
      · rfl
    · have hs : runJ (s.j w) = s.j w := by
        unfold runJ
        unfold runE at hx
        split
        · rfl
        · rename_i h3
          rw [if_neg h3] at hx
          rw [if_neg hx]
      exact inv_cong h.i rfl (bg_same h.iv a.1 (by rw [hs]))
  · rw [if_neg q]; exact h
theorem Pl.rel (h : Pl s now) (t : Int) (l : List Ak) : Pl (relR s t l now) now := by
  have hr := h.iv.rel t l now
  unfold relR at hr ⊢
  by_cases q : relE s t l now = 0
  · rw [if_pos q] at hr ⊢
    obtain ⟨a1, a2, a3, a4, a5, _⟩ := rel_cases q
    have hb := tok_bd (h.iv.tok t.toNat (by omega))
    have hd : ∀ i, Rq.Rd.dl (s.L.set t.toNat (now + s.t t 1)) i = if i = t then now + s.t t 1 else s.dl i := fun i => Rq.Rd.dl_set a1 (by rw [h.iv.len]; exact a2) _ _
    refine ⟨hr, inv_cong (h.i.put a3 a1 a2 (by show 0 ≤ s.z t.toNat 1; omega) a4) ?_ ?_, fun i h1 h2 => ?_, h.now0⟩
    · funext i; exact hd i
    · funext i
      show (decide (0 ≤ Rq.Rd.dl (s.L.set t.toNat (now + s.t t 1)) i) && (if i.toNat = t.toNat then fresh (s.t t) (now + s.t t 1) l else s.J i.toNat).b) = s.bg i
      rw [hd]
      by_cases e : i = t
      · subst e
        rw [if_pos rfl, if_pos rfl]
        have : s.bg i = false := by
          unfold Rm.bg
          rw [show decide (0 ≤ s.dl i) = false from decide_eq_false (by omega), Bool.false_and]
        rw [this]
        exact Bool.and_false _
      · rw [if_neg e]
        by_cases hdi : 0 ≤ s.dl i
        · have := (dl_in' h.iv hdi).1
          rw [if_neg (by omega)]; rfl
        · unfold Rm.bg
          rw [show decide (0 ≤ s.dl i) = false from decide_eq_false hdi, Bool.false_and, Bool.false_and]
    · show (if i = t.toNat then fresh (s.t t) (now + s.t t 1) l else s.J i).c < 2
      split
      · show (0 : Int) < 2; decide
      · rename_i e
        have h2' : 0 ≤ Rq.Rd.dl (s.L.set t.toNat (now + s.t t 1)) (i : Int) := h2
        rw [hd, if_neg (by omega)] at h2'
        exact h.c1 i h1 h2'
  · rw [if_neg q]; exact h
theorem Pl.tick (h : Pl s now) : Pl s (now + 1) := ⟨h.iv, h.i.tick, h.c1, by have := h.now0; omega⟩
/-- what who goes on uses is free, but for what it has itself -/
theorem Pl.free (h : Pl s now) (g : Goes s.ev s.dl s.E s.bg w) (hu : s.us w r = true) : ∀ e ∈ s.E, e.2 = r → e.1 = w := goes_free h.i g hu
theorem Pl.goes_in (h : Pl s now) (g : Goes s.ev s.dl s.E s.bg w) : 0 ≤ w ∧ w < s.n ∧ asked s w = 0 := by
  have := asked_job h.iv (goes_job h.i g)
  exact ⟨this.2.1, this.2.2, this.1⟩
theorem Pl.no {n : Nat} {z : Nat → Nat → Int} (hi : Rinv (noRm n z)) (h0 : 0 ≤ now) : Pl (noRm n z) now := by
  have hd : ∀ i, (noRm n z).dl i = -1 := fun i => Rq.Rd.no_dl n i
  have hb : ∀ i, (noRm n z).bg i = false := fun i => by unfold Rm.bg; rw [hd]; rfl
  exact ⟨hi, ⟨fun e he => (by cases he), fun t q => (by rw [hd] at q; omega), fun t q => (by rw [hb] at q; cases q), List.Pairwise.nil, fun s f q _ _ => (by
    rcases q with q | ⟨e, he, _⟩
    · rw [hb] at q; cases q
    · cases he), fun s q e he => (by cases he), fun t q => (by rw [hd] at q; omega)⟩, fun i _ q => (by rw [hd] at q; omega), h0⟩
end
end Go.Proofs.YtkkmfpllgjoceaaGreat.Ro
