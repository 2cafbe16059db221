/- A step of a play, plainly. -/
import Derived.Test.YtkkmfpllgjoceaaGreatRooG
namespace Go.Proofs.YtkkmfpllgjoceaaGreat.Ro
open Ac Jo
set_option linter.unusedVariables false
set_option maxRecDepth 100000

def run64 : List Ak := [⟨1, 64, e0⟩]
/-- is a job released? -/
def isRel (s : Rm) (x : Int) : Prop := x.tmod 3 = 0 ∧ 0 < s.n
instance (s : Rm) (x : Int) : Decidable (isRel s x) := by unfold isRel; exact inferInstance
def relT (s : Rm) (x : Int) : Int := (x.tdiv 3).tmod (s.n : Int)
def kindX (x : Int) : Int := (x.tdiv 3).tmod 8
def resX (x : Int) : Int := (x.tdiv 24).tmod 4
/-- what w does -/
def actS (s : Rm) (w x : Int) : Rm := if kindX x ≤ 2 then lockR s w (resX x) else if kindX x = 3 then unlRm s w else if kindX x = 4 then endR s w else runR s w
def actO (s : Rm) (w x : Int) (O : List Int) : List Int :=
  if kindX x ≤ 2 then (if lockRE s w (resX x) = 0 ∧ (heldV (lockR s w (resX x)) w).length = 1 then O ++ [w] else O)
  else if kindX x = 3 then (if unlRE s w = 0 ∧ (heldV (unlRm s w) w).length = 0 then gone O w else O)
  else if kindX x = 4 then gone O w else O
def stepS (s : Rm) (now x : Int) : Rm := if isRel s x then relR s (relT s x) run64 now else match who s with | some w => actS s w x | none => s
def stepN (s : Rm) (now x : Int) : Int := if isRel s x then now else now + 1
def stepO (s : Rm) (x : Int) (O : List Int) : List Int := if isRel s x then O else match who s with | some w => actO s w x O | none => O
section
variable {s : Rm} {now w r t x : Int} {O : List Int}
theorem lockR_nz (s : Rm) (t r : Int) : (lockR s t r).n = s.n ∧ (lockR s t r).z = s.z := by unfold lockR; split <;> exact ⟨rfl, rfl⟩
theorem unlR_nz (s : Rm) (t : Int) : (unlRm s t).n = s.n ∧ (unlRm s t).z = s.z := by unfold unlRm; split <;> exact ⟨rfl, rfl⟩
theorem endR_nz (s : Rm) (t : Int) : (endR s t).n = s.n ∧ (endR s t).z = s.z := by unfold endR; split <;> exact ⟨rfl, rfl⟩
theorem runR_nz (s : Rm) (t : Int) : (runR s t).n = s.n ∧ (runR s t).z = s.z := by unfold runR; split <;> exact ⟨rfl, rfl⟩
theorem relR_nz (s : Rm) (t : Int) (l : List Ak) (now : Int) : (relR s t l now).n = s.n ∧ (relR s t l now).z = s.z := by unfold relR; split <;> exact ⟨rfl, rfl⟩
theorem actS_nz (s : Rm) (w x : Int) : (actS s w x).n = s.n ∧ (actS s w x).z = s.z := by
  unfold actS
  split
  · exact lockR_nz s w _
  · split
    · exact unlR_nz s w
    · split
      · exact endR_nz s w
      · exact runR_nz s w
theorem stepS_nz (s : Rm) (now x : Int) : (stepS s now x).n = s.n ∧ (stepS s now x).z = s.z := by
  unfold stepS
  split
  · exact relR_nz s _ _ _
  · split
    · exact actS_nz s _ x
    · exact ⟨rfl, rfl⟩
theorem Pl.act (h : Pl s now) (g : Goes s.ev s.dl s.E s.bg w) (x : Int) : Pl (actS s w x) now := by
  unfold actS
  split
  · exact h.lock g _
  · split
    · exact h.unl w
    · split
      · exact h.fin w
      · exact h.run g
/-- a step keeps all -/
theorem Pl.step (h : Pl s now) (x : Int) : Pl (stepS s now x) (stepN s now x) := by
  unfold stepS stepN
  by_cases q : isRel s x
  · rw [if_pos q, if_pos q]; exact h.rel _ _
  · rw [if_neg q, if_neg q]
    rcases who_goes h with ⟨w, hw, g⟩ | ⟨hw, _⟩
    · rw [hw]; exact (h.act g x).tick
    · rw [hw]; exact h.tick
theorem hd_held {E : List St.Sk.En} {k : Int} : Hd E k ↔ St.Sk.held E k ≠ [] := by
  constructor
  · rintro ⟨e, he, rfl⟩ hn
    have : e.2 ∈ St.Sk.held E e.1 := St.Sk.held_mem.2 he
    rw [hn] at this
    cases this
  · intro h
    obtain ⟨r, l, hr⟩ := List.exists_cons_of_ne_nil h
    exact ⟨(k, r), St.Sk.held_mem.1 (by rw [hr]; exact List.mem_cons_self ..), rfl⟩
/-- so does the order -/
theorem Ord.step (h : Pl s now) (o : Ord s.dl s.E O) (x : Int) : Ord (stepS s now x).dl (stepS s now x).E (stepO s x O) := by
  unfold stepS stepO
  by_cases q : isRel s x
  · rw [if_pos q, if_pos q]
    unfold relR
    split
    · rename_i q2
      obtain ⟨a1, a2, a3, _⟩ := rel_cases q2
      have := Ord.put (x := now + s.t (relT s x) 1) h.i o a3
      have hd : (fun i => Rq.Rd.dl (s.L.set (relT s x).toNat (now + s.t (relT s x) 1)) i) = updI s.dl (relT s x) (now + s.t (relT s x) 1) := by
        funext i
        rw [Rq.Rd.dl_set a1 (by rw [h.iv.len]; exact a2)]
        rfl
      show Ord (fun i => Rq.Rd.dl (s.L.set (relT s x).toNat (now + s.t (relT s x) 1)) i) s.E O
      rw [hd]
      exact this
    · exact o
  · rw [if_neg q, if_neg q]
    rcases who_goes h with ⟨w, hw, g⟩ | ⟨hw, _⟩
    · rw [hw]
      obtain ⟨w0, w1, wa⟩ := h.goes_in g
      simp only
      unfold actS actO
      by_cases k2 : kindX x ≤ 2
      · rw [if_pos k2, if_pos k2]
        by_cases hl : lockRE s w (resX x) = 0
        · have hE : (lockR s w (resX x)).E = s.E ++ [(w, resX x)] := by unfold lockR; rw [if_pos hl]; rfl
          have hL : (lockR s w (resX x)).dl = s.dl := by unfold lockR; rw [if_pos hl]; rfl
          have hA : asked (lockR s w (resX x)) w = 0 := by
            have hn := (lockR_nz s w (resX x)).1
            unfold asked at wa ⊢
            rw [hn, hL]; exact wa
          rw [hE, hL]
          have hH : (heldV (lockR s w (resX x)) w).length = (St.Sk.held s.E w).length + 1 := by
            unfold heldV
            rw [if_pos hA, hE, St.Sk.held_append, St.Sk.held_one, if_pos rfl, List.length_append]
            rfl
          by_cases h1 : (St.Sk.held s.E w).length = 0
          · rw [if_pos ⟨hl, by rw [hH]; omega⟩]
            exact Ord.snoc h.i g o (fun y => hd_held.1 y (List.eq_nil_of_length_eq_zero h1)) _
          · rw [if_neg (by intro y; rw [hH] at y; omega)]
            exact o.keep (fun t _ ⟨e, he, ht⟩ => ⟨e, List.mem_append_left _ he, ht⟩)
        · have : lockR s w (resX x) = s := if_neg hl
          rw [this, if_neg (by intro y; exact hl y.1)]
          exact o
      · rw [if_neg k2, if_neg k2]
        by_cases k3 : kindX x = 3
        · rw [if_pos k3, if_pos k3]
          by_cases hl : unlRE s w = 0
          · have hE : (unlRm s w).E = St.Sk.unlL s.E w := by unfold unlRm; rw [if_pos hl]; rfl
            have hL : (unlRm s w).dl = s.dl := by unfold unlRm; rw [if_pos hl]; rfl
            have hA : asked (unlRm s w) w = 0 := by
              have hn := (unlR_nz s w).1
              unfold asked at wa ⊢
              rw [hn, hL]; exact wa
            have hk : ∀ t, t ≠ w → Hd s.E t → Hd (St.Sk.unlL s.E w) t := fun t ht hh => by
              rw [hd_held] at hh ⊢
              unfold St.Sk.unlL
              split
              · rename_i i hi
                obtain ⟨i1, i2, _⟩ := St.Sk.unl_some hi
                rw [St.Sk.held_other i1 i2 ht]; exact hh
              · exact hh
            rw [hE, hL]
            by_cases h1 : (heldV (unlRm s w) w).length = 0
            · rw [if_pos ⟨hl, h1⟩]
              exact o.gone w hk (fun _ _ => rfl)
            · rw [if_neg (by intro y; exact h1 y.2)]
              refine o.keep (fun t _ hh => ?_)
              by_cases e : t = w
              · subst e
                rw [hd_held]
                intro y
                unfold heldV at h1
                rw [if_pos hA, hE, y] at h1
                exact h1 rfl
              · exact hk t e hh
          · have : unlRm s w = s := if_neg hl
            rw [this, if_neg (by intro y; exact hl y.1)]
            exact o
        · rw [if_neg k3, if_neg k3]
          by_cases k4 : kindX x = 4
          · rw [if_pos k4, if_pos k4]
            have hE : (endR s w).E = St.Sk.drp s.E w := by unfold endR; rw [if_pos wa]
            rw [hE]
            refine o.gone w (fun t ht hh => ?_) (fun t ht => ?_)
            · rw [hd_held] at hh ⊢
              rw [St.Sk.held_drp, if_neg ht]; exact hh
            · show Rq.Rd.dl (endR s w).L t = s.dl t
              unfold endR
              rw [if_pos wa]
              exact rm_other ht
          · rw [if_neg k4, if_neg k4]
            have h1 : (runR s w).E = s.E := by unfold runR; split <;> rfl
            have h2 : (runR s w).dl = s.dl := by unfold runR; split <;> rfl
            rw [h1, h2]; exact o
    · rw [hw]; exact o
end
end Go.Proofs.YtkkmfpllgjoceaaGreat.Ro
