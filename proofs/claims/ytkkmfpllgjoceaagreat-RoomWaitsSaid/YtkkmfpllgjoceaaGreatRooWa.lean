/- Who kept whom waiting, through what who goes on does (P18.8), plainly; the two arrays in memory. -/
import Derived.Test.YtkkmfpllgjoceaaGreatRooT
namespace Go.Proofs.YtkkmfpllgjoceaaGreat.Ro
open Ac Jo
set_option linter.unusedVariables false
set_option maxRecDepth 100000

section
variable {s : Rm} {now w x : Int} {had : Int → Int → Bool} {wh : Int → Int}
/-- what is asked of a room and the two arrays -/
abbrev Wt (s : Rm) (had : Int → Int → Bool) (wh : Int → Int) : Prop := Wts s.ev s.dl s.E had wh
theorem Wt.act (h : Pl s now) (g : Goes s.ev s.dl s.E s.bg w) (q : Wt s had wh) (hb : ∀ t, 0 ≤ s.dl t → s.dl t < s.dl w → wh t = w + 1) (x : Int) : Wt (actS s w x) had wh := by
  unfold actS
  split
  · unfold lockR
    split
    · exact Wts.lock h.i q g hb _
    · exact q
  · split
    · unfold unlRm
      split
      · exact q.sub (fun e he => (unlL_sub s.E w).subset he)
      · exact q
    · split
      · unfold endR
        split
        · rename_i ha
          have h1 := (asked_in ha)
          have hd : (fun i => Rq.Rd.dl (Rq.Rd.rmL s.L w) i) = updI s.dl w (-1) := by
            funext i
            unfold updI
            by_cases e : i = w
            · subst e
              rw [if_pos rfl]
              unfold Rq.Rd.rmL
              rw [if_pos (show 0 ≤ Rq.Rd.dl s.L i from h1.2.2), Rq.Rd.dl_set h1.1 (by rw [h.iv.len]; exact h1.2.1), if_pos rfl]
            · rw [if_neg e, rm_other e]; rfl
          show Wts s.ev (fun i => Rq.Rd.dl (Rq.Rd.rmL s.L w) i) (St.Sk.drp s.E w) had wh
          rw [hd]
          exact q.fin w
        · exact q
      · unfold runR
        split
        · exact q
        · exact q
/-- a job is released: what is noted of it -/
theorem Wt.rel (h : Pl s now) (q : Wt s had wh) {t : Int} {l : List Ak} (he : relE s t l now = 0) {had' : Int → Int → Bool} {wh' : Int → Int}
    (k1 : ∀ a u, a ≠ t → had' a u = had a u) (k2 : ∀ u, Hd s.E u → had' t u = true) (k3 : wh' t = 0) (k4 : ∀ a, a ≠ t → wh' a = wh a) : Wt (relR s t l now) had' wh' := by
  obtain ⟨a1, a2, a3, _⟩ := rel_cases he
  have hd : (relR s t l now).dl = updI s.dl t (now + s.t t 1) := by
    funext i
    unfold relR
    rw [if_pos he]
    show Rq.Rd.dl (s.L.set t.toNat (now + s.t t 1)) i = _
    rw [Rq.Rd.dl_set a1 (by rw [h.iv.len]; exact a2)]
    rfl
  have hE : (relR s t l now).E = s.E := by unfold relR; rw [if_pos he]
  have hv : (relR s t l now).ev = s.ev := by unfold relR; rw [if_pos he]; rfl
  show Wts (relR s t l now).ev (relR s t l now).dl (relR s t l now).E had' wh'
  rw [hd, hE, hv]
  exact Wts.put h.i q a3 a1 a2 k1 k2 k3 k4
/-- nobody is released -/
theorem Wt.norel (q : Wt s had wh) {t : Int} {l : List Ak} (he : relE s t l now ≠ 0) : Wt (relR s t l now) had wh := by
  unfold relR
  rw [if_neg he]; exact q
end
end Go.Proofs.YtkkmfpllgjoceaaGreat.Ro
