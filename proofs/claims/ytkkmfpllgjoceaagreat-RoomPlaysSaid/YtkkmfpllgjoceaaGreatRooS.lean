/- A room, plainly, whole: what each call answers, what the room is behind it. -/
import Derived.Test.YtkkmfpllgjoceaaGreatRooE
import Derived.Test.YtkkmfpllgjoceaaGreatZp
import Derived.Test.YtkkmfpllgjoceaaGreatSpoP
import Derived.Test.YtkkmfpllgjoceaaGreatJobP
namespace Go.Proofs.YtkkmfpllgjoceaaGreat.Ro
open Ac Jo
set_option linter.unusedVariables false

/-- a room: of n tasks (eight numbers each); of each task a deadline, or -1; what is locked; the jobs; the guards' earliest ticks -/
structure Rm where
  n : Nat
  z : Nat → Nat → Int
  L : List Int
  E : List St.Sk.En
  J : Nat → Jb
  G : Nat → Int
def Rm.dl (s : Rm) (t : Int) : Int := Rq.Rd.dl s.L t
def Rm.j (s : Rm) (t : Int) : Jb := s.J t.toNat
/-- is there a job that is asked? -/
def asked (s : Rm) (t : Int) : Int := if t < 0 ∨ (s.n : Int) ≤ t then 9 else if s.dl t < 0 then 250 else 0
def setJ (s : Rm) (t : Int) (j : Jb) : Rm := { s with J := fun i => if i = t.toNat then j else s.J i }
def noRm (n : Nat) (z : Nat → Nat → Int) : Rm := ⟨n, z, Rq.Rd.noL n, [], fun _ => fresh (fun _ => 0) 0 [], fun _ => 0⟩
/-- the task's eight numbers -/
def Rm.t (s : Rm) (t : Int) : Nat → Int := s.z t.toNat
def relE (s : Rm) (t : Int) (l : List Ak) (now : Int) : Int :=
  if t < 0 ∨ (s.n : Int) ≤ t then 9 else if 0 ≤ s.dl t then 141 else if now < 0 then 2 else if 1099511627776 < now then 10 else if newE l ≠ 0 then newE l else Sg.Sp.wt (s.G t.toNat) now
def relR (s : Rm) (t : Int) (l : List Ak) (now : Int) : Rm :=
  if relE s t l now = 0 then { s with L := s.L.set t.toNat (now + s.t t 1), J := fun i => if i = t.toNat then fresh (s.t t) (now + s.t t 1) l else s.J i, G := fun i => if i = t.toNat then now + s.t t 0 else s.G i } else s
def nextV (s : Rm) (t : Int) : List Ak := if asked s t = 0 then (s.j t).l else []
def didRE (s : Rm) (t : Int) : Int := if asked s t = 0 then didE (s.j t).l else asked s t
def didR (s : Rm) (t : Int) : Rm := if asked s t = 0 then setJ s t (didJ (s.j t)) else s
def runRE (s : Rm) (t : Int) : Int := if asked s t = 0 then runE (s.j t) else asked s t
def runR (s : Rm) (t : Int) : Rm := if asked s t = 0 then setJ s t (runJ (s.j t)) else s
def fauR (s : Rm) (t now : Int) : Int := if asked s t = 0 then fau (s.j t) now else 0
/-- does a task use a resource? -/
def Rm.us (s : Rm) (t r : Int) : Bool := St.Lv.us s.n (fun i => s.z i 3) r t
def lockRE (s : Rm) (t r : Int) : Int := if asked s t ≠ 0 then asked s t else if 2 ≤ (s.j t).c then 130 else St.Sk.lockE s.n (s.us t r) s.E t r
def lockR (s : Rm) (t r : Int) : Rm :=
  if lockRE s t r = 0 then setJ { s with E := s.E ++ [(t, r)] } t (if (s.j t).c = 0 then entJ (s.j t) 1 else s.j t) else s
def unlRE (s : Rm) (t : Int) : Int := if asked s t ≠ 0 then asked s t else St.Sk.unlE s.n s.E t
def unlRm (s : Rm) (t : Int) : Rm :=
  if unlRE s t = 0 then setJ { s with E := St.Sk.unlL s.E t } t (if St.Sk.held (St.Sk.unlL s.E t) t = [] then leaJ (s.j t) else s.j t) else s
def askRE (s : Rm) (t : Int) : Int := if asked s t ≠ 0 then asked s t else if s.t t 5 = 0 then 133 else if (s.j t).c = 3 then 0 else entE (s.j t) 3
def askR (s : Rm) (t : Int) : Rm := if askRE s t = 0 ∧ (s.j t).c ≠ 3 then setJ s t (entJ (s.j t) 3) else s
def holdRE (s : Rm) (t : Int) : Int := if asked s t ≠ 0 then asked s t else if (s.j t).c ≠ 3 then 132 else 0
def holdR (s : Rm) (t : Int) : Rm := if holdRE s t = 0 then setJ s t (entJ (s.j t) 2) else s
def giveRE (s : Rm) (t : Int) : Int := if asked s t ≠ 0 then asked s t else if (s.j t).c ≠ 2 then 132 else 0
def giveR (s : Rm) (t : Int) : Rm := if giveRE s t = 0 then setJ s t (leaJ (s.j t)) else s
def endB (s : Rm) (t : Int) : Bool := decide (asked s t = 0)
def endR (s : Rm) (t : Int) : Rm := if asked s t = 0 then { s with L := Rq.Rd.rmL s.L t, E := St.Sk.drp s.E t } else s
def earV (s : Rm) (t : Int) : Int := if t < 0 ∨ (s.n : Int) ≤ t then 0 else s.G t.toNat
def heldV (s : Rm) (t : Int) : List Int := if asked s t = 0 then St.Sk.held s.E t else []
/-- the least task below k whose job is in SectionGlobal or SectionWait -/
def sole (s : Rm) : Nat → Option Nat
  | 0 => none
  | k + 1 => match sole s k with
    | some i => some i
    | none => if 0 ≤ s.dl k ∧ 2 ≤ (s.J k).c then some k else none
def jobsV (s : Rm) : List Int := Rq.Rd.ids (Rq.Rd.srt s.L)
/-- who goes on -/
def who (s : Rm) : Option Int :=
  match sole s s.n with
  | some i => some i
  | none => if (Rq.Rd.srt s.L).length = 0 then none
    else let f := (Rq.Rd.fs s.L).1
      if (s.j f).b = true ∨ cl (env s.n s.z).c s.E < (env s.n s.z).lev f then some f
      else match s.E.getLast? with
        | some e => some e.1
        | none => none
/-- what may be told of a room -/
structure Rinv (s : Rm) : Prop where
  n4 : s.n ≤ 4
  len : s.L.length = s.n
  gd : Rq.Rd.Gd s.L
  ok : St.Sk.Ok s.n s.E
  own : ∀ e ∈ s.E, 0 ≤ s.dl e.1
  tok : ∀ i, i < s.n → Jo.tok (s.z i) = true
  jt : ∀ i, i < s.n → 0 ≤ s.dl i → (s.J i).t = s.z i ∧ (s.J i).e = s.dl i ∧ Jo.Inv (s.J i)
  g0 : ∀ i, i < s.n → Sg.Sp.Ok (s.z i 0) (s.G i)
  z7 : ∀ i, i < s.n → s.z i 7 ≤ 9223372036854775807
  h4 : ∀ t, (St.Sk.held s.E t).length ≤ 4
  hc : ∀ e ∈ s.E, (s.j e.1).c = 1
theorem asked_in {s : Rm} {t : Int} (h : asked s t = 0) : 0 ≤ t ∧ t < s.n ∧ 0 ≤ s.dl t := by
  unfold asked at h
  split at h
  · cases h
  · split at h
    · cases h
    · omega
theorem asked_job {s : Rm} (h : Rinv s) {t : Int} (q : 0 ≤ s.dl t) : asked s t = 0 ∧ 0 ≤ t ∧ t < s.n := by
  have h1 := Rq.Rd.dl_in (L := s.L) (t := t) q
  rw [h.len] at h1
  refine ⟨?_, h1.1, h1.2⟩
  unfold asked
  rw [if_neg (by omega), if_neg (by omega)]
theorem set_j {s : Rm} (h : Rinv s) {t : Int} (h0 : 0 ≤ t) {j : Jb} (ht : j.t = (s.j t).t) (he : j.e = (s.j t).e) (hi : Jo.Inv (s.j t) → Jo.Inv j) (hc : (∃ e ∈ s.E, e.1 = t) → j.c = 1) : Rinv (setJ s t j) := by
  refine ⟨h.n4, h.len, h.gd, h.ok, h.own, h.tok, fun i hi' hd => ?_, h.g0, h.z7, h.h4, fun e he => ?_⟩
  rotate_left
  · show (if e.1.toNat = t.toNat then j else s.J e.1.toNat).c = 1
    by_cases q : e.1.toNat = t.toNat
    · have h1 := (asked_job h (h.own e he)).2.1
      rw [if_pos q]
      exact hc ⟨e, he, by omega⟩
    · rw [if_neg q]; exact h.hc e he
  have := h.jt i hi' hd
  show (if i = t.toNat then j else s.J i).t = _ ∧ (if i = t.toNat then j else s.J i).e = _ ∧ Jo.Inv (if i = t.toNat then j else s.J i)
  by_cases e : i = t.toNat
  · rw [if_pos e]
    subst e
    exact ⟨ht.trans this.1, he.trans this.2.1, hi this.2.2⟩
  · rw [if_neg e]; exact this
theorem did_c (s : Jb) : (didJ s).c = s.c := by unfold didJ; split <;> rfl
theorem run_c (s : Jb) : (runJ s).c = s.c := by
  unfold runJ
  split
  · rfl
  · split <;> rfl
theorem Rinv.c1 {s : Rm} (h : Rinv s) {t : Int} (q : ∃ e ∈ s.E, e.1 = t) : (s.j t).c = 1 := by obtain ⟨e, he, rfl⟩ := q; exact h.hc e he
theorem did_te (s : Jb) : (didJ s).t = s.t ∧ (didJ s).e = s.e := by unfold didJ; split <;> exact ⟨rfl, rfl⟩
theorem run_te (s : Jb) : (runJ s).t = s.t ∧ (runJ s).e = s.e := by
  unfold runJ
  split
  · exact ⟨rfl, rfl⟩
  · split <;> exact ⟨rfl, rfl⟩
theorem ent_te (s : Jb) (a : Int) : (entJ s a).t = s.t ∧ (entJ s a).e = s.e := by unfold entJ; split <;> exact ⟨rfl, rfl⟩
theorem lea_te (s : Jb) : (leaJ s).t = s.t ∧ (leaJ s).e = s.e := by unfold leaJ; split <;> exact ⟨rfl, rfl⟩
theorem Rinv.did {s : Rm} (h : Rinv s) (t : Int) : Rinv (didR s t) := by
  unfold didR
  split
  · rename_i q; exact set_j h (asked_in q).1 (did_te _).1 (did_te _).2 inv_did (fun y => (did_c _).trans (h.c1 y))
  · exact h
theorem Rinv.run {s : Rm} (h : Rinv s) (t : Int) : Rinv (runR s t) := by
  unfold runR
  split
  · rename_i q; exact set_j h (asked_in q).1 (run_te _).1 (run_te _).2 inv_run (fun y => (run_c _).trans (h.c1 y))
  · exact h
theorem Rinv.ask {s : Rm} (h : Rinv s) (t : Int) : Rinv (askR s t) := by
  unfold askR
  split
  · rename_i q
    have q1 : asked s t = 0 := by
      have := q.1
      unfold askRE at this
      split at this
      · rename_i r; exact absurd this r
      · rename_i r; exact Decidable.not_not.1 r
    exact set_j h (asked_in q1).1 (ent_te _ _).1 (ent_te _ _).2 (fun i => inv_ent i 3) (fun y => by
      have c1 := h.c1 y
      unfold entJ
      rw [if_neg (by unfold entE; rw [if_neg (by omega), if_neg (by omega), if_pos (by omega)]; decide)]
      exact c1)
  · exact h
theorem Rinv.hold {s : Rm} (h : Rinv s) (t : Int) : Rinv (holdR s t) := by
  unfold holdR
  split
  · rename_i q
    have q1 : asked s t = 0 := by
      unfold holdRE at q
      split at q
      · rename_i r; exact absurd q r
      · rename_i r; exact Decidable.not_not.1 r
    exact set_j h (asked_in q1).1 (ent_te _ _).1 (ent_te _ _).2 (fun i => inv_ent i 2) (fun y => by
      have c1 := h.c1 y
      unfold holdRE at q
      rw [if_neg (by rw [q1]; exact fun z => z rfl), if_pos (by omega)] at q
      cases q)
  · exact h
theorem Rinv.give {s : Rm} (h : Rinv s) (t : Int) : Rinv (giveR s t) := by
  unfold giveR
  split
  · rename_i q
    have q1 : asked s t = 0 := by
      unfold giveRE at q
      split at q
      · rename_i r; exact absurd q r
      · rename_i r; exact Decidable.not_not.1 r
    exact set_j h (asked_in q1).1 (lea_te _).1 (lea_te _).2 inv_lea (fun y => by
      have c1 := h.c1 y
      unfold giveRE at q
      rw [if_neg (by rw [q1]; exact fun z => z rfl), if_pos (by omega)] at q
      cases q)
  · exact h
theorem lock_cases {s : Rm} {t r : Int} (h : lockRE s t r = 0) : asked s t = 0 ∧ (s.j t).c < 2 ∧ St.Sk.lockE s.n (s.us t r) s.E t r = 0 := by
  unfold lockRE at h
  split at h
  · rename_i q; exact absurd h q
  · rename_i q
    split at h
    · cases h
    · rename_i q2; exact ⟨Decidable.not_not.1 q, by omega, h⟩
theorem Rinv.lock {s : Rm} (h : Rinv s) (t r : Int) : Rinv (lockR s t r) := by
  unfold lockR
  split
  · rename_i q
    obtain ⟨q1, _, q2⟩ := lock_cases q
    obtain ⟨a1, a2, a3⟩ := asked_in q1
    unfold St.Sk.lockE at q2
    rw [if_pos ⟨a1, a2⟩] at q2
    split at q2
    · rename_i hu
      split at q2
      · cases q2
      · rename_i hh
        split at q2
        · cases q2
        · rename_i h4
          have hr := (us_in hu).2
          have hj := h.jt t.toNat (by omega) (by rw [show ((t.toNat : Nat) : Int) = t by omega]; exact a3)
          have hc0 : 0 ≤ (s.j t).c := hj.2.2.c0
          have e1 : (if (s.j t).c = 0 then entJ (s.j t) 1 else s.j t).c = 1 := by
            split
            · rename_i z
              unfold entJ
              rw [if_pos (by unfold entE; rw [if_neg (by omega), if_neg (by omega), if_neg (by omega), if_neg (by omega)])]
            · omega
          have h2 : Rinv (setJ s t (if (s.j t).c = 0 then entJ (s.j t) 1 else s.j t)) := by
            refine set_j h a1 ?_ ?_ ?_ (fun _ => e1)
            · split
              · exact (ent_te _ _).1
              · rfl
            · split
              · exact (ent_te _ _).2
              · rfl
            · split
              · exact fun i => inv_ent i 1
              · exact id
          generalize (if (s.j t).c = 0 then entJ (s.j t) 1 else s.j t) = jj at *
          exact ⟨h2.n4, h2.len, h2.gd, h2.ok.snoc ⟨a1, a2⟩ hr (show St.Sk.has s.E r = false by simpa using hh), fun e he => by
            rcases List.mem_append.1 he with y | y
            · exact h2.own e y
            · rw [List.mem_singleton.1 y]; exact a3, h2.tok, h2.jt, h2.g0, h2.z7, fun u => by
              have q5 := h.h4 u
              show (St.Sk.held (s.E ++ [(t, r)]) u).length ≤ 4
              rw [St.Sk.held_append, St.Sk.held_one]
              by_cases e : t = u
              · subst e
                rw [if_pos rfl, List.length_append]
                simp only [List.length_singleton]
                omega
              · rw [if_neg (by exact e), List.append_nil]; exact q5, fun e he => by
            rcases List.mem_append.1 he with y | y
            · exact h2.hc e y
            · rw [List.mem_singleton.1 y]
              show (if t.toNat = t.toNat then jj else s.J t.toNat).c = 1
              rw [if_pos rfl]
              exact e1⟩
    · cases q2
  · exact h
theorem held_sub_len {l m : List St.Sk.En} (s : m.Sublist l) (t : Int) : (St.Sk.held m t).length ≤ (St.Sk.held l t).length := by
  unfold St.Sk.held
  rw [List.length_map, List.length_map]
  exact (s.filter _).length_le
theorem Rinv.subE {s : Rm} (h : Rinv s) {E' : List St.Sk.En} (q : E'.Sublist s.E) : Rinv { s with E := E' } :=
  ⟨h.n4, h.len, h.gd, h.ok.sub q, fun e he => h.own e (q.subset he), h.tok, h.jt, h.g0, h.z7, fun t => Nat.le_trans (held_sub_len q t) (h.h4 t), fun e he => h.hc e (q.subset he)⟩
theorem unlL_sub (l : List St.Sk.En) (t : Int) : (St.Sk.unlL l t).Sublist l := by
  unfold St.Sk.unlL
  split
  · exact St.Sk.cut_sub _ _
  · exact List.Sublist.refl _
theorem Rinv.unl {s : Rm} (h : Rinv s) (t : Int) : Rinv (unlRm s t) := by
  unfold unlRm
  split
  · rename_i q
    have q1 : asked s t = 0 := by
      unfold unlRE at q
      split at q
      · rename_i r; exact absurd q r
      · rename_i r; exact Decidable.not_not.1 r
    refine set_j (h.subE (unlL_sub s.E t)) (asked_in q1).1 ?_ ?_ ?_ ?_
    · split
      · exact (lea_te _).1
      · rfl
    · split
      · exact (lea_te _).2
      · rfl
    · split
      · exact inv_lea
      · exact id
    · rintro ⟨e, he, rfl⟩
      rw [if_neg (fun y => by
        have : e.2 ∈ St.Sk.held (St.Sk.unlL s.E e.1) e.1 := by
          unfold St.Sk.held
          exact List.mem_map.2 ⟨e, List.mem_filter.2 ⟨he, by simp⟩, rfl⟩
        rw [y] at this
        cases this)]
      exact h.hc e ((unlL_sub s.E e.1).subset he)
  · exact h
theorem rm_dl {L : List Int} {t i : Int} (h : 0 ≤ Rq.Rd.dl (Rq.Rd.rmL L t) i) : Rq.Rd.dl (Rq.Rd.rmL L t) i = Rq.Rd.dl L i ∧ (i ≠ t ∨ Rq.Rd.dl L t < 0) := by
  unfold Rq.Rd.rmL at h ⊢
  split
  · rename_i q
    rw [if_pos q] at h
    obtain ⟨a1, a2⟩ := Rq.Rd.dl_in q
    rw [Rq.Rd.dl_set a1 a2] at h ⊢
    by_cases e : i = t
    · rw [if_pos e] at h; omega
    · rw [if_neg e]; exact ⟨rfl, Or.inl e⟩
  · rename_i q; exact ⟨rfl, Or.inr (by omega)⟩
theorem rm_other {L : List Int} {t i : Int} (e : i ≠ t) : Rq.Rd.dl (Rq.Rd.rmL L t) i = Rq.Rd.dl L i := by
  unfold Rq.Rd.rmL
  split
  · rename_i q
    obtain ⟨a1, a2⟩ := Rq.Rd.dl_in q
    rw [Rq.Rd.dl_set a1 a2, if_neg e]
  · rfl
theorem Rinv.fin {s : Rm} (h : Rinv s) (t : Int) : Rinv (endR s t) := by
  unfold endR
  split
  · rename_i q
    have hs := St.Sk.drp_sub s.E t
    refine ⟨h.n4, (Rq.Rd.rmL_len s.L t).trans h.len, h.gd.rm t, h.ok.sub hs, fun e he => ?_, h.tok, fun i hi hd => ?_, h.g0, h.z7, fun u => Nat.le_trans (held_sub_len hs u) (h.h4 u), fun e he => h.hc e (hs.subset he)⟩
    · have h1 := h.own e (hs.subset he)
      have h2 : e.1 ≠ t := by
        unfold St.Sk.drp at he
        have := (List.mem_filter.1 he).2
        simpa using this
      show 0 ≤ Rq.Rd.dl (Rq.Rd.rmL s.L t) e.1
      rw [rm_other h2]
      exact h1
    · have h1 := rm_dl (L := s.L) (t := t) hd
      have h2 : (s.dl (i : Int)) = Rq.Rd.dl (Rq.Rd.rmL s.L t) i := h1.1.symm
      have h3 := h.jt i hi (by rw [h2]; exact hd)
      exact ⟨h3.1, h3.2.1.trans h2, h3.2.2⟩
  · exact h
theorem rel_cases {s : Rm} {t now : Int} {l : List Ak} (h : relE s t l now = 0) : 0 ≤ t ∧ t < s.n ∧ s.dl t < 0 ∧ 0 ≤ now ∧ now ≤ 1099511627776 ∧ newE l = 0 ∧ Sg.Sp.wt (s.G t.toNat) now = 0 := by
  unfold relE at h
  split at h
  · cases h
  split at h
  · cases h
  split at h
  · cases h
  split at h
  · cases h
  split at h
  · rename_i q; exact absurd h q
  · rename_i q; exact ⟨by omega, by omega, by omega, by omega, by omega, Decidable.not_not.1 q, h⟩
theorem newE_gd {l : List Ak} (h : newE l = 0) : Ac.Gd l := by
  rcases newE_or l with ⟨_, q⟩ | ⟨q, _⟩ | ⟨_, _, q⟩
  · rw [h] at q; cases q
  · exact q
  · rw [h] at q; cases q
theorem Rinv.rel {s : Rm} (h : Rinv s) (t : Int) (l : List Ak) (now : Int) : Rinv (relR s t l now) := by
  unfold relR
  split
  · rename_i q
    obtain ⟨a1, a2, a3, a4, a5, a6, a7⟩ := rel_cases q
    have hb := tok_bd (h.tok t.toNat (by omega))
    have hd : 0 ≤ now + s.t t 1 ∧ now + s.t t 1 ≤ 1099511627840 := by
      show 0 ≤ now + s.z t.toNat 1 ∧ now + s.z t.toNat 1 ≤ 1099511627840
      omega
    have hl : t < s.L.length := by rw [h.len]; exact a2
    have hdl : ∀ i, Rq.Rd.dl (s.L.set t.toNat (now + s.t t 1)) i = if i = t then now + s.t t 1 else s.dl i := fun i => Rq.Rd.dl_set a1 hl _ _
    refine ⟨h.n4, (List.length_set ..).trans h.len, Rq.Rd.set_good h.gd (by omega) hd.2, h.ok, fun e he => ?_, h.tok, fun i hi hdi => ?_, fun i hi => ?_, h.z7, h.h4, fun e he => ?_⟩
    rotate_right
    · have h1 := h.own e he
      have h2 := (asked_job h h1).2.1
      show (if e.1.toNat = t.toNat then fresh (s.t t) (now + s.t t 1) l else s.J e.1.toNat).c = 1
      rw [if_neg (fun y => by have : e.1 = t := by omega
                              rw [this] at h1; omega)]
      exact h.hc e he
    · show 0 ≤ Rq.Rd.dl (s.L.set t.toNat (now + s.t t 1)) e.1
      rw [hdl]
      split
      · exact hd.1
      · exact h.own e he
    · have hdi' : 0 ≤ Rq.Rd.dl (s.L.set t.toNat (now + s.t t 1)) (i : Int) := hdi
      show (if i = t.toNat then fresh (s.t t) (now + s.t t 1) l else s.J i).t = _ ∧ (if i = t.toNat then fresh (s.t t) (now + s.t t 1) l else s.J i).e = Rq.Rd.dl (s.L.set t.toNat (now + s.t t 1)) (i : Int) ∧ Jo.Inv (if i = t.toNat then fresh (s.t t) (now + s.t t 1) l else s.J i)
      rw [hdl] at hdi' ⊢
      by_cases e : i = t.toNat
      · rw [if_pos e, if_pos (show (i : Int) = t by omega)]
        subst e
        exact ⟨rfl, rfl, inv_fresh (newE_gd a6) (h.z7 _ hi)⟩
      · rw [if_neg (show ¬ (i : Int) = t by omega)] at hdi' ⊢
        rw [if_neg e]
        exact h.jt i hi hdi'
    · show Sg.Sp.Ok (s.z i 0) (if i = t.toNat then now + s.t t 0 else s.G i)
      by_cases e : i = t.toNat
      · rw [if_pos e]
        subst e
        have h1 := h.g0 _ hi
        have h2 := h1.rl now
        unfold Sg.Sp.rl at h2
        rw [if_pos a7] at h2
        exact h2
      · rw [if_neg e]; exact h.g0 i hi
  · exact h
theorem Rinv.no {n : Nat} {z : Nat → Nat → Int} (hn : n ≤ 4) (ht : ∀ i, i < n → Jo.tok (z i) = true) (h7 : ∀ i, i < n → z i 7 ≤ 9223372036854775807) : Rinv (noRm n z) :=
  ⟨hn, Rq.Rd.no_len n, Rq.Rd.no_good hn, St.Sk.Ok.nil n, fun e he => (by cases he), ht, fun i hi hd => by
    have : Rq.Rd.dl (Rq.Rd.noL n) (i : Int) = -1 := Rq.Rd.no_dl n i
    have hd' : 0 ≤ Rq.Rd.dl (Rq.Rd.noL n) (i : Int) := hd
    omega, fun i hi => ⟨(tok_bd (ht i hi)).1, (tok_bd (ht i hi)).2.1, Int.le_refl _, (show (0 : Int) ≤ 1099511627840 by decide)⟩, h7, fun t => by simp [noRm, St.Sk.held], fun e he => (by cases he)⟩
end Go.Proofs.YtkkmfpllgjoceaaGreat.Ro
