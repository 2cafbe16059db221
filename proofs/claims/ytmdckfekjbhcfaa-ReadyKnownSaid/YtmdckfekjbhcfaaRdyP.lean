/- A queue, plainly: of each task a deadline, or -1; its jobs in order. -/
import Derived.Test.YtmdckfekjbhcfaaPlainA
namespace Go.Proofs.Ytmdckfekjbhcfaa
namespace Rd
open Rk
set_option linter.unusedVariables false

/-- a task's deadline, or -1 -/
def dl (L : List Int) (t : Int) : Int := if 0 ≤ t then L.getD t.toNat (-1) else -1
/-- which tasks have a job -/
def mp (L : List Int) : Mp := fun t => if 0 ≤ dl L t then some (dl L t) else none
/-- rows that a queue may have -/
structure Gd (L : List Int) : Prop where
  len : L.length ≤ 4
  rng : ∀ x ∈ L, -1 ≤ x ∧ x ≤ 1099511627840
theorem dl_nat (L : List Int) (k : Nat) : dl L k = L.getD k (-1) := by unfold dl; rw [if_pos (by omega)]; rfl
theorem dl_neg {L : List Int} {t : Int} (h : t < 0) : dl L t = -1 := if_neg (by omega)
theorem dl_out {L : List Int} {t : Int} (h : (L.length : Int) ≤ t) : dl L t = -1 := by
  unfold dl
  rw [if_pos (by omega), List.getD_eq_getElem?_getD, List.getElem?_eq_none (by omega)]; rfl
theorem getD_rng {L : List Int} (h : Gd L) (k : Nat) : -1 ≤ L.getD k (-1) ∧ L.getD k (-1) ≤ 1099511627840 := by
  rw [List.getD_eq_getElem?_getD]
  by_cases hk : k < L.length
  · rw [List.getElem?_eq_getElem hk]; exact h.rng _ (List.getElem_mem _)
  · rw [List.getElem?_eq_none (by omega)]; decide
theorem dl_rng {L : List Int} (h : Gd L) (t : Int) : -1 ≤ dl L t ∧ dl L t ≤ 1099511627840 := by
  unfold dl
  split
  · exact getD_rng h _
  · decide
theorem dl_in {L : List Int} {t : Int} (h : 0 ≤ dl L t) : 0 ≤ t ∧ t < L.length := by
  constructor
  · by_cases h0 : 0 ≤ t
    · exact h0
    · rw [dl_neg (by omega)] at h; omega
  · by_cases h0 : (L.length : Int) ≤ t
    · rw [dl_out h0] at h; omega
    · omega
theorem dl_set {L : List Int} {t : Int} (h0 : 0 ≤ t) (h1 : t < L.length) (d j : Int) : dl (L.set t.toNat d) j = if j = t then d else dl L j := by
  by_cases e : j = t
  · subst e
    rw [if_pos rfl]
    unfold dl
    rw [if_pos h0, List.getD_eq_getElem?_getD, List.getElem?_set_self (by omega)]; rfl
  · rw [if_neg e]
    unfold dl
    split
    · rw [List.getD_eq_getElem?_getD, List.getElem?_set_ne (by omega), ← List.getD_eq_getElem?_getD]
    · rfl
theorem mp_set {L : List Int} {t d : Int} (h0 : 0 ≤ t) (h1 : t < L.length) (hd : 0 ≤ d) : mp (L.set t.toNat d) = upd (mp L) t (some d) := by
  funext j
  unfold mp upd
  rw [dl_set h0 h1]
  by_cases e : j = t
  · rw [if_pos e, if_pos e, if_pos hd]
  · rw [if_neg e, if_neg e]
theorem mp_none {L : List Int} {t : Int} (h : dl L t < 0) : mp L t = none := if_neg (by omega)
theorem mp_some {L : List Int} {t : Int} (h : 0 ≤ dl L t) : mp L t = some (dl L t) := if_pos h
theorem mp_isSome (L : List Int) (t : Int) : (mp L t).isSome = decide (0 ≤ dl L t) := by
  by_cases h : 0 ≤ dl L t
  · rw [mp_some h]; simp [h]
  · rw [mp_none (by omega)]; simp [h]
theorem mp_is {L : List Int} {t k : Int} (h : mp L t = some k) : dl L t = k ∧ 0 ≤ k := by
  unfold mp at h
  split at h
  · injection h with h; omega
  · cases h
/-- what is wrong with a job that is put in -/
def qE (L : List Int) (t d : Int) : Int := if t < 0 ∨ (L.length : Int) ≤ t then 9 else if d < 0 ∨ 1099511627840 < d then 2 else if 0 ≤ dl L t then 141 else 0
/-- the queue behind it -/
def qL (L : List Int) (t d : Int) : List Int := if qE L t d = 0 then L.set t.toNat d else L
/-- the queue behind a task's job has gone -/
def rmL (L : List Int) (t : Int) : List Int := if 0 ≤ dl L t then L.set t.toNat (-1) else L
theorem qE_cases (L : List Int) (t d : Int) : ((t < 0 ∨ (L.length : Int) ≤ t) ∧ qE L t d = 9) ∨ (0 ≤ t ∧ t < L.length ∧ (d < 0 ∨ 1099511627840 < d) ∧ qE L t d = 2) ∨
    (0 ≤ t ∧ t < L.length ∧ 0 ≤ d ∧ d ≤ 1099511627840 ∧ 0 ≤ dl L t ∧ qE L t d = 141) ∨ (0 ≤ t ∧ t < L.length ∧ 0 ≤ d ∧ d ≤ 1099511627840 ∧ dl L t < 0 ∧ qE L t d = 0) := by
  unfold qE
  split
  · next h => exact Or.inl ⟨h, rfl⟩
  · split
    · next h => exact Or.inr (Or.inl ⟨by omega, by omega, h, rfl⟩)
    · split
      · next h => exact Or.inr (Or.inr (Or.inl ⟨by omega, by omega, by omega, by omega, h, rfl⟩))
      · next h => exact Or.inr (Or.inr (Or.inr ⟨by omega, by omega, by omega, by omega, by omega, rfl⟩))
theorem qL_len (L : List Int) (t d : Int) : (qL L t d).length = L.length := by unfold qL; split <;> simp
theorem rmL_len (L : List Int) (t : Int) : (rmL L t).length = L.length := by unfold rmL; split <;> simp
theorem set_good {L : List Int} (h : Gd L) {i : Nat} {d : Int} (h1 : -1 ≤ d) (h2 : d ≤ 1099511627840) : Gd (L.set i d) :=
  ⟨by simpa using h.len, fun x hx => by rcases List.mem_or_eq_of_mem_set hx with q | q; · exact h.rng x q
                                        · subst q; exact ⟨h1, h2⟩⟩
theorem Gd.put {L : List Int} (h : Gd L) (t d : Int) : Gd (qL L t d) := by
  unfold qL
  split
  · next h0 =>
    rcases qE_cases L t d with ⟨_, q⟩ | ⟨_, _, _, q⟩ | ⟨_, _, _, _, _, q⟩ | ⟨_, _, q1, q2, _, q⟩
    · rw [h0] at q; cases q
    · rw [h0] at q; cases q
    · rw [h0] at q; cases q
    · exact set_good h (by omega) q2
  · exact h
theorem Gd.rm {L : List Int} (h : Gd L) (t : Int) : Gd (rmL L t) := by
  unfold rmL
  split
  · exact set_good h (by omega) (by omega)
  · exact h
/-- without jobs, of n tasks -/
def noL (n : Nat) : List Int := List.replicate n (-1)
theorem no_len (n : Nat) : (noL n).length = n := List.length_replicate
theorem no_good {n : Nat} (h : n ≤ 4) : Gd (noL n) := ⟨by rw [no_len]; exact h, fun x hx => by have := List.eq_of_mem_replicate hx; subst this; decide⟩
theorem no_dl (n : Nat) (t : Int) : dl (noL n) t = -1 := by
  unfold dl noL
  split
  · rw [List.getD_eq_getElem?_getD, List.getElem?_replicate]; split <;> rfl
  · rfl
theorem no_mp (n : Nat) : mp (noL n) = fun _ => none := by funext t; exact mp_none (by rw [no_dl]; decide)
theorem mp_rm (L : List Int) (t : Int) : mp (rmL L t) = upd (mp L) t none := by
  unfold rmL
  split
  · next h =>
    obtain ⟨h0, h1⟩ := dl_in h
    funext j
    unfold mp upd
    rw [dl_set h0 h1]
    by_cases e : j = t
    · rw [if_pos e, if_pos e, if_neg (by omega)]
    · rw [if_neg e, if_neg e]
  · next h =>
    funext j
    unfold upd
    split
    · next e => rw [e]; exact mp_none (by omega)
    · rfl
/-- the jobs of the tasks below k, in order -/
def jobs (L : List Int) : Nat → List En
  | 0 => []
  | k + 1 => if 0 ≤ L.getD k (-1) then ins ((k : Int), L.getD k (-1)) (jobs L k) else jobs L k
/-- all jobs in order -/
def srt (L : List Int) : List En := jobs L L.length
def mpTo (L : List Int) (k : Nat) : Mp := fun t => if t < k then mp L t else none
theorem jobs_ord (L : List Int) : ∀ k, Ord (mpTo L k) (jobs L k)
  | 0 => by
    have e : mpTo L 0 = fun _ => none := by
      funext t
      unfold mpTo
      split
      · exact mp_none (by rw [dl_neg (by omega)]; decide)
      · rfl
    rw [e]; exact Ord.nil
  | k + 1 => by
    have ih := jobs_ord L k
    have hk : mp L k = if 0 ≤ L.getD k (-1) then some (L.getD k (-1)) else none := by unfold mp; rw [dl_nat]
    unfold jobs
    split
    · next h =>
      rw [if_pos h] at hk
      have e : mpTo L (k + 1) = upd (mpTo L k) k (some (L.getD k (-1))) := by
        funext t
        unfold mpTo upd
        by_cases e : t = k
        · rw [if_pos e, if_pos (by omega), e, hk]
        · rw [if_neg e]
          show (if t < ((k + 1 : Nat) : Int) then mp L t else none) = if t < (k : Int) then mp L t else none
          by_cases h1 : t < k
          · rw [if_pos h1, if_pos (by omega)]
          · rw [if_neg h1, if_neg (by omega)]
      rw [e]
      exact ih.put (if_neg (by omega))
    · next h =>
      rw [if_neg h] at hk
      have e : mpTo L (k + 1) = mpTo L k := by
        funext t
        unfold mpTo
        by_cases e : t = k
        · rw [if_pos (by omega), if_neg (by omega), e, hk]
        · by_cases h1 : t < k
          · rw [if_pos h1, if_pos (by omega)]
          · rw [if_neg h1, if_neg (by omega)]
      rw [e]
      exact ih
theorem srt_ord (L : List Int) : Ord (mp L) (srt L) := by
  have h := jobs_ord L L.length
  have e : mpTo L L.length = mp L := by
    funext t
    unfold mpTo
    split
    · rfl
    · exact (mp_none (by rw [dl_out (by omega)]; decide)).symm
  rw [e] at h
  exact h
theorem jobs_len (L : List Int) : ∀ k, (jobs L k).length ≤ k
  | 0 => Nat.le_refl _
  | k + 1 => by
    have := jobs_len L k
    unfold jobs
    split
    · rw [len_ins]; omega
    · omega
theorem srt_len (L : List Int) : (srt L).length ≤ L.length := jobs_len L _
theorem srt_mem {L : List Int} {x : En} (h : x ∈ srt L) : dl L x.1 = x.2 ∧ 0 ≤ x.2 ∧ 0 ≤ x.1 ∧ x.1 < L.length := by
  have h1 := ((srt_ord L).2 x.1 x.2).1 h
  obtain ⟨h2, h3⟩ := mp_is h1
  have h4 := dl_in (L := L) (t := x.1) (by omega)
  exact ⟨h2, h3, h4.1, h4.2⟩
theorem srt_in {L : List Int} {t : Int} (h : 0 ≤ dl L t) : (t, dl L t) ∈ srt L := ((srt_ord L).2 t _).2 (mp_some h)
theorem srt_put {L : List Int} {t d : Int} (h0 : 0 ≤ t) (h1 : t < L.length) (hd : 0 ≤ d) (hn : dl L t < 0) : srt (L.set t.toNat d) = ins (t, d) (srt L) := by
  have h := srt_ord (L.set t.toNat d)
  rw [mp_set h0 h1 hd] at h
  exact h.unique ((srt_ord L).put (mp_none hn))
theorem srt_rm (L : List Int) (t : Int) : srt (rmL L t) = del t (srt L) := by
  have h := srt_ord (rmL L t)
  rw [mp_rm] at h
  exact h.unique ((srt_ord L).del t)
theorem len_put {L : List Int} {t d : Int} (h0 : 0 ≤ t) (h1 : t < L.length) (hd : 0 ≤ d) (hn : dl L t < 0) : (srt (L.set t.toNat d)).length = (srt L).length + 1 := by
  rw [srt_put h0 h1 hd hn, len_ins]
theorem len_rm {L : List Int} {t : Int} (h : 0 ≤ dl L t) : (srt (rmL L t)).length + 1 = (srt L).length := by
  rw [srt_rm]; exact (srt_ord L).del_len (mp_some h)
theorem no_srt (n : Nat) : srt (noL n) = [] := by
  have h := srt_ord (noL n)
  rw [no_mp] at h
  exact h.unique Ord.nil
/-- the first job; (0, 0), if there is none -/
def fs (L : List Int) : En := (srt L).headD (0, 0)
theorem fs_none {L : List Int} (h : (srt L).length = 0) : fs L = (0, 0) := by unfold fs; rw [List.eq_nil_of_length_eq_zero h]; rfl
theorem fs_is {L : List Int} (h : 0 < (srt L).length) : mp L (fs L).1 = some (fs L).2 ∧ ∀ id k, mp L id = some k → le (fs L) (id, k) := by
  have h0 := srt_ord L
  unfold fs
  cases hl : srt L with
  | nil => rw [hl] at h; cases h
  | cons x l =>
    rw [hl] at h0
    exact h0.head
theorem fs_eq {L : List Int} : fs L = (srt L).getD 0 (0, 0) := by unfold fs; cases srt L <;> rfl
/-- where an element belongs -/
theorem ins_at {x : En} : ∀ {l : List En} {k : Nat}, k ≤ l.length → (∀ j, j < k → lt (l.getD j (0, 0)) x) → (k < l.length → ¬ lt (l.getD k (0, 0)) x) → ins x l = l.take k ++ x :: l.drop k
  | [], k, hk, _, _ => by have : k = 0 := by simpa using hk
                          subst this; rfl
  | y :: l, 0, _, _, h2 => by
    have := h2 (by simp)
    unfold ins
    rw [if_neg (by simpa using this)]
    rfl
  | y :: l, k + 1, hk, h1, h2 => by
    have h0 := h1 0 (by omega)
    unfold ins
    rw [if_pos (by simpa using h0), ins_at (k := k) (by simpa using hk) (fun j hj => by simpa using h1 (j + 1) (by omega)) (fun h => by simpa using h2 (by simpa using h))]
    rfl
/-- their tasks -/
def ids (P : List En) : List Int := P.map Prod.fst
theorem ids_len (P : List En) : (ids P).length = P.length := List.length_map ..
theorem ids_getD (P : List En) (k : Nat) : (ids P).getD k 0 = (P.getD k (0, 0)).1 := by
  unfold ids
  rw [List.getD_eq_getElem?_getD, List.getElem?_map, List.getD_eq_getElem?_getD]
  cases P[k]? <;> rfl
theorem getD_mem {P : List En} {k : Nat} (h : k < P.length) : P.getD k (0, 0) ∈ P := by
  rw [List.getD_eq_getElem?_getD, List.getElem?_eq_getElem h]; exact List.getElem_mem _
/-- the jobs whose deadline is at most n -/
def lateL (L : List Int) (n : Int) : List En := (srt L).filter fun x => decide (x.2 ≤ n)
theorem late_le (L : List Int) (n : Int) : (lateL L n).length ≤ (srt L).length := List.length_filter_le _ _
theorem filter_take {l : List En} (hp : l.Pairwise lt) {n : Int} : ∀ {k : Nat}, k ≤ l.length → (∀ j, j < k → (l.getD j (0, 0)).2 ≤ n) → (k < l.length → n < (l.getD k (0, 0)).2) → l.filter (fun x => decide (x.2 ≤ n)) = l.take k := by
  induction l with
  | nil => intro k _ _ _; simp
  | cons y l ih =>
    intro k hk h1 h2
    have hy := List.pairwise_cons.1 hp
    cases k with
    | zero =>
      have h0 := h2 (by simp)
      simp only [List.getD_cons_zero] at h0
      rw [List.take_zero, List.filter_eq_nil_iff]
      intro z hz
      simp only [decide_eq_true_eq]
      rcases List.mem_cons.1 hz with e | hz
      · rw [e]; omega
      · have := hy.1 z hz
        unfold lt at this
        omega
    | succ k =>
      have h0 := h1 0 (by omega)
      simp only [List.getD_cons_zero] at h0
      rw [List.filter_cons_of_pos (by simpa using h0), ih hy.2 (k := k) (by simpa using hk) (fun j hj => by simpa using h1 (j + 1) (by omega)) (fun h => by simpa using h2 (by simpa using h))]
      rfl
theorem late_take {L : List Int} {n : Int} {k : Nat} (hk : k ≤ (srt L).length) (h1 : ∀ j, j < k → ((srt L).getD j (0, 0)).2 ≤ n) (h2 : k < (srt L).length → n < ((srt L).getD k (0, 0)).2) : lateL L n = (srt L).take k := filter_take (srt_ord L).1 hk h1 h2
theorem late_all {L : List Int} {n : Int} : lateL L n = (srt L).take (lateL L n).length ∧ ∀ j, j < (srt L).length → (((srt L).getD j (0, 0)).2 ≤ n ↔ j < (lateL L n).length) := by
  have hp := (srt_ord L).1
  unfold lateL
  generalize srt L = l at *
  induction l with
  | nil => exact ⟨by simp, fun j hj => by simp at hj⟩
  | cons y l ih =>
    have hy := List.pairwise_cons.1 hp
    obtain ⟨i1, i2⟩ := ih hy.2
    by_cases h0 : y.2 ≤ n
    · rw [List.filter_cons_of_pos (by simpa using h0)]
      refine ⟨?_, fun j hj => ?_⟩
      · rw [List.length_cons, List.take_succ_cons, ← i1]
      · cases j with
        | zero => simp [h0]
        | succ j =>
          have := i2 j (by simpa using hj)
          simp only [List.getD_cons_succ, List.length_cons]
          omega
    · have hall : ∀ z ∈ l, ¬ z.2 ≤ n := fun z hz => by
        have := hy.1 z hz
        unfold lt at this
        omega
      have hf : l.filter (fun x => decide (x.2 ≤ n)) = [] := by
        rw [List.filter_eq_nil_iff]
        intro z hz
        simpa using hall z hz
      rw [List.filter_cons_of_neg (by simpa using h0), hf]
      refine ⟨by simp, fun j hj => ?_⟩
      cases j with
      | zero => simp [h0]
      | succ j =>
        have := hall _ (getD_mem (P := l) (k := j) (by simpa using hj))
        simp only [List.getD_cons_succ, List.length_nil]
        omega
theorem late_step (P : List En) (n : Int) (k : Nat) (h : k < P.length) : ((P.take (k + 1)).filter fun x => decide (x.2 ≤ n)) = if (P.getD k (0, 0)).2 ≤ n then ((P.take k).filter fun x => decide (x.2 ≤ n)) ++ [P.getD k (0, 0)] else (P.take k).filter fun x => decide (x.2 ≤ n) := by
  rw [List.take_succ_eq_append_getElem h, List.filter_append, List.getD_eq_getElem?_getD, List.getElem?_eq_getElem h]
  simp only [Option.getD_some]
  split
  · next q => rw [List.filter_cons_of_pos (by simpa using q)]; rfl
  · next q => rw [List.filter_cons_of_neg (by simpa using q)]; simp
end Rd
end Go.Proofs.Ytmdckfekjbhcfaa
