/- What is locked, plainly: entries, one behind the other, each a task and a resource; what a task has; the last one of a task; who goes. -/
import Derived.Test.YtkkmfpllgjoceaaGreatRows
import Derived.WalkKit
import Derived.WalkSpells
namespace Go.Proofs.YtkkmfpllgjoceaaGreat.St.Sk
set_option linter.unusedVariables false
set_option maxRecDepth 100000

abbrev En := Int × Int
abbrev e0 : En := (0, 0)
/-- the resources of a task's entries, in order -/
def held (l : List En) (t : Int) : List Int := (l.filter (fun e => e.1 == t)).map (·.2)
theorem held_nil (t : Int) : held [] t = [] := rfl
theorem held_append (l m : List En) (t : Int) : held (l ++ m) t = held l t ++ held m t := by simp [held]
theorem held_one (e : En) (t : Int) : held [e] t = if e.1 = t then [e.2] else [] := by
  unfold held
  by_cases h : e.1 = t <;> simp [h]
theorem held_len (l : List En) (t : Int) : (held l t).length ≤ l.length := by
  unfold held
  rw [List.length_map]
  exact List.length_filter_le _ _
theorem take_one (l : List En) (k : Nat) (h : k < l.length) : l.take (k + 1) = l.take k ++ [l.getD k e0] := by
  rw [List.take_add_one, List.getElem?_eq_getElem h, List.getD_eq_getElem?_getD, List.getElem?_eq_getElem h]
  rfl
theorem held_take (l : List En) (t : Int) (k : Nat) (h : k < l.length) : held (l.take (k + 1)) t = if (l.getD k e0).1 = t then held (l.take k) t ++ [(l.getD k e0).2] else held (l.take k) t := by
  rw [take_one l k h, held_append, held_one]
  split
  · rfl
  · exact List.append_nil _
theorem held_take_len (l : List En) (t : Int) (k : Nat) : (held (l.take k) t).length ≤ k := Nat.le_trans (held_len _ _) (by rw [List.length_take]; exact Nat.min_le_left _ _)
theorem held_mem {l : List En} {t r : Int} : r ∈ held l t ↔ (t, r) ∈ l := by
  unfold held
  simp only [List.mem_map, List.mem_filter, beq_iff_eq]
  constructor
  · rintro ⟨⟨a, b⟩, ⟨h, rfl⟩, rfl⟩; exact h
  · intro h; exact ⟨(t, r), ⟨h, rfl⟩, rfl⟩
/-- the last entry of a task among the first k -/
def unl (l : List En) (t : Int) : Nat → Option Nat
  | 0 => none
  | k + 1 => if (l.getD k e0).1 = t then some k else unl l t k
theorem unl_none {l : List En} {t : Int} : ∀ {k : Nat}, unl l t k = none → ∀ j, j < k → (l.getD j e0).1 ≠ t
  | 0, _, j, hj => by omega
  | k + 1, h, j, hj => by
    unfold unl at h
    by_cases e : (l.getD k e0).1 = t
    · rw [if_pos e] at h; cases h
    · rw [if_neg e] at h
      by_cases q : j = k
      · subst q; exact e
      · exact unl_none h j (by omega)
theorem unl_some {l : List En} {t : Int} {i : Nat} : ∀ {k : Nat}, unl l t k = some i → i < k ∧ (l.getD i e0).1 = t ∧ ∀ j, i < j → j < k → (l.getD j e0).1 ≠ t
  | 0, h => by cases h
  | k + 1, h => by
    unfold unl at h
    by_cases e : (l.getD k e0).1 = t
    · rw [if_pos e] at h
      obtain rfl : k = i := by simpa using h
      exact ⟨by omega, e, fun j h1 h2 => by omega⟩
    · rw [if_neg e] at h
      obtain ⟨h1, h2, h3⟩ := unl_some h
      refine ⟨by omega, h2, fun j h4 h5 => ?_⟩
      by_cases q : j = k
      · subst q; exact e
      · exact h3 j h4 (by omega)
theorem held_no {l : List En} {t : Int} (h : ∀ j, j < l.length → (l.getD j e0).1 ≠ t) : held l t = [] := by
  unfold held
  rw [List.map_eq_nil_iff, List.filter_eq_nil_iff]
  intro e he
  obtain ⟨j, hj, rfl⟩ := List.mem_iff_getElem.mp he
  have := h j hj
  rw [List.getD_eq_getElem?_getD, List.getElem?_eq_getElem hj] at this
  simpa using this
theorem held_none {l : List En} {t : Int} (h : unl l t l.length = none) : held l t = [] := held_no (unl_none h)
/-- one entry is cut out -/
def cut (l : List En) (i : Nat) : List En := l.take i ++ l.drop (i + 1)
theorem split (l : List En) (i : Nat) (h : i < l.length) : l = l.take i ++ (l.getD i e0 :: l.drop (i + 1)) := by
  conv => lhs; rw [← List.take_append_drop i l]
  rw [List.drop_eq_getElem_cons h, List.getD_eq_getElem?_getD, List.getElem?_eq_getElem h]
  rfl
theorem getD_drop (l : List En) (i j : Nat) : (l.drop i).getD j e0 = l.getD (i + j) e0 := by
  simp [List.getD_eq_getElem?_getD, List.getElem?_drop]
theorem held_cut {l : List En} {t : Int} {i : Nat} (h : unl l t l.length = some i) : held l t = held (cut l i) t ++ [(l.getD i e0).2] := by
  obtain ⟨h1, h2, h3⟩ := unl_some h
  have hd : held (l.drop (i + 1)) t = [] := held_no fun j hj => by
    rw [getD_drop]
    rw [List.length_drop] at hj
    exact h3 _ (by omega) (by omega)
  have hs : held l t = held (l.take i ++ (l.getD i e0 :: l.drop (i + 1))) t := congrArg (held · t) (split l i h1)
  rw [hs, show l.getD i e0 :: l.drop (i + 1) = [l.getD i e0] ++ l.drop (i + 1) from rfl, held_append, held_append, held_one, if_pos h2, hd]
  unfold cut
  rw [held_append, hd]
  simp
theorem held_other {l : List En} {t u : Int} {i : Nat} (h : i < l.length) (h2 : (l.getD i e0).1 = t) (hu : u ≠ t) : held (cut l i) u = held l u := by
  have hs : held l u = held (l.take i ++ (l.getD i e0 :: l.drop (i + 1))) u := congrArg (held · u) (split l i h)
  rw [hs, show l.getD i e0 :: l.drop (i + 1) = [l.getD i e0] ++ l.drop (i + 1) from rfl, held_append, held_append, held_one, if_neg (by rw [h2]; exact fun e => hu e.symm)]
  unfold cut
  rw [held_append]
  simp
theorem unl_held {l : List En} {t : Int} (h : held l t ≠ []) : ∃ i, unl l t l.length = some i := by
  cases hu : unl l t l.length with
  | none => exact absurd (held_none hu) h
  | some i => exact ⟨i, rfl⟩
theorem cut_len {l : List En} {i : Nat} (h : i < l.length) : (cut l i).length + 1 = l.length := by
  unfold cut
  rw [List.length_append, List.length_take, List.length_drop]
  omega
theorem cut_sub (l : List En) (i : Nat) : (cut l i).Sublist l := by
  unfold cut
  conv => rhs; rw [← List.take_append_drop i l]
  exact List.Sublist.append_left (by rw [show i + 1 = 1 + i from Nat.add_comm _ _, ← List.drop_drop]; simpa using (List.drop_sublist 1 (l.drop i))) _
/-- all of a task's go -/
def drp (l : List En) (t : Int) : List En := l.filter (fun e => !(e.1 == t))
theorem drp_no {l : List En} {t : Int} (h : held l t = []) : drp l t = l := by
  unfold held at h
  unfold drp
  rw [List.map_eq_nil_iff, List.filter_eq_nil_iff] at h
  rw [List.filter_eq_self]
  intro e he
  have := h e he
  simpa using this
theorem drp_cut {l : List En} {t : Int} {i : Nat} (h : i < l.length) (h2 : (l.getD i e0).1 = t) : drp (cut l i) t = drp l t := by
  have hs : drp l t = drp (l.take i ++ (l.getD i e0 :: l.drop (i + 1))) t := congrArg (drp · t) (split l i h)
  rw [hs]
  unfold drp cut
  rw [List.filter_append, List.filter_append, List.filter_cons, if_neg (by rw [h2]; simp)]
theorem drp_sub (l : List En) (t : Int) : (drp l t).Sublist l := List.filter_sublist
theorem held_drp (l : List En) (t u : Int) : held (drp l t) u = if u = t then [] else held l u := by
  unfold held drp
  rw [List.filter_filter]
  by_cases h : u = t
  · rw [if_pos h, List.map_eq_nil_iff, List.filter_eq_nil_iff]
    intro e _
    subst h
    simp
  · rw [if_neg h]
    congr 1
    apply List.filter_congr
    intro e _
    by_cases q : e.1 = u
    · simp [q, h]
    · simp [q]
/-- has an entry the resource? -/
def has (l : List En) (r : Int) : Bool := l.any (fun e => e.2 == r)
theorem has_iff {l : List En} {r : Int} : has l r = true ↔ r ∈ l.map (·.2) := by
  unfold has
  simp only [List.any_eq_true, beq_iff_eq, List.mem_map]
/-- entries of such tasks and resources, no resource twice -/
structure Ok (n : Nat) (l : List En) : Prop where
  ts : ∀ e ∈ l, 0 ≤ e.1 ∧ e.1 < n
  rs : ∀ e ∈ l, 0 ≤ e.2 ∧ e.2 < 8
  nd : (l.map (·.2)).Nodup
theorem Ok.nil (n : Nat) : Ok n [] := ⟨(fun e h => by cases h), (fun e h => by cases h), List.nodup_nil⟩
theorem Ok.sub {n : Nat} {l m : List En} (h : Ok n l) (s : m.Sublist l) : Ok n m := ⟨fun e he => h.ts e (s.subset he), fun e he => h.rs e (s.subset he), h.nd.sublist (s.map _)⟩
theorem Ok.snoc {n : Nat} {l : List En} (h : Ok n l) {t r : Int} (ht : 0 ≤ t ∧ t < n) (hr : 0 ≤ r ∧ r < 8) (hn : has l r = false) : Ok n (l ++ [(t, r)]) := by
  refine ⟨fun e he => ?_, fun e he => ?_, ?_⟩
  · rcases List.mem_append.mp he with q | q
    · exact h.ts e q
    · obtain rfl := List.mem_singleton.mp q; exact ht
  · rcases List.mem_append.mp he with q | q
    · exact h.rs e q
    · obtain rfl := List.mem_singleton.mp q; exact hr
  · rw [List.map_append, List.nodup_append]
    refine ⟨h.nd, by simp, fun a ha b hb => ?_⟩
    have hb' : b = r := by simpa using hb
    subst hb'
    intro e
    subst e
    have := has_iff.mpr ha
    rw [hn] at this
    cases this
theorem nodup_len : ∀ (m : Nat) (l : List Int), l.Nodup → (∀ x ∈ l, 0 ≤ x ∧ x < m) → l.length ≤ m
  | 0, l, _, h => by
    cases l with
    | nil => exact Nat.le_refl _
    | cons x l => have := h x List.mem_cons_self; omega
  | m + 1, l, hn, h => by
    have h1 := nodup_len m (l.erase (m : Int)) (hn.erase _) fun x hx => by
      have hx2 := (hn.mem_erase_iff).mp hx
      have := h x hx2.2
      have := hx2.1
      omega
    have := List.length_erase (a := (m : Int)) (l := l)
    split at this <;> omega
theorem Ok.len {n : Nat} {l : List En} (h : Ok n l) : l.length ≤ 8 := by
  have := nodup_len 8 (l.map (·.2)) h.nd fun x hx => by
    obtain ⟨e, he, rfl⟩ := List.mem_map.mp hx
    have := h.rs e he
    omega
  rwa [List.length_map] at this
/-- what Lock answers: u tells whether the task uses the resource -/
def lockE (n : Nat) (u : Bool) (l : List En) (t r : Int) : Int :=
  if 0 ≤ t ∧ t < n then (if u then (if has l r then 131 else if (held l t).length = 4 then 130 else 0) else 133) else 9
def lockL (n : Nat) (u : Bool) (l : List En) (t r : Int) : List En := if lockE n u l t r = 0 then l ++ [(t, r)] else l
/-- what Unlock answers, and leaves -/
def unlR (l : List En) (t : Int) : Int := match unl l t l.length with | some i => (l.getD i e0).2 | none => 0
def unlE (n : Nat) (l : List En) (t : Int) : Int := if 0 ≤ t ∧ t < n then (match unl l t l.length with | some _ => 0 | none => 132) else 9
def unlL (l : List En) (t : Int) : List En := match unl l t l.length with | some i => cut l i | none => l
end Go.Proofs.YtkkmfpllgjoceaaGreat.St.Sk
