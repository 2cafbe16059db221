/- Who passes the gate, plainly: those that are in; fewer pass too; who passes is never late. -/
import Derived.Test.YtbdiekolkniajaaGatM
import Derived.Test.YtbdiekolkniajaaZp
import Derived.Test.YtbdiekolkniajaaShaE
namespace Go.Proofs.Ytbdiekolkniajaa.Gt
open Go.RowKit Go.Proofs.Ytbdiekolkniajaa.De Go.Proofs.Ytbdiekolkniajaa.Su Go.Proofs.Ytbdiekolkniajaa.Dl Go.Proofs.Ytbdiekolkniajaa.Ed Go.Proofs.Ytbdiekolkniajaa.Lo Go.Proofs.Ytbdiekolkniajaa.Sh
set_option linter.unusedVariables false

/-! which partitions a configuration may have -/
def wi (n l h : Int) : Bool := decide (l ≤ n) && decide (n ≤ h)
def cTimes (t : Nat → Int) : Bool := wi (t 0) 1 64 && wi (t 1) 1 (t 0) && wi (t 2) 1 (t 1)
def cLocals (t : Nat → Int) : Bool := if t 3 = 0 then t 4 == 0 else wi (t 3) 1 255 && wi (t 4) 1 (t 2)
def cGlobal (t : Nat → Int) (bud : Int) : Bool := if t 5 = 0 then t 6 == 0 && t 7 == 0 else wi (t 5) 1 4 && wi (t 6) 1 bud && wi (t 7) 1 ((t 2).tdiv (t 6))
def cTask (t : Nat → Int) (bud : Int) : Bool := cTimes t && cLocals t && cGlobal t bud
def cTasks (bud : Int) (z : Nat → Nat → Int) : Nat → Bool
  | 0 => true
  | n + 1 => cTasks bud z n && cTask (z n) bud
def cPart (p : Pn) : Bool := wi p.per 1 64 && wi p.bud 1 p.per && decide (p.n ≤ 4) && cTasks p.bud p.z p.n
def cMay (ps : List Pn) : Bool := wi ps.length 1 4 && ps.all cPart
/-! those that are in -/
def subL : List Pn → List Bool → List Pn
  | a :: l, true :: b => a :: subL l b
  | _ :: l, false :: b => subL l b
  | _, _ => []
def idxL (i : Nat) : List Bool → List Nat
  | [] => []
  | true :: b => i :: idxL (i + 1) b
  | false :: b => idxL (i + 1) b
/-- the first one of those from q on that is late -/
def firstNo (l : List Pn) (at_ : List Nat) (q : Nat) : Nat → Int × Int × Int
  | 0 => (-1, 0, 0)
  | n + 1 => if (teR l q).2 = 0 then firstNo l at_ (q + 1) n else ((at_.getD q 0 : Nat), (teR l q).1, (teR l q).2)
def shE (l : List Pn) : Int := teE l.length (sp l) (sb l)
def gtIn (l : List Pn) (at_ : List Nat) : Int × Int × Int := if shE l = 0 then firstNo l at_ 0 l.length else (-1, 0, shE l)
def gtR (ps : List Pn) (ins : List Bool) : Int × Int × Int :=
  if cMay ps then (if ins.length = ps.length then gtIn (subL ps ins) (idxL 0 ins) else (0, 0, 2)) else (0, 0, 50)
def gjR (ps : List Pn) (ins : List Bool) (part : Int) : Int :=
  if cMay ps then (if ins.length = ps.length then (if 0 ≤ part ∧ part < ins.length then (gtR ps (ins.set part.toNat true)).2.2 else 9) else 2) else 50
/-- with another server -/
def chg (ps : List Pn) (q : Nat) (per bud : Int) : List Pn := ps.set q ⟨per, bud, (ps.getD q p0).n, (ps.getD q p0).z⟩
def gcE (ps : List Pn) (ins : List Bool) (part per bud : Int) : Int :=
  if cMay ps then (if ins.length = ps.length then (if 0 ≤ part ∧ part < ins.length then (if cMay (chg ps part.toNat per bud) then (if ins.getD part.toNat false then (gtR (chg ps part.toNat per bud) ins).2.2 else 0) else 50) else 9) else 2) else 50
/-! what is so of those that are in -/
theorem firstNo_ok {l : List Pn} {at_ : List Nat} : ∀ {n q : Nat}, (firstNo l at_ q n).2.2 = 0 ↔ ∀ i, i < n → (teR l ((q + i : Nat) : Int)).2 = 0
  | 0, q => ⟨fun _ i hi => by omega, fun _ => rfl⟩
  | n + 1, q => by
    unfold firstNo
    by_cases h : (teR l (q : Nat)).2 = 0
    · rw [if_pos h, firstNo_ok]
      constructor
      · intro h2 i hi
        match i with
        | 0 => exact h
        | i + 1 => rw [show q + (i + 1) = q + 1 + i by omega]; exact h2 i (by omega)
      · intro h2 i hi
        rw [show q + 1 + i = q + (i + 1) by omega]
        exact h2 (i + 1) (by omega)
    · rw [if_neg h]
      constructor
      · intro h2; exact absurd h2 h
      · intro h2; exact absurd (h2 0 (by omega)) h
theorem firstNo_no {l : List Pn} {at_ : List Nat} {S : Int → Prop} (hS : ∀ q : Nat, q < l.length → (teR l q).2 ≠ 0 → S (teR l q).2) : ∀ {n q : Nat}, q + n ≤ l.length → (firstNo l at_ q n).2.2 ≠ 0 → S (firstNo l at_ q n).2.2
  | 0, q, _, h => absurd rfl h
  | n + 1, q, hq, h => by
    unfold firstNo at h ⊢
    by_cases h1 : (teR l (q : Nat)).2 = 0
    · rw [if_pos h1] at h ⊢
      exact firstNo_no hS (by omega) h
    · rw [if_neg h1] at h ⊢
      exact hS q (by omega) h1
theorem sub_in : ∀ {ps : List Pn} {ins : List Bool} {x : Pn}, x ∈ subL ps ins → x ∈ ps
  | [], [], x, h => by simp [subL] at h
  | [], true :: b, x, h => by simp [subL] at h
  | [], false :: b, x, h => by simp [subL] at h
  | a :: l, [], x, h => by simp [subL] at h
  | a :: l, true :: b, x, h => by
    rw [subL, List.mem_cons] at h
    rcases h with h | h
    · exact List.mem_cons.2 (Or.inl h)
    · exact List.mem_cons.2 (Or.inr (sub_in h))
  | a :: l, false :: b, x, h => List.mem_cons.2 (Or.inr (sub_in (ps := l) (ins := b) h))
theorem sub_len : ∀ {ps : List Pn} {ins : List Bool}, (subL ps ins).length ≤ ps.length
  | [], [] => Nat.le_refl _
  | [], true :: b => Nat.le_refl _
  | [], false :: b => Nat.le_refl _
  | a :: l, [] => Nat.zero_le _
  | a :: l, true :: b => Nat.succ_le_succ sub_len
  | a :: l, false :: b => Nat.le_succ_of_le (sub_len (ps := l) (ins := b))
theorem mem_at {l : List Pn} {x : Pn} (h : x ∈ l) : ∃ q, q < l.length ∧ l.getD q p0 = x := by
  obtain ⟨q, hq, e⟩ := List.getElem_of_mem h
  exact ⟨q, hq, by simp [List.getD, List.getElem?_eq_getElem hq, e]⟩
theorem at_mem {l : List Pn} {q : Nat} (h : q < l.length) : l.getD q p0 ∈ l := by
  have : l.getD q p0 = l[q] := by simp [List.getD, List.getElem?_eq_getElem h]
  rw [this]; exact List.getElem_mem h
theorem sub_has : ∀ {ps : List Pn} {ins : List Bool} {i : Nat}, i < ps.length → ins.getD i false = true → ps.getD i p0 ∈ subL ps ins
  | [], _, i, h, _ => by cases h
  | a :: l, [], i, _, h => by simp at h
  | a :: l, true :: b, 0, _, _ => by rw [subL]; exact List.mem_cons.2 (Or.inl rfl)
  | a :: l, false :: b, 0, _, h => by simp at h
  | a :: l, true :: b, i + 1, h, h2 => by
    rw [subL]
    exact List.mem_cons.2 (Or.inr (sub_has (ps := l) (ins := b) (i := i) (by simpa using h) (by simpa using h2)))
  | a :: l, false :: b, i + 1, h, h2 => sub_has (ps := l) (ins := b) (i := i) (by simpa using h) (by simpa using h2)
theorem sub_of : ∀ {ps : List Pn} {ins : List Bool} {x : Pn}, x ∈ subL ps ins → ∃ i, i < ps.length ∧ ins.getD i false = true ∧ ps.getD i p0 = x
  | [], [], x, h => by simp [subL] at h
  | [], true :: b, x, h => by simp [subL] at h
  | [], false :: b, x, h => by simp [subL] at h
  | a :: l, [], x, h => by simp [subL] at h
  | a :: l, true :: b, x, h => by
    rw [subL, List.mem_cons] at h
    rcases h with h | h
    · exact ⟨0, by simp, by simp, by simp [h]⟩
    · obtain ⟨i, h1, h2, h3⟩ := sub_of h
      exact ⟨i + 1, by simpa using h1, by simpa using h2, by simpa using h3⟩
  | a :: l, false :: b, x, h => by
    obtain ⟨i, h1, h2, h3⟩ := sub_of (ps := l) (ins := b) (x := x) h
    exact ⟨i + 1, by simpa using h1, by simpa using h2, by simpa using h3⟩
theorem sm_cons (f : Nat → Nat) : ∀ n, sm f (n + 1) = f 0 + sm (fun i => f (i + 1)) n
  | 0 => by simp [sm]
  | n + 1 => by rw [sm, sm_cons f n]; simp only [sm]; omega
theorem sub_sm (f : Pn → Nat) : ∀ {ps : List Pn} {ins : List Bool}, sm (fun i => f ((subL ps ins).getD i p0)) (subL ps ins).length = sm (fun i => if ins.getD i false then f (ps.getD i p0) else 0) ps.length
  | [], [] => rfl
  | [], true :: b => rfl
  | [], false :: b => rfl
  | a :: l, [] => by
    rw [sm_zero (f := fun i => if ([] : List Bool).getD i false then f ((a :: l).getD i p0) else 0) (fun i _ => by simp)]
    rfl
  | a :: l, true :: b => by
    have ih := sub_sm f (ps := l) (ins := b)
    rw [subL, List.length_cons, List.length_cons, sm_cons, sm_cons]
    simp only [List.getD_cons_zero, List.getD_cons_succ, if_true]
    rw [ih]
  | a :: l, false :: b => by
    have ih := sub_sm f (ps := l) (ins := b)
    rw [List.length_cons, sm_cons]
    simp only [List.getD_cons_zero, List.getD_cons_succ]
    rw [show subL (a :: l) (false :: b) = subL l b from rfl, ih]
    simp
end Go.Proofs.Ytbdiekolkniajaa.Gt
