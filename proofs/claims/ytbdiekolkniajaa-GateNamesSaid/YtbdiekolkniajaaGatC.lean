/- conf.Check over partitions as the other layers read them. -/
import Derived.Test.YtbdiekolkniajaaZc
import Derived.Test.YtbdiekolkniajaaGatP
namespace Go.Proofs.Ytbdiekolkniajaa
open Go.RowKit Tk De Dl Gt
set_option linter.unusedVariables false

def ctk (t : Nat → Int) : Cm.Tk := ⟨t 0, t 1, t 2, t 3, t 4, t 5, t 6, t 7⟩
def cts (z : Nat → Nat → Int) (n : Nat) : List Cm.Tk := (List.range n).map fun i => ctk (z i)
def cpt (p : Pn) : Cm.Pt := ⟨p.per, p.bud, cts p.z p.n⟩
theorem cts_len (z : Nat → Nat → Int) (n : Nat) : (cts z n).length = n := by simp [cts]
theorem cts_at {z : Nat → Nat → Int} {n i : Nat} (h : i < n) : (cts z n).getD i Cm.tk0 = ctk (z i) := by simp [cts, List.getD, h]
theorem cpt_at {ps : List Pn} {i : Nat} (h : i < ps.length) : (ps.map cpt).getD i Cm.pt0 = cpt (ps.getD i p0) := by simp [List.getD, h]
theorem may_task (t : Nat → Int) (b : Int) : Cm.mayTask (ctk t) b = cTask t b := rfl
theorem may_tasks (b : Int) (z : Nat → Nat → Int) : ∀ n, (cts z n).all (fun t => Cm.mayTask t b) = cTasks b z n
  | 0 => rfl
  | n + 1 => by
    rw [cTasks, ← may_tasks b z n, ← may_task]
    unfold cts
    rw [List.range_succ, List.map_append, List.all_append]
    simp
theorem may_part (p : Pn) : Cm.mayPart (cpt p) = cPart p := by
  unfold Cm.mayPart Cm.mayServer cPart cpt
  dsimp only
  rw [cts_len, may_tasks]
  rfl
theorem may_parts (ps : List Pn) : Cm.mayParts (ps.map cpt) = cMay ps := by
  unfold Cm.mayParts cMay
  rw [List.length_map, List.all_map]
  have : (Cm.mayPart ∘ cpt) = cPart := funext may_part
  rw [this]
  rfl
theorem TK.cts {w : World} {v : Value} {n : Nat} {z : Nat → Nat → Int} (h : TK w v n z) : Cm.TS w 0 v (cts z n) := by
  obtain ⟨a, cap, e, h1, h2, h3, h4⟩ := h
  refine ⟨a, cap, by rw [cts_len]; exact e, by rw [cts_len]; exact h1, h2, h3, fun hn => ?_⟩
  rw [cts_len] at hn
  obtain ⟨b, off, e2, hc⟩ := h4 hn
  refine ⟨b, off, e2, Nat.zero_le _, fun i hi j hj => ?_⟩
  rw [cts_len] at hi
  dsimp only
  rw [cts_at hi, hc i hi j hj]
  match j, hj with
  | 0, _ => rfl
  | 1, _ => rfl
  | 2, _ => rfl
  | 3, _ => rfl
  | 4, _ => rfl
  | 5, _ => rfl
  | 6, _ => rfl
  | 7, _ => rfl
theorem PS.cps {w : World} {v : Value} {ps : List Pn} (h : PS w v ps) : Cm.PS w 0 v (ps.map cpt) := by
  obtain ⟨a, cap, h1, h2, h3, h4, h5⟩ := h
  refine ⟨a, cap, by rw [List.length_map]; exact h1, by rw [List.length_map]; exact h2, h3, h4, fun hn => ?_⟩
  rw [List.length_map] at hn
  obtain ⟨b, off, e, hc⟩ := h5 hn
  refine ⟨b, off, e, Nat.zero_le _, fun i hi => ?_⟩
  rw [List.length_map] at hi
  rw [cpt_at hi]
  obtain ⟨c1, c2, tv, c3, c4, _⟩ := hc i hi
  exact ⟨c1, c2, tv, c3, c4.cts⟩
/-- a configuration without ports that can be read -/
def GCo (w : World) (v : Value) (ps : List Pn) (oa : Option Addr) (oc : Nat) : Prop := ∃ a cap, v = .agg #[.slice a ps.length cap, .slice oa 0 oc] ∧ PS w (.slice a ps.length cap) ps ∧ oc ≤ maxLen ∧ (oa = none → oc = 0)
theorem GCo.below {w w' : World} {v : Value} {ps : List Pn} {oa : Option Addr} {oc : Nat} (h : GCo w v ps oa oc) (q : Below w.heap.size w w') : GCo w' v ps oa oc := by
  obtain ⟨a, cap, e, hp, h1, h2⟩ := h
  exact ⟨a, cap, e, hp.below q, h1, h2⟩
def cE (ps : List Pn) : Int := if cMay ps then 0 else 50
theorem ccheck_any {w : World} {v : Value} {ps : List Pn} {oa : Option Addr} {oc : Nat} (h : GCo w v ps oa oc) : Calls Try.prog 19 #[v] w (YI (cE ps) w) := by
  obtain ⟨a, cap, rfl, hp, h1, h2⟩ := h
  have hcf : Cm.CF w 0 (.agg #[.slice a ps.length cap, .slice oa 0 oc]) ⟨ps.map cpt, []⟩ := ⟨_, _, rfl, hp.cps, ⟨oa, oc, rfl, Nat.zero_le _, h1, h2, fun h => by cases h⟩⟩
  refine (Cm.check_any hcf).mono fun e w' h => ?_
  have e1 : Cm.ck ⟨ps.map cpt, []⟩ = cE ps := by
    unfold Cm.ck cE Cm.may
    dsimp only
    rw [may_parts]
    have : Cm.mayPorts [] (ps.map cpt).length = true := rfl
    rw [this, Bool.and_true]
  rw [← e1]
  exact h
end Go.Proofs.Ytbdiekolkniajaa
