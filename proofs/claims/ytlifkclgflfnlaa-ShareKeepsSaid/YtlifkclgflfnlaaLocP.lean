/- Slacks, the end, the test, plainly: what holds up to the end holds for all numbers of ticks. -/
import Derived.Test.YtlifkclgflfnlaaDelP
import Derived.Test.YtlifkclgflfnlaaEdfP
namespace Go.Proofs.Ytlifkclgflfnlaa.Lo
open Go.Proofs.Ytlifkclgflfnlaa.De Go.Proofs.Ytlifkclgflfnlaa.Su Go.Proofs.Ytlifkclgflfnlaa.Dl Go.Proofs.Ytlifkclgflfnlaa.Ed
set_option linter.unusedVariables false

theorem dem_sm (P D J : Nat → Nat) (t : Nat) : ∀ n, dem P D J t n = sm (fun i => J i * jobs (P i) (D i) t) n
  | 0 => rfl
  | n + 1 => by unfold dem sm; rw [dem_sm P D J t n, Nat.mul_comm]
theorem use_sm (P J : Nat → Nat) (T : Nat) : ∀ n, use P J T n = sm (fun i => T / P i * J i) n
  | 0 => rfl
  | n + 1 => by unfold use sm; rw [use_sm P J T n]
/-- what a partition's server gives in t ticks at least -/
def supN (p : Pn) (t : Nat) : Nat := sp p.per.toNat (p.per.toNat - p.bud.toNat) t
/-- what a job of a task asks for, with what is more -/
def askN (l : List Pn) (q : Nat) : Nat → Nat := asks (l.getD q p0).z (mors l q)
def demN (l : List Pn) (q t : Nat) : Nat := dem (per (l.getD q p0).z) (dea (l.getD q p0).z) (askN l q) t (l.getD q p0).n
def slk (l : List Pn) (q t : Nat) : Int := (supN (l.getD q p0) t : Int) - demN l q t - del l q t (l.getD q p0).n
def hyp (l : List Pn) (q : Nat) : Nat := hypL (l.getD q p0).n (l.getD q p0).z (l.getD q p0).per.toNat
def useN (l : List Pn) (q : Nat) : Nat := use (per (l.getD q p0).z) (askN l q) (hyp l q) (l.getD q p0).n
/-- the greatest Deadline -/
def maxD (z : Nat → Nat → Int) : Nat → Nat
  | 0 => 0
  | n + 1 => max (maxD z n) (dea z n)
theorem maxD_at {z : Nat → Nat → Int} : ∀ {n i : Nat}, i < n → dea z i ≤ maxD z n
  | 0, _, h => by cases h
  | n + 1, i, h => by
    unfold maxD
    by_cases e : i = n
    · subst e; omega
    · have := maxD_at (z := z) (show i < n by omega); omega
def endN (l : List Pn) (q : Nat) : Nat := hyp l q + maxD (l.getD q p0).z (l.getD q p0).n + 2 * (l.getD q p0).per.toNat
theorem mor_nn {l : List Pn} (h : chkP l = true) {q : Nat} {bud : Int} {t : Nat → Int} (ht : TB bud t) : 0 ≤ mor l q t := by
  unfold mor
  split
  · rename_i hp
    have h1 := wait_bd h q t
    have h2 := ht.n0 hp
    exact Int.mul_nonneg (by omega) (by omega)
  · omega
theorem PB.good {p : Pn} (h : PB p) : De.Good p.n p.z := good_of (by
  unfold tasksOK
  rw [decide_eq_true h.n4, Bool.true_and]
  exact allT_all fun i hi => (h.t i hi).ok)
theorem mors_at (l : List Pn) (q : Nat) {i : Nat} (hi : i < (l.getD q p0).n) : (mors l q).getD i 0 = mor l q ((l.getD q p0).z i) := by
  unfold mors
  have h1 : (List.range (l.getD q p0).n)[i]? = some i := by rw [List.getElem?_range hi]
  rw [List.getD, List.getElem?_map, h1]
  rfl
theorem ask_pos {l : List Pn} (h : chkP l = true) {q : Nat} (hq : q < l.length) {i : Nat} (hi : i < (l.getD q p0).n) : 1 ≤ askN l q i := by
  have hp := chkP_at h hq
  have h1 := (PB.good hp).at' i hi
  have h2 := mor_nn h (q := q) (hp.t i hi)
  unfold askN asks
  rw [mors_at l q hi]
  omega
theorem demN_zero {l : List Pn} (h : chkP l = true) {q : Nat} (hq : q < l.length) : demN l q 0 = 0 := by
  have hg := PB.good (chkP_at h hq)
  unfold demN
  rw [dem_sm]
  refine sm_zero fun i hi => ?_
  have := hg.at' i hi
  unfold jobs
  rw [if_pos (by omega), Nat.mul_zero]
theorem slk_all {l : List Pn} (h : chkP l = true) {q : Nat} (hq : q < l.length) (hn : 0 < (l.getD q p0).n) (hu : useN l q ≤ hyp l q / (l.getD q p0).per.toNat * (l.getD q p0).bud.toNat)
    (hb : ∀ t, 1 ≤ t → t ≤ endN l q → 0 < demN l q t → 0 ≤ slk l q t) : ∀ t, 0 < demN l q t → 0 ≤ slk l q t := by
  have hp := chkP_at h hq
  have hg := PB.good hp
  have h0 := demN_zero h hq
  have hask := fun i hi => ask_pos h hq (i := i) hi
  have hdn : ∀ t : Nat, 0 ≤ del l q t (l.getD q p0).n := fun t => del_nn _ _
  have hdz : ∀ t : Nat, maxD (l.getD q p0).z (l.getD q p0).n ≤ t → del l q t (l.getD q p0).n = 0 := fun t ht => del_zero fun i hi => by
    have := maxD_at (z := (l.getD q p0).z) hi
    have := (hg.at' i hi).2.1
    omega
  have hP : 0 < (l.getD q p0).per.toNat := by have := hp.p1; omega
  have hh : 0 < hyp l q := hg.hyp_pos hP (by have := hp.p2; omega)
  have hdv := (hypL_dvd (n := (l.getD q p0).n) (z := (l.getD q p0).z) (p := (l.getD q p0).per.toNat) (T := hyp l q)).1 (Nat.dvd_refl _)
  have hdem : ∀ t, maxD (l.getD q p0).z (l.getD q p0).n ≤ t → demN l q (t + hyp l q) = demN l q t + useN l q := fun t ht => by
    unfold demN useN
    rw [dem_sm, dem_sm, use_sm]
    exact dem_period (fun i hi => (hg.at' i hi).2.2.1) hdv.2 (fun i hi => Nat.le_trans (maxD_at hi) ht)
  have hsup : ∀ t, (l.getD q p0).per.toNat ≤ t → supN (l.getD q p0) (t + hyp l q) = supN (l.getD q p0) t + hyp l q / (l.getD q p0).per.toNat * (l.getD q p0).bud.toNat := fun t ht => by
    obtain ⟨c, hc⟩ := hdv.1
    unfold supN
    rw [hc, Nat.mul_comm _ c, Nat.mul_div_cancel _ hP, sp_periods hP (by omega)]
    have h1 := hp.b2
    have h2 := hp.b1
    rw [show (l.getD q p0).per.toNat - ((l.getD q p0).per.toNat - (l.getD q p0).bud.toNat) = (l.getD q p0).bud.toNat by omega]
  have hpos : ∀ t, maxD (l.getD q p0).z (l.getD q p0).n ≤ t → 0 < demN l q t := fun t ht => by
    unfold demN
    rw [dem_sm]
    have h1 := sm_at (f := fun i => askN l q i * jobs (per (l.getD q p0).z i) (dea (l.getD q p0).z i) t) hn
    have h2 := maxD_at (z := (l.getD q p0).z) hn
    have h3 : 0 < jobs (per (l.getD q p0).z 0) (dea (l.getD q p0).z 0) t := by unfold jobs; rw [if_neg (by omega)]; exact Nat.lt_of_lt_of_le Nat.zero_lt_one (Nat.le_add_right _ _)
    have h4 := Nat.mul_pos (hask 0 hn) h3
    omega
  have key := for_all (f := fun t => if demN l q t = 0 then 0 else demN l q t + (del l q t (l.getD q p0).n).toNat) (s := supN (l.getD q p0)) (h := hyp l q) (e := endN l q)
    (u := useN l q) (v := hyp l q / (l.getD q p0).per.toNat * (l.getD q p0).bud.toNat) (m := maxD (l.getD q p0).z (l.getD q p0).n + (l.getD q p0).per.toNat) hh
    (fun t ht hf => by
      by_cases e : demN l q t = 0
      · rw [if_pos e]; omega
      · rw [if_neg e]
        have h1 := hb t (Nat.pos_of_ne_zero fun hc => e (by rw [hc]; exact h0)) ht (by omega)
        have h2 := hdn t
        unfold slk at h1
        omega)
    (by unfold endN; omega)
    (fun t ht => by
      have h1 := hpos t (by omega)
      have h2 := hpos (t + hyp l q) (by omega)
      have h3 := hdz t (by omega)
      have h4 := hdz (t + hyp l q) (by omega)
      rw [if_neg (by omega), if_neg (by omega), h3, h4, hdem t (by omega)]
      rfl)
    (fun t ht => hsup t (by omega)) hu
    (fun t ht => by
      have h1 := hpos t (by omega)
      show 0 < (if demN l q t = 0 then 0 else demN l q t + (del l q t (l.getD q p0).n).toNat)
      rw [if_neg (by omega)]; omega)
  intro t ht
  have h1 := key t (by show 0 < (if demN l q t = 0 then 0 else demN l q t + (del l q t (l.getD q p0).n).toNat); rw [if_neg (by omega)]; omega)
  have h2 : (if demN l q t = 0 then 0 else demN l q t + (del l q t (l.getD q p0).n).toNat) ≤ supN (l.getD q p0) t := h1
  rw [if_neg (by omega)] at h2
  have h3 := hdn t
  unfold slk
  omega
end Go.Proofs.Ytlifkclgflfnlaa.Lo
