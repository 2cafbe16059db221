/- Slacks, the end, the test, plainly: what holds up to the end holds for all numbers of ticks. -/
import Derived.Test.YtfjeoefnpcgnnaaDelP
import Derived.Test.YtfjeoefnpcgnnaaEdfP
namespace Go.Proofs.Ytfjeoefnpcgnnaa.Lo
open Go.Proofs.Ytfjeoefnpcgnnaa.De Go.Proofs.Ytfjeoefnpcgnnaa.Su Go.Proofs.Ytfjeoefnpcgnnaa.Dl Go.Proofs.Ytfjeoefnpcgnnaa.Ed
set_option linter.unusedVariables false

theorem dem_sm (P D J : Nat → Nat) (t : Nat) : ∀ n, dem P D J t n = sm (fun i => J i * jobs (P i) (D i) t) n
  | 0 => rfl
  | n + 1 => by unfold dem sm; rw [dem_sm P D J t n, Nat.mul_comm]
theorem use_sm (P J : Nat → Nat) (T : Nat) : ∀ n, use P J T n = sm (fun i => T / P i * J i) n
  | 0 => rfl
  | n + 1 => by unfold use sm; rw [use_sm P J T n]
/-- what a partition's server gives in t ticks at least -/
def supN (p : Pn) (t : Nat) : Nat := sp p.per.toNat (p.per.toNat - p.bud.toNat) t
/-- what a job of a task asks for, with what is more -/
def askN (l : List Pn) (q : Nat) : Nat → Nat := asks (l.getD q p0).z (mors l q)
def demN (l : List Pn) (q t : Nat) : Nat := dem (per (l.getD q p0).z) (dea (l.getD q p0).z) (askN l q) t (l.getD q p0).n
def slk (l : List Pn) (q t : Nat) : Int := (supN (l.getD q p0) t : Int) - demN l q t - del l q t (l.getD q p0).n
def hyp (l : List Pn) (q : Nat) : Nat := hypL (l.getD q p0).n (l.getD q p0).z (l.getD q p0).per.toNat
def useN (l : List Pn) (q : Nat) : Nat := use (per (l.getD q p0).z) (askN l q) (hyp l q) (l.getD q p0).n
/-- the greatest Deadline -/
def maxD (z : Nat → Nat → Int) : Nat → Nat
  | 0 => 0
  | n + 1 => max (maxD z n) (dea z n)
theorem maxD_at {z : Nat → Nat → Int} : ∀ {n i : Nat}, i < n → dea z i ≤ maxD z n
  | 0, _, h => by cases h
  | n + 1, i, h => by
    unfold maxD
    by_cases e : i = n
    · subst e; omega
    · have := maxD_at (z := z) (show i < n by omega); omega
def endN (l : List Pn) (q : Nat) : Nat := hyp l q + maxD (l.getD q p0).z (l.getD q p0).n + 2 * (l.getD q p0).per.toNat
theorem mor_nn {l : List Pn} (h : chkP l = true) {q : Nat} {bud : Int} {t : Nat → Int} (ht : TB bud t) : 0 ≤ mor l q t := by
  unfold mor
  split
  · rename_i hp
    have h1 := wait_bd h q t
    have h2 := ht.n0 hp
    exact Int.mul_nonneg (by omega) (by omega)
  · omega
theorem PB.good {p : Pn} (h : PB p) : De.Good p.n p.z := good_of (by
  unfold tasksOK
  rw [decide_eq_true h.n4, Bool.true_and]
  exact allT_all fun i hi => (h.t i hi).ok)
theorem mors_at (l : List Pn) (q : Nat) {i : Nat} (hi : i < (l.getD q p0).n) : (mors l q).getD i 0 = mor l q ((l.getD q p0).z i) := by
  unfold mors
  have h1 : (List.range (l.getD q p0).n)[i]? = some i := by rw [List.getElem?_range hi]
  rw [List.getD, List.getElem?_map, h1]
  rfl
theorem ask_pos {l : List Pn} (h : chkP l = true) {q : Nat} (hq : q < l.length) {i : Nat} (hi : i < (l.getD q p0).n) : 1 ≤ askN l q i := by
  have hp := chkP_at h hq
  have h1 := (PB.good hp).at' i hi
  have h2 := mor_nn h (q := q) (hp.t i hi)
  unfold askN asks
  rw [mors_at l q hi]
  omega
theorem demN_zero {l : List Pn} (h : chkP l = true) {q : Nat} (hq : q < l.length) : demN l q 0 = 0 := by
  have hg := PB.good (chkP_at h hq)
  unfold demN
  rw [dem_sm]
  refine sm_zero fun i hi => ?_
  have := hg.at' i hi
  unfold jobs
  rw [if_pos (by omega), Nat.mul_zero]
theorem slk_all {l : List Pn} (h : chkP l = true) {q : Nat} (hq : q < l.length) (hn : 0 < (l.getD q p0).n) (hu : useN l q ≤ hyp l q / (l.getD q p0).per.toNat * (l.getD q p0).bud.toNat)
    (hb : ∀ t, 1 ≤ t → t ≤ endN l q → 0 < demN l q t → 0 ≤ slk l q t) : ∀ t, 0 < demN l q t → 0 ≤ slk l q t := by
  have hp := chkP_at h hq
  have hg := PB.good hp
  have h0 := demN_zero h hq
  have hask := fun i hi => ask_pos h hq (i := i) hi
  have hdn : ∀ t : Nat, 0 ≤ del l q t (l.getD q p0).n := fun t => del_nn _ _
  have hdz : ∀ t : Nat, maxD (l.getD q p0).z (l.getD q p0).n ≤ t → del l q t (l.getD q p0).n = 0 := fun t ht => del_zero fun i hi => by
    have := maxD_at (z := (l.getD q p0).z) hi
    have := (hg.at' i hi).2.1
    omega
  have hP : 0 < (l.getD q p0).per.toNat := by have := hp.p1; omega
  have hh : 0 < hyp l q := hg.hyp_pos hP (by have := hp.p2; omega)
  have hdv := (hypL_dvd (n := (l.getD q p0).n) (z := (l.getD q p0).z) (p := (l.getD q p0).per.toNat) (T := hyp l q)).1 (Nat.dvd_refl _)
  have hdem : ∀ t, maxD (l.getD q p0).z (l.getD q p0).n ≤ t → demN l q (t + hyp l q) = demN l q t + useN l q := fun t ht => by
    unfold demN useN
    rw [dem_sm, dem_sm, use_sm]
    exact dem_period (fun i hi => (hg.at' i hi).2.2.1) hdv.2 (fun i hi => Nat.le_trans (maxD_at hi) ht)
  have hsup : ∀ t, (l.getD q p0).per.toNat ≤ t → supN (l.getD q p0) (t + hyp l q) = supN (l.getD q p0) t + hyp l q / (l.getD q p0).per.toNat * (l.getD q p0).bud.toNat := fun t ht => by
    obtain ⟨c, hc⟩ := hdv.1
    unfold supN
    rw [hc, Nat.mul_comm _ c, Nat.mul_div_cancel _ hP, sp_periods hP (by omega)]
    have h1 := hp.b2
    have h2 := hp.b1
    rw [show (l.getD q p0).per.toNat - ((l.getD q p0).per.toNat - (l.getD q p0).bud.toNat) = (l.getD q p0).bud.toNat by omega]
  have hpos : ∀ t, maxD (l.getD q p0).z (l.getD q p0).n ≤ t → 0 < demN l q t := fun t ht => by
    unfold demN
    rw [dem_sm]
    have h1 := sm_at (f := fun i => askN l q i * jobs (per (l.getD q p0).z i) (dea (l.getD q p0).z i) t) hn
    have h2 := maxD_at (z := (l.getD q p0).z) hn
    have h3 : 0 < jobs (per (l.getD q p0).z 0) (dea (l.getD q p0).z 0) t := by unfold jobs; rw [if_neg (by omega)]; exact Nat.lt_of_lt_of_le Nat.zero_lt_one (Nat.le_add_right _ _)
    have h4 := Nat.mul_pos (hask 0 hn) h3
    omega
  have key := for_all (f := fun t => if demN l q t = 0 then 0 else demN l q t + (del l q t (l.getD q p0).n).toNat) (s := supN (l.getD q p0)) (h := hyp l q) (e := endN l q)
    (u := useN l q) (v := hyp l q / (l.getD q p0).per.toNat * (l.getD q p0).bud.toNat) (m := maxD (l.getD q p0).z (l.getD q p0).n + (l.getD q p0).per.toNat) hh
    (fun t ht hf => by
      by_cases e : demN l q t = 0
      · rw [if_pos e]; omega
      · rw [if_neg e]
        have h1 := hb t (Nat.pos_of_ne_zero fun hc => e (by rw [hc]; exact h0)) ht (by omega)
        have h2 := hdn t
        unfold slk at h1
        omega)
    (by unfold endN; omega)
    (fun t ht => by
      have h1 := hpos t (by omega)
      have h2 := hpos (t + hyp l q) (by omega)
      have h3 := hdz t (by omega)
      have h4 := hdz (t + hyp l q) (by omega)
      rw [if_neg (by omega), if_neg (by omega), h3, h4, hdem t (by omega)]
      rfl)
    (fun t ht => hsup t (by omega)) hu
    (fun t ht => by
      have h1 := hpos t (by omega)
      show 0 < (if demN l q t = 0 then 0 else demN l q t + (del l q t (l.getD q p0).n).toNat)
      rw [if_neg (by omega)]; omega)
  intro t ht
  have h1 := key t (by show 0 < (if demN l q t = 0 then 0 else demN l q t + (del l q t (l.getD q p0).n).toNat); rw [if_neg (by omega)]; omega)
  have h2 : (if demN l q t = 0 then 0 else demN l q t + (del l q t (l.getD q p0).n).toNat) ≤ supN (l.getD q p0) t := h1
  rw [if_neg (by omega)] at h2
  have h3 := hdn t
  unfold slk
  omega
end Go.Proofs.Ytfjeoefnpcgnnaa.Lo

namespace Go.Proofs.Ytfjeoefnpcgnnaa.Lo
open Go.Proofs.Ytfjeoefnpcgnnaa.De Go.Proofs.Ytfjeoefnpcgnnaa.Su Go.Proofs.Ytfjeoefnpcgnnaa.Dl Go.Proofs.Ytfjeoefnpcgnnaa.Ed
set_option linter.unusedVariables false

/-- fewer idle ticks give no less -/
theorem sp_less {P I I' : Nat} (hP : 0 < P) (hI : I < P) (h : I' ≤ I) (t : Nat) : sp P I t ≤ sp P I' t := by
  by_cases ht : t ≤ I
  · rw [sp_low hP ht]; exact Nat.zero_le _
  · have h1 := sp_mono hP (show I' < P by omega) (show t - I + I' ≤ t by omega)
    refine Nat.le_trans ?_ h1
    unfold sp
    rw [Nat.add_sub_cancel]
    have h2 : (t - I) / P * (P - I) ≤ (t - I) / P * (P - I') := Nat.mul_le_mul_left _ (by omega)
    omega
/-- the test lets a partition that has tasks pass -/
structure Pass (l : List Pn) (q : Nat) : Prop where
  h : hyp l q ≤ 4096
  u : useN l q ≤ hyp l q / (l.getD q p0).per.toNat * (l.getD q p0).bud.toNat
  s : ∀ t, 1 ≤ t → t ≤ endN l q → 0 < demN l q t → 0 ≤ slk l q t
/-- a partition has it no harder than another -/
structure Easy (l : List Pn) (q : Nat) (l' : List Pn) (q' : Nat) : Prop where
  p : (l'.getD q' p0).per = (l.getD q p0).per
  n : (l'.getD q' p0).n = (l.getD q p0).n
  z0 : ∀ i, i < (l.getD q p0).n → (l'.getD q' p0).z i 0 = (l.getD q p0).z i 0
  z1 : ∀ i, i < (l.getD q p0).n → (l'.getD q' p0).z i 1 = (l.getD q p0).z i 1
  b : (l.getD q p0).bud ≤ (l'.getD q' p0).bud
  a : ∀ i, i < (l.getD q p0).n → askN l' q' i ≤ askN l q i
  d : ∀ t : Nat, del l' q' t (l.getD q p0).n ≤ del l q t (l.getD q p0).n
theorem Easy.hyp {l l' : List Pn} {q q' : Nat} (e : Easy l q l' q') : hyp l' q' = hyp l q := by
  unfold Lo.hyp hypL pers
  rw [e.p, e.n]
  congr 2
  refine List.map_congr_left fun i hi => ?_
  unfold per
  rw [e.z0 i (by simpa using hi)]
theorem maxD_eq {z z' : Nat → Nat → Int} : ∀ {n : Nat}, (∀ i, i < n → z' i 1 = z i 1) → maxD z' n = maxD z n
  | 0, _ => rfl
  | n + 1, h => by unfold maxD; rw [maxD_eq (fun i hi => h i (by omega))]; unfold dea; rw [h n (by omega)]
theorem Easy.ends {l l' : List Pn} {q q' : Nat} (e : Easy l q l' q') : endN l' q' = endN l q := by
  unfold endN
  rw [e.hyp, e.p, e.n, maxD_eq e.z1]
theorem Easy.dem {l l' : List Pn} {q q' : Nat} (e : Easy l q l' q') (t : Nat) : demN l' q' t ≤ demN l q t := by
  unfold demN
  rw [dem_sm, dem_sm, e.n]
  refine sm_le fun i hi => ?_
  show askN l' q' i * jobs (per (l'.getD q' p0).z i) (dea (l'.getD q' p0).z i) t ≤ askN l q i * jobs (per (l.getD q p0).z i) (dea (l.getD q p0).z i) t
  unfold per dea
  rw [e.z0 i hi, e.z1 i hi]
  exact Nat.mul_le_mul_right _ (e.a i hi)
theorem Easy.use {l l' : List Pn} {q q' : Nat} (e : Easy l q l' q') : useN l' q' ≤ useN l q := by
  unfold useN
  rw [use_sm, use_sm, e.n, e.hyp]
  refine sm_le fun i hi => ?_
  show Lo.hyp l q / per (l'.getD q' p0).z i * askN l' q' i ≤ Lo.hyp l q / per (l.getD q p0).z i * askN l q i
  unfold per
  rw [e.z0 i hi]
  exact Nat.mul_le_mul_left _ (e.a i hi)
theorem Easy.sup {l l' : List Pn} {q q' : Nat} (e : Easy l q l' q') (h : PB (l.getD q p0)) (t : Nat) : supN (l.getD q p0) t ≤ supN (l'.getD q' p0) t := by
  have h1 := h.p1
  have h2 := h.b1
  have h3 := h.b2
  have h4 := e.b
  unfold supN
  rw [e.p]
  exact sp_less (by omega) (by omega) (by omega) t
theorem Easy.slk {l l' : List Pn} {q q' : Nat} (e : Easy l q l' q') (h : PB (l.getD q p0)) (t : Nat) : slk l q t ≤ slk l' q' t := by
  have h1 := e.sup h t
  have h2 := e.dem t
  have h3 := e.d t
  unfold Lo.slk
  rw [e.n]
  omega
theorem Easy.pass {l l' : List Pn} {q q' : Nat} (e : Easy l q l' q') (h : PB (l.getD q p0)) (hp : Pass l q) : Pass l' q' := by
  refine ⟨by rw [e.hyp]; exact hp.h, ?_, fun t h1 h2 h3 => ?_⟩
  · have h1 := e.use
    have h2 := hp.u
    have h3 : Lo.hyp l q / (l.getD q p0).per.toNat * (l.getD q p0).bud.toNat ≤ Lo.hyp l q / (l.getD q p0).per.toNat * (l'.getD q' p0).bud.toNat :=
      Nat.mul_le_mul_left _ (by have := e.b; omega)
    rw [e.hyp, e.p]
    omega
  · have := hp.s t h1 (by rw [← e.ends]; exact h2) (Nat.lt_of_lt_of_le h3 (e.dem t))
    have := e.slk h t
    omega
theorem asks_le {l l' : List Pn} {q q' i : Nat} (h : (l'.getD q' p0).z i 2 ≤ (l.getD q p0).z i 2) (hi : i < (l.getD q p0).n) (hi' : i < (l'.getD q' p0).n) (hm : mor l' q' ((l'.getD q' p0).z i) ≤ mor l q ((l.getD q p0).z i)) : askN l' q' i ≤ askN l q i := by
  unfold askN asks
  rw [mors_at l q hi, mors_at l' q' hi']
  omega
/-- without the last one -/
theorem easy_app {l : List Pn} {x : Pn} {q : Nat} (h : chkP l = true) (hx : PB x) (hq : q < l.length) : Easy (l ++ [x]) q l q := by
  have hg : (l ++ [x]).getD q p0 = l.getD q p0 := getD_app hq
  refine ⟨by rw [hg], by rw [hg], fun i _ => by rw [hg], fun i _ => by rw [hg], by rw [hg]; exact Int.le_refl _, fun i hi => ?_, fun t => ?_⟩
  · rw [hg] at hi
    exact asks_le (by rw [hg]; exact Int.le_refl _) (by rw [hg]; exact hi) hi (by rw [hg]; exact mor_mono hx hq ((chkP_at h hq).t i hi))
  · rw [hg]; exact del_mono hx hq t _
end Go.Proofs.Ytfjeoefnpcgnnaa.Lo

namespace Go.Proofs.Ytfjeoefnpcgnnaa.Lo
open Go.Proofs.Ytfjeoefnpcgnnaa.De Go.Proofs.Ytfjeoefnpcgnnaa.Su Go.Proofs.Ytfjeoefnpcgnnaa.Dl Go.Proofs.Ytfjeoefnpcgnnaa.Ed
set_option linter.unusedVariables false

theorem wait_alone (p : Pn) (t : Nat → Int) : wait [p] 0 t = 0 := by
  show wt [p] 0 (t 5) 0 + add1 [p] 0 (t 5) 0 = 0
  unfold add1
  rw [if_neg (fun h => h.2.1 rfl)]
  rfl
theorem del_le {l l' : List Pn} {q q' : Nat} {T : Int} : ∀ {n : Nat}, (∀ i, i < n → (l'.getD q' p0).z i 1 = (l.getD q p0).z i 1) → (∀ i, i < n → del1 l' q' ((l'.getD q' p0).z i) ≤ del1 l q ((l.getD q p0).z i)) → del l' q' T n ≤ del l q T n
  | 0, _, _ => Int.le_refl _
  | n + 1, h1, h2 => by
    have ih := del_le (T := T) (n := n) (fun i hi => h1 i (by omega)) (fun i hi => h2 i (by omega))
    have := h2 n (by omega)
    rw [del, del, h1 n (by omega)]
    split <;> omega
/-- alone, with a greater budget -/
theorem easy_alone {l : List Pn} {q : Nat} (h : chkP l = true) (hq : q < l.length) {b : Int} (hb : (l.getD q p0).bud ≤ b) :
    Easy l q [⟨(l.getD q p0).per, b, (l.getD q p0).n, (l.getD q p0).z⟩] 0 := by
  have hp := chkP_at h hq
  refine ⟨rfl, rfl, fun _ _ => rfl, fun _ _ => rfl, hb, fun i hi => ?_, fun t => ?_⟩
  · refine asks_le (Int.le_refl _) hi hi ?_
    show mor _ 0 ((l.getD q p0).z i) ≤ mor l q ((l.getD q p0).z i)
    unfold mor
    rw [wait_alone]
    have h1 := (wait_bd h q ((l.getD q p0).z i)).1
    split
    · rename_i hc
      have h2 := (hp.t i hi).n0 hc
      exact Int.mul_le_mul_of_nonneg_left (by omega) (by omega)
    · exact Int.le_refl _
  · refine del_le (fun _ _ => rfl) fun i hi => ?_
    show del1 _ 0 ((l.getD q p0).z i) ≤ del1 l q ((l.getD q p0).z i)
    unfold del1
    rw [wait_alone]
    have h1 := (wait_bd h q ((l.getD q p0).z i)).1
    split <;> omega
/-- a task's numbers without what is shared, of a Bound of one less -/
def bare (t : Nat → Int) : Nat → Int
  | 0 => t 0
  | 1 => t 1
  | 2 => max (t 2 - 1) 1
  | _ => 0
theorem bare_mor (l : List Pn) (q : Nat) (t : Nat → Int) : mor l q (bare t) = 0 := by
  unfold mor; rw [if_neg (by show ¬ ((0 : Int) < 0); omega)]
theorem bare_del (l : List Pn) (q : Nat) (t : Nat → Int) : del1 l q (bare t) = 0 := by
  unfold del1; rw [if_neg (by show ¬ ((0 : Int) < 0); omega)]; rfl
theorem del1_nn {l : List Pn} (h : chkP l = true) {q : Nat} {bud : Int} {t : Nat → Int} (ht : TB bud t) : 0 ≤ del1 l q t := by
  have := ht.l0
  unfold del1
  split <;> omega
theorem easy_bare {l : List Pn} {q : Nat} (h : chkP l = true) (hq : q < l.length) {b : Int} (hb : (l.getD q p0).bud ≤ b) :
    Easy l q [⟨(l.getD q p0).per, b, (l.getD q p0).n, fun i => bare ((l.getD q p0).z i)⟩] 0 := by
  have hp := chkP_at h hq
  refine ⟨rfl, rfl, fun _ _ => rfl, fun _ _ => rfl, hb, fun i hi => ?_, fun t => ?_⟩
  · refine asks_le ?_ hi hi ?_
    · show max ((l.getD q p0).z i 2 - 1) 1 ≤ (l.getD q p0).z i 2
      have := ((PB.good hp).at' i hi).2.2.2.2.2.2.1
      omega
    · show mor _ 0 (bare ((l.getD q p0).z i)) ≤ _
      rw [bare_mor]
      exact mor_nn h (hp.t i hi)
  · refine del_le (fun _ _ => rfl) fun i hi => ?_
    show del1 _ 0 (bare ((l.getD q p0).z i)) ≤ _
    rw [bare_del]
    exact del1_nn h (hp.t i hi)
end Go.Proofs.Ytfjeoefnpcgnnaa.Lo

namespace Go.Proofs.Ytfjeoefnpcgnnaa.Lo
open Go.Proofs.Ytfjeoefnpcgnnaa.De Go.Proofs.Ytfjeoefnpcgnnaa.Su Go.Proofs.Ytfjeoefnpcgnnaa.Dl Go.Proofs.Ytfjeoefnpcgnnaa.Ed
set_option linter.unusedVariables false

theorem tb_more {bud b : Int} {t : Nat → Int} (h : TB bud t) (hb : bud ≤ b) : TB b t :=
  ⟨h.ok, h.l0, h.l1, h.g0, h.g4, fun hc => by have := h.n0 hc; exact ⟨this.1, Int.le_trans this.2.1 hb, this.2.2⟩, h.n1⟩
theorem pb_more {p : Pn} (h : PB p) {b : Int} (hb : p.bud ≤ b) (hb2 : b ≤ p.per) : PB ⟨p.per, b, p.n, p.z⟩ :=
  ⟨h.p1, h.p2, Int.le_trans h.b1 hb, hb2, h.n4, fun i hi => tb_more (h.t i hi) hb⟩
theorem tb_bare {bud b : Int} {t : Nat → Int} (h : TB bud t) : TB b (bare t) := by
  have h1 := tOK_iff.1 h.ok
  refine ⟨tOK_iff.2 ⟨h1.1, h1.2.1, h1.2.2.1, h1.2.2.2.1, ?_, ?_⟩, Int.le_refl _, ?_, Int.le_refl _, by show (0 : Int) ≤ 4; omega, fun hc => ?_, fun _ => ⟨rfl, rfl⟩⟩
  · show 1 ≤ max (t 2 - 1) 1; omega
  · show max (t 2 - 1) 1 ≤ t 1; omega
  · show (0 : Int) ≤ max (t 2 - 1) 1; omega
  · exact absurd (show (0 : Int) < 0 from hc) (by omega)
theorem pb_bare {p : Pn} (h : PB p) {b : Int} (hb : p.bud ≤ b) (hb2 : b ≤ p.per) : PB ⟨p.per, b, p.n, fun i => bare (p.z i)⟩ :=
  ⟨h.p1, h.p2, Int.le_trans h.b1 hb, hb2, h.n4, fun i hi => tb_bare (h.t i hi)⟩
theorem chk_one {p : Pn} (h : PB p) : chkP [p] = true := by
  unfold chkP
  rw [List.all_cons, List.all_nil, okP_iff.2 h]
  rfl
/-- what jobs that do not wait ask for, of t ticks -/
def plainN (p : Pn) (t : Nat) : Nat := sm (fun i => (p.z i 2).toNat * jobs (per p.z i) (dea p.z i) t) p.n
theorem plain_le {l : List Pn} (h : chkP l = true) {q : Nat} (hq : q < l.length) (t : Nat) : plainN (l.getD q p0) t ≤ demN l q t := by
  have hp := chkP_at h hq
  unfold plainN demN
  rw [dem_sm]
  refine sm_le fun i hi => Nat.mul_le_mul_right _ ?_
  have h1 := (PB.good hp).at' i hi
  have h2 := mor_nn h (q := q) (hp.t i hi)
  unfold askN asks
  rw [mors_at l q hi]
  omega
/-- asked for by plain jobs: no more than the supply, if the partition passes -/
theorem plain_sup {l : List Pn} (h : chkP l = true) {q : Nat} (hq : q < l.length) (hn : 0 < (l.getD q p0).n) (hp : Pass l q) (t : Nat) (ht : 0 < plainN (l.getD q p0) t) : plainN (l.getD q p0) t ≤ supN (l.getD q p0) t := by
  have h1 := plain_le h hq t
  have h2 := slk_all h hq hn hp.u hp.s t (by omega)
  have h3 := del_nn (l := l) (q := q) (t : Int) (l.getD q p0).n
  unfold slk at h2
  omega
/-- positive, and only then -/
theorem plain_pos {l : List Pn} (h : chkP l = true) {q : Nat} (hq : q < l.length) {t : Nat} (ht : 0 < demN l q t) : 0 < plainN (l.getD q p0) t := by
  rcases Nat.eq_zero_or_pos (plainN (l.getD q p0) t) with h0 | h0
  · exfalso
    have hg := PB.good (chkP_at h hq)
    have : demN l q t = 0 := by
      unfold demN
      rw [dem_sm]
      refine sm_zero fun i hi => ?_
      have h1 := sm_at (f := fun i => ((l.getD q p0).z i 2).toNat * jobs (per (l.getD q p0).z i) (dea (l.getD q p0).z i) t) hi
      unfold plainN at h0
      rw [h0] at h1
      have h2 := (hg.at' i hi).2.2.2.2.2.2.1
      have h3 : jobs (per (l.getD q p0).z i) (dea (l.getD q p0).z i) t = 0 := by
        rcases Nat.eq_zero_or_pos (jobs (per (l.getD q p0).z i) (dea (l.getD q p0).z i) t) with h4 | h4
        · exact h4
        · have := Nat.mul_pos (show 0 < ((l.getD q p0).z i 2).toNat by omega) h4
          have h5 : ((l.getD q p0).z i 2).toNat * jobs (per (l.getD q p0).z i) (dea (l.getD q p0).z i) t ≤ 0 := h1
          omega
      rw [h3, Nat.mul_zero]
    omega
  · exact h0
end Go.Proofs.Ytfjeoefnpcgnnaa.Lo

namespace Go.Proofs.Ytfjeoefnpcgnnaa.Lo
open Go.Proofs.Ytfjeoefnpcgnnaa.De Go.Proofs.Ytfjeoefnpcgnnaa.Su Go.Proofs.Ytfjeoefnpcgnnaa.Dl Go.Proofs.Ytfjeoefnpcgnnaa.Ed
set_option linter.unusedVariables false

theorem spaced_snoc {P b : Nat} : ∀ {r : List Nat}, Spaced P r → (∀ a ∈ r, a + P ≤ b) → Spaced P (r ++ [b])
  | [], _, _ => trivial
  | [a], _, h => ⟨h a (by simp), trivial⟩
  | a :: c :: r, hs, h => ⟨hs.1, spaced_snoc (r := c :: r) hs.2 (fun x hx => h x (List.mem_cons_of_mem _ hx))⟩
def bnd (p : Pn) (i : Nat) : Nat := (p.z i 2).toNat
structure KI (p : Pn) (run : Nat → Bool) (now : Nat) (left ends next : Nat → Nat) (rels : Nat → List Nat) : Prop where
  inv : Inv p.n (bnd p) (dea p.z) run now left ends rels
  sp : ∀ i, i < p.n → Spaced (per p.z i) (rels i)
  nx : ∀ i, i < p.n → ∀ a ∈ rels i, a + per p.z i ≤ next i
/-- at a tick's start -/
def KS (p : Pn) (run : Nat → Bool) (now : Nat) (left ends next : Nat → Nat) : Prop := ∃ rels, KI p run now left ends next rels
theorem ks_start (p : Pn) (run : Nat → Bool) {left ends next : Nat → Nat} (h : ∀ i, i < p.n → left i = 0) : KS p run 0 left ends next :=
  ⟨fun _ => [], inv_start _ _ _ _ h _, fun _ _ => trivial, fun _ _ a ha => by cases ha⟩
/-- nobody is late -/
theorem ks_in_time {p : Pn} (hp : PB p) (hn : 0 < p.n) (hq : Pass [p] 0) {run : Nat → Bool} {K now : Nat} (hr : Runs p.per.toNat p.bud.toNat run K) (hK : now ≤ K * p.per.toNat) {left ends next : Nat → Nat} (h : KS p run now left ends next)
    {k : Nat} (hk : k < p.n) (hl : 0 < left k) (he : ends k ≤ now) : False := by
  obtain ⟨rels, hi, hs, _⟩ := h
  have hg := PB.good hp
  have h1 := hp.p1
  have h2 := hp.b1
  have h3 := hp.b2
  refine in_time (sup := supN p) hi hk hl he (fun i hi => (hg.at' i hi).2.2.1) hs (fun t0 ht => ?_) (fun t _ hpos => ?_)
  · exact sound (by omega) (by omega) hr (by omega)
  · exact plain_sup (l := [p]) (q := 0) (chk_one hp) (Nat.zero_lt_one) hn hq t hpos
/-- a job is released -/
theorem ks_release {p : Pn} (hp : PB p) {run : Nat → Bool} {now : Nat} {left ends next left' ends' next' : Nat → Nat} (h : KS p run now left ends next) {k : Nat} (hk : k < p.n) (hw : next k ≤ now)
    (hl : left' k = bnd p k) (he : ends' k = now + dea p.z k) (hx : now + per p.z k ≤ next' k) (ho : ∀ i, i ≠ k → left' i = left i ∧ ends' i = ends i ∧ next' i = next i) : KS p run now left' ends' next' := by
  obtain ⟨rels, hi, hs, hn⟩ := h
  have hg := (PB.good hp).at' k hk
  refine ⟨fun i => if i = k then rels i ++ [now] else rels i, inv_release hi hk hg.2.2.2.2.1 hl he (by simp) (fun i hne => ⟨(ho i hne).1, (ho i hne).2.1, by simp [hne]⟩), fun i hin => ?_, fun i hin a ha => ?_⟩
  · show Spaced _ (if i = k then rels i ++ [now] else rels i)
    split
    · rename_i e
      subst e
      exact spaced_snoc (hs i hin) (fun a ha => Nat.le_trans (hn i hin a ha) hw)
    · exact hs i hin
  · have ha : a ∈ (if i = k then rels i ++ [now] else rels i) := ha
    by_cases e : i = k
    · subst e
      rw [if_pos rfl, List.mem_append, List.mem_singleton] at ha
      rcases ha with ha | rfl
      · have := hn i hin a ha; omega
      · exact hx
    · rw [if_neg e] at ha
      rw [(ho i e).2.2]
      exact hn i hin a ha
theorem ks_idle {p : Pn} {run : Nat → Bool} {now : Nat} {left ends next : Nat → Nat} (h : KS p run now left ends next) (hr : run now = false) : KS p run (now + 1) left ends next := by
  obtain ⟨rels, hi, hs, hn⟩ := h
  exact ⟨rels, inv_idle hi hr, hs, hn⟩
theorem ks_none {p : Pn} {run : Nat → Bool} {now : Nat} {left ends next : Nat → Nat} (h : KS p run now left ends next) (hz : ∀ i, i < p.n → left i = 0) : KS p run (now + 1) left ends next := by
  obtain ⟨rels, hi, hs, hn⟩ := h
  exact ⟨rels, inv_none hz, hs, hn⟩
theorem ks_run {p : Pn} {run : Nat → Bool} {now : Nat} {left ends next left' : Nat → Nat} (h : KS p run now left ends next) {k : Nat} (hk : k < p.n) (hp : 0 < left k) (hm : ∀ i, i < p.n → 0 < left i → ends k ≤ ends i)
    (hl : left' k = left k - 1) (ho : ∀ i, i ≠ k → left' i = left i) : KS p run (now + 1) left' ends next := by
  obtain ⟨rels, hi, hs, hn⟩ := h
  exact ⟨rels, inv_run hi hk hp hm hl ho, hs, hn⟩
end Go.Proofs.Ytfjeoefnpcgnnaa.Lo

namespace Go.Proofs.Ytfjeoefnpcgnnaa.Sh
open Go.Proofs.Ytfjeoefnpcgnnaa.De Go.Proofs.Ytfjeoefnpcgnnaa.Su Go.Proofs.Ytfjeoefnpcgnnaa.Dl Go.Proofs.Ytfjeoefnpcgnnaa.Ed Go.Proofs.Ytfjeoefnpcgnnaa.Lo
set_option linter.unusedVariables false

/-- a fraction in lowest terms -/
def low (t b : Nat) : Nat × Nat := (t / Nat.gcd t b, b / Nat.gcd t b)
/-- the sum of the first n -/
def sumF (B P : Nat → Nat) : Nat → Nat × Nat
  | 0 => (0, 1)
  | n + 1 => low ((sumF B P n).1 * P n + B n * (sumF B P n).2) ((sumF B P n).2 * P n)
theorem low_pos {t b : Nat} (h : 0 < b) : 0 < (low t b).2 := Nat.div_pos (Nat.le_of_dvd h (Nat.gcd_dvd_right t b)) (Nat.gcd_pos_of_pos_right t h)
theorem low_co {t b : Nat} (h : 0 < b) : Nat.Coprime (low t b).1 (low t b).2 := Nat.coprime_div_gcd_div_gcd (Nat.gcd_pos_of_pos_right t h)
/-- what a fraction is of M, if that is a whole number -/
theorem low_of {t b M s : Nat} (hb : 0 < b) (h : t * M = b * s) : (low t b).2 ∣ M ∧ (low t b).1 * (M / (low t b).2) = s := by
  have hg := Nat.gcd_pos_of_pos_right t hb
  have h1 : (low t b).1 * Nat.gcd t b = t := Nat.div_mul_cancel (Nat.gcd_dvd_left t b)
  have h2 : (low t b).2 * Nat.gcd t b = b := Nat.div_mul_cancel (Nat.gcd_dvd_right t b)
  have h3 : (low t b).1 * M = (low t b).2 * s := by
    refine Nat.eq_of_mul_eq_mul_left hg ?_
    rw [← Nat.mul_assoc, ← Nat.mul_assoc, Nat.mul_comm _ (low t b).1, Nat.mul_comm _ (low t b).2, h1, h2, h]
  have h4 : (low t b).2 ∣ M := (low_co hb).symm.dvd_of_dvd_mul_left ⟨s, h3⟩
  refine ⟨h4, ?_⟩
  obtain ⟨c, hc⟩ := h4
  rw [hc, Nat.mul_div_cancel_left _ (low_pos hb)]
  refine Nat.eq_of_mul_eq_mul_left (low_pos (t := t) hb) ?_
  rw [← h3]
  conv => rhs; rw [hc]
  rw [Nat.mul_left_comm]
theorem sumF_pos {B P : Nat → Nat} : ∀ {n : Nat}, (∀ i, i < n → 0 < P i) → 0 < (sumF B P n).2
  | 0, _ => Nat.zero_lt_one
  | n + 1, h => low_pos (Nat.mul_pos (sumF_pos fun i hi => h i (by omega)) (h n (by omega)))
theorem sumF_of {B P : Nat → Nat} {M : Nat} : ∀ {n : Nat}, (∀ i, i < n → 0 < P i) → (∀ i, i < n → P i ∣ M) → (sumF B P n).2 ∣ M ∧ (sumF B P n).1 * (M / (sumF B P n).2) = sm (fun i => B i * (M / P i)) n
  | 0, _, _ => ⟨Nat.one_dvd _, by simp [sumF, sm]⟩
  | n + 1, hP, hd => by
    obtain ⟨h1, h2⟩ := sumF_of (B := B) (n := n) (fun i hi => hP i (by omega)) (fun i hi => hd i (by omega))
    have h3 := sumF_pos (B := B) (P := P) (n := n) (fun i hi => hP i (by omega))
    have h4 := hP n (by omega)
    obtain ⟨c, hc⟩ := h1
    obtain ⟨e, he⟩ := hd n (by omega)
    refine low_of (Nat.mul_pos h3 h4) ?_
    show _ = _ * (sm (fun i => B i * (M / P i)) n + B n * (M / P n))
    rw [← h2]
    have e1 : M / (sumF B P n).2 = c := by rw [hc, Nat.mul_div_cancel_left _ h3]
    have e2 : M / P n = e := by rw [he, Nat.mul_div_cancel_left _ h4]
    rw [e1, e2, Nat.add_mul, Nat.mul_add]
    congr 1
    · clear e1 h2; rw [hc]; ac_rfl
    · clear e2; rw [he]; ac_rfl
/-- at most 1 -/
theorem sumF_le {B P : Nat → Nat} {M n : Nat} (hM : 0 < M) (hP : ∀ i, i < n → 0 < P i) (hd : ∀ i, i < n → P i ∣ M) : (sumF B P n).1 ≤ (sumF B P n).2 ↔ sm (fun i => B i * (M / P i)) n ≤ M := by
  obtain ⟨⟨c, hc⟩, h2⟩ := sumF_of (B := B) hP hd
  have h3 := sumF_pos (B := B) hP
  have e1 : M / (sumF B P n).2 = c := by conv => lhs; rw [hc]; rw [Nat.mul_div_cancel_left _ h3]
  rw [e1] at h2
  have hc0 : 0 < c := Nat.pos_of_ne_zero fun h => by rw [h, Nat.mul_zero] at hc; omega
  rw [← h2]
  conv => rhs; rhs; rw [hc]
  exact ⟨fun h => Nat.mul_le_mul_right _ h, fun h => Nat.le_of_mul_le_mul_right h hc0⟩
/-- servers, as tasks whose Deadline is their Period -/
def srv (n : Nat) (P B : Nat → Nat) : Pn := ⟨1, 1, n, fun i j => match j with | 0 => P i | 1 => P i | 2 => B i | _ => 0⟩
theorem srv_pb {n : Nat} {P B : Nat → Nat} (hn : n ≤ 4) (h : ∀ i, i < n → 1 ≤ P i ∧ P i ≤ 64 ∧ 1 ≤ B i ∧ B i ≤ P i) : PB (srv n P B) := by
  refine ⟨Int.le_refl _, by show (1 : Int) ≤ 64; omega, Int.le_refl _, Int.le_refl _, hn, fun i hi => ?_⟩
  obtain ⟨h1, h2, h3, h4⟩ := h i hi
  refine ⟨tOK_iff.2 ⟨?_, ?_, ?_, Int.le_refl _, ?_, ?_⟩, Int.le_refl _, ?_, Int.le_refl _, by show (0 : Int) ≤ 4; omega, fun hc => absurd (show (0 : Int) < 0 from hc) (by omega), fun _ => ⟨rfl, rfl⟩⟩
  · show (1 : Int) ≤ P i; omega
  · show (P i : Int) ≤ 64; omega
  · show (1 : Int) ≤ P i; omega
  · show (1 : Int) ≤ B i; omega
  · show (B i : Int) ≤ P i; omega
  · show (0 : Int) ≤ B i; omega
def alw : Nat → Bool := fun _ => true
theorem cnt_alw (a : Nat) : ∀ n, cnt alw a n = n
  | 0 => rfl
  | n + 1 => by unfold cnt; rw [cnt_alw a n]; rfl
/-- no server is late, if they share 1 at most -/
theorem sv_in_time {n : Nat} {P B : Nat → Nat} {M : Nat} (hM : 0 < M) (hP : ∀ i, i < n → 0 < P i) (hd : ∀ i, i < n → P i ∣ M) (hs : sm (fun i => B i * (M / P i)) n ≤ M) {now : Nat} {left ends next : Nat → Nat} (h : KS (srv n P B) alw now left ends next)
    {k : Nat} (hk : k < n) (hl : 0 < left k) (he : ends k ≤ now) : False := by
  obtain ⟨rels, hi, hsp, _⟩ := h
  refine in_time (P := per (srv n P B).z) (sup := fun t => t) hi hk hl he (fun i hi => hP i hi) hsp (fun t0 ht => ?_) (fun t _ _ => ?_)
  · rw [cnt_alw]; exact Nat.le_refl _
  · exact share_dem hM hP hd hs t
end Go.Proofs.Ytfjeoefnpcgnnaa.Sh

namespace Go.Proofs.Ytfjeoefnpcgnnaa.Sh
open Go.Proofs.Ytfjeoefnpcgnnaa.De Go.Proofs.Ytfjeoefnpcgnnaa.Su Go.Proofs.Ytfjeoefnpcgnnaa.Dl Go.Proofs.Ytfjeoefnpcgnnaa.Ed Go.Proofs.Ytfjeoefnpcgnnaa.Lo
set_option linter.unusedVariables false

/-- what was asked for is left, or was run -/
def EI (n : Nat) (B : Nat → Nat) (now : Nat) (left rel : Nat → Nat) : Prop := sm (fun i => B i * rel i) n ≤ sm left n + now
theorem ei_start (n : Nat) (B left : Nat → Nat) : EI n B 0 left (fun _ => 0) := by
  unfold EI
  rw [sm_zero (fun i _ => Nat.mul_zero _)]
  exact Nat.zero_le _
theorem ei_release {n : Nat} {B : Nat → Nat} {now : Nat} {left rel left' rel' : Nat → Nat} (h : EI n B now left rel) {k : Nat} (hk : k < n) (h0 : left k = 0) (hl : left' k = B k) (hr : rel' k = rel k + 1)
    (ho : ∀ i, i ≠ k → left' i = left i ∧ rel' i = rel i) : EI n B now left' rel' := by
  unfold EI at h ⊢
  have e1 := sm_one (f := left') (g := left) (k := k) (fun i hi => (ho i hi).1) hk
  have e2 := sm_one (f := fun i => B i * rel' i) (g := fun i => B i * rel i) (k := k) (fun i hi => by simp only [(ho i hi).2]) hk
  simp only [hr, Nat.mul_add, Nat.mul_one] at e2
  omega
theorem ei_run {n : Nat} {B : Nat → Nat} {now : Nat} {left rel left' : Nat → Nat} (h : EI n B now left rel) {k : Nat} (hk : k < n) (hp : 0 < left k) (hl : left' k = left k - 1) (ho : ∀ i, i ≠ k → left' i = left i) : EI n B (now + 1) left' rel := by
  unfold EI at h ⊢
  have e1 := sm_one (f := left') (g := left) (k := k) ho hk
  omega
theorem ei_none {n : Nat} {B : Nat → Nat} {now : Nat} {left rel : Nat → Nat} (h : EI n B now left rel) : EI n B (now + 1) left rel := by
  unfold EI at h ⊢
  omega
/-- at a common multiple of the periods something is left -/
theorem ei_late {n : Nat} {B P : Nat → Nat} {M : Nat} {left rel : Nat → Nat} (h : EI n B M left rel) (hr : ∀ i, i < n → rel i = M / P i) (hs : M < sm (fun i => B i * (M / P i)) n) : ∃ i, i < n ∧ 0 < left i := by
  apply Decidable.byContradiction
  intro hn
  have h0 : sm left n = 0 := sm_zero fun i hi => Nat.eq_zero_of_not_pos fun hc => hn ⟨i, hi, hc⟩
  have h1 : sm (fun i => B i * rel i) n = sm (fun i => B i * (M / P i)) n := sm_congr fun i hi => by rw [hr i hi]
  unfold EI at h
  omega
end Go.Proofs.Ytfjeoefnpcgnnaa.Sh

namespace Go.Proofs.Ytfjeoefnpcgnnaa.Sh
open Go.Proofs.Ytfjeoefnpcgnnaa.De Go.Proofs.Ytfjeoefnpcgnnaa.Su Go.Proofs.Ytfjeoefnpcgnnaa.Dl Go.Proofs.Ytfjeoefnpcgnnaa.Ed Go.Proofs.Ytfjeoefnpcgnnaa.Lo
set_option linter.unusedVariables false

def upd (f : Nat → Nat) (k x : Nat) : Nat → Nat := fun i => if i = k then x else f i
theorem upd_at (f : Nat → Nat) (k x : Nat) : upd f k x k = x := if_pos rfl
theorem upd_ne (f : Nat → Nat) {k i : Nat} (x : Nat) (h : i ≠ k) : upd f k x i = f i := if_neg h
/-- so many beginnings of periods ahead of a tick -/
def cl (P t : Nat) : Nat := (t + P - 1) / P
theorem cl_rel {P t : Nat} (hP : 0 < P) (h : t % P = 0) : cl P t = t / P ∧ cl P (t + 1) = t / P + 1 := by
  obtain ⟨q, hq⟩ := Nat.dvd_of_mod_eq_zero h
  subst hq
  unfold cl
  rw [Nat.mul_div_cancel_left _ hP]
  constructor
  · rw [Nat.add_sub_assoc (by omega), Nat.mul_add_div hP, Nat.div_eq_of_lt (by omega), Nat.add_zero]
  · rw [show P * q + 1 + P - 1 = P * q + P * 1 by omega, ← Nat.mul_add, Nat.mul_div_cancel_left _ hP]
theorem cl_not {P t : Nat} (hP : 0 < P) (h : t % P ≠ 0) : cl P (t + 1) = cl P t := by
  have h1 := Nat.div_add_mod t P
  have h2 := Nat.mod_lt t hP
  generalize t / P = q at *
  generalize t % P = r at *
  subst h1
  unfold cl
  rw [show P * q + r + 1 + P - 1 = P * q + (P + r) by omega, show P * q + r + P - 1 = P * q + (P + (r - 1)) by omega, Nat.mul_add_div hP, Nat.mul_add_div hP, Nat.add_div_left _ hP, Nat.add_div_left _ hP, Nat.div_eq_of_lt h2, Nat.div_eq_of_lt (by omega)]
/-- the next beginning of a period, not ahead of a tick -/
def nxt (b P t : Nat) : Nat := if t ≤ b then b else b + cl P (t - b) * P
theorem nxt_rel {b P t : Nat} (hP : 0 < P) (hb : b ≤ t) (h : (t - b) % P = 0) : nxt b P t = t ∧ nxt b P (t + 1) = t + P := by
  obtain ⟨h1, h2⟩ := cl_rel hP h
  have h3 : (t - b) / P * P = t - b := Nat.div_mul_cancel (Nat.dvd_of_mod_eq_zero h)
  constructor
  · unfold nxt
    split
    · omega
    · rw [h1, h3]; omega
  · unfold nxt
    rw [if_neg (by omega), show t + 1 - b = (t - b) + 1 by omega, h2, Nat.add_mul, h3]
    omega
theorem nxt_not {b P t : Nat} (hP : 0 < P) (hb : b ≤ t) (h : (t - b) % P ≠ 0) : nxt b P (t + 1) = nxt b P t := by
  have hne : t ≠ b := fun e => by subst e; rw [Nat.sub_self, Nat.zero_mod] at h; exact h rfl
  unfold nxt
  rw [if_neg (by omega), if_neg (by omega), show t + 1 - b = (t - b) + 1 by omega, cl_not hP h]
theorem nxt_ahead {b P t : Nat} (hb : t < b) : nxt b P (t + 1) = nxt b P t := by
  unfold nxt
  rw [if_pos (by omega), if_pos (by omega)]
theorem ks_next {p : Pn} {run : Nat → Bool} {now : Nat} {left ends next next' : Nat → Nat} (h : KS p run now left ends next) (hn : ∀ i, i < p.n → next i = next' i) : KS p run now left ends next' := by
  obtain ⟨rels, hi, hs, hx⟩ := h
  exact ⟨rels, hi, hs, fun i hi' a ha => by rw [← hn i hi']; exact hx i hi' a ha⟩
/-- in a tick, the first j are looked at -/
def tj (j t i : Nat) : Nat := if i < j then t + 1 else t
theorem tj_ne {j t i : Nat} (h : i ≠ j) : tj (j + 1) t i = tj j t i := by
  unfold tj
  by_cases h1 : i < j
  · rw [if_pos h1, if_pos (by omega)]
  · rw [if_neg h1, if_neg (by omega)]
theorem tj_at (j t : Nat) : tj j t j = t ∧ tj (j + 1) t j = t + 1 := ⟨if_neg (by omega), if_pos (by omega)⟩
structure KM (n : Nat) (P B b : Nat → Nat) (t j : Nat) (l e : Nat → Nat) : Prop where
  ks : KS (srv n P B) alw t l e (fun i => nxt (b i) (P i) (tj j t i))
  en : ∀ i, i < n → 0 < l i → e i = nxt (b i) (P i) (tj j t i)
  nb : ∀ i, i < n → t < b i → l i = 0
  bd : ∀ i, i < n → l i ≤ 64 ∧ e i ≤ t + 64
theorem km_start (n : Nat) (P B b : Nat → Nat) : KM n P B b 0 0 (fun _ => 0) (fun _ => 0) :=
  ⟨ks_start _ _ fun _ _ => rfl, fun i _ h => absurd h (by decide), fun _ _ _ => rfl, fun _ _ => ⟨Nat.zero_le _, Nat.zero_le _⟩⟩
section
variable {n : Nat} {P B b : Nat → Nat} {t j : Nat} {l e : Nat → Nat}
theorem km_same (h : KM n P B b t j l e) (hs : nxt (b j) (P j) (t + 1) = nxt (b j) (P j) t) : KM n P B b t (j + 1) l e := by
  have key : ∀ i, nxt (b i) (P i) (tj j t i) = nxt (b i) (P i) (tj (j + 1) t i) := fun i => by
    by_cases hi : i = j
    · rw [hi, (tj_at j t).1, (tj_at j t).2, hs]
    · rw [tj_ne hi]
  exact ⟨ks_next h.ks fun i _ => key i, fun i hi hl => by rw [h.en i hi hl, key], h.nb, h.bd⟩
theorem km_rel (hP : ∀ i, i < n → 1 ≤ P i ∧ P i ≤ 64 ∧ 1 ≤ B i ∧ B i ≤ P i) (hn : n ≤ 4) (h : KM n P B b t j l e) (hj : j < n) (hb : b j ≤ t) (hm : (t - b j) % P j = 0) : KM n P B b t (j + 1) (upd l j (B j)) (upd e j (t + P j)) := by
  obtain ⟨p1, p2, p3, p4⟩ := hP j hj
  obtain ⟨x1, x2⟩ := nxt_rel (P := P j) p1 hb hm
  refine ⟨ks_release (k := j) (srv_pb hn hP) h.ks hj ?_ (upd_at _ _ _) ?_ ?_ (fun i hi => ⟨upd_ne _ _ hi, upd_ne _ _ hi, ?_⟩), fun i hi hl => ?_, fun i hi hlt => ?_, fun i hi => ?_⟩
  · show nxt (b j) (P j) (tj j t j) ≤ t
    rw [(tj_at j t).1, x1]; exact Nat.le_refl _
  · rw [upd_at]; rfl
  · show t + P j ≤ nxt (b j) (P j) (tj (j + 1) t j)
    rw [(tj_at j t).2, x2]; exact Nat.le_refl _
  · show nxt (b i) (P i) (tj (j + 1) t i) = nxt (b i) (P i) (tj j t i)
    rw [tj_ne hi]
  · by_cases e' : i = j
    · rw [e', upd_at, (tj_at j t).2, x2]
    · rw [upd_ne _ _ e'] at hl ⊢
      rw [h.en i hi hl, tj_ne e']
  · by_cases e' : i = j
    · rw [e'] at hlt; omega
    · rw [upd_ne _ _ e']; exact h.nb i hi hlt
  · have := h.bd i hi
    unfold upd
    split
    · omega
    · exact this
theorem km_late (hP : ∀ i, i < n → 1 ≤ P i ∧ P i ≤ 64 ∧ 1 ≤ B i ∧ B i ≤ P i) {M : Nat} (hM : 0 < M) (hd : ∀ i, i < n → P i ∣ M) (hs : sm (fun i => B i * (M / P i)) n ≤ M) (h : KM n P B b t j l e) (hj : j < n) (hb : b j ≤ t) (hm : (t - b j) % P j = 0) (hl : 0 < l j) : False := by
  have hx := (nxt_rel (P := P j) (hP j hj).1 hb hm).1
  refine sv_in_time hM (fun i hi => (hP i hi).1) hd hs h.ks hj hl ?_
  rw [h.en j hj hl, (tj_at j t).1, hx]
  exact Nat.le_refl _
theorem tj_end {i : Nat} (hi : i < n) : tj n t i = tj 0 (t + 1) i := by unfold tj; rw [if_pos hi, if_neg (by omega)]
theorem km_run (h : KM n P B b t n l e) {k : Nat} (hk : k < n) (hl : 0 < l k) (hm : ∀ i, i < n → 0 < l i → e k ≤ e i) : KM n P B b (t + 1) 0 (upd l k (l k - 1)) e := by
  refine ⟨ks_next (ks_run (k := k) h.ks hk hl hm (upd_at _ _ _) (fun i hi => upd_ne _ _ hi)) (fun i (hi : i < n) => by rw [tj_end hi]), fun i hi hl' => ?_, fun i hi hlt => ?_, fun i hi => ?_⟩
  · have h1 : 0 < l i := by
      unfold upd at hl'
      split at hl'
      · rename_i e'; rw [e']; omega
      · exact hl'
    rw [h.en i hi h1, tj_end hi]
  · have h1 := h.nb i hi (by omega)
    unfold upd
    split
    · rename_i e'; rw [e'] at h1; omega
    · exact h1
  · have := h.bd i hi
    have h2 := h.bd k hk
    unfold upd
    split <;> omega
theorem km_none (h : KM n P B b t n l e) (hz : ∀ i, i < n → l i = 0) : KM n P B b (t + 1) 0 l e :=
  ⟨ks_next (ks_none h.ks hz) (fun i (hi : i < n) => by rw [tj_end hi]), fun i hi hl => by rw [hz i hi] at hl; omega, fun i hi _ => hz i hi, fun i hi => by have := h.bd i hi; omega⟩
/-- those that begin at once: what was asked for is left, or was run -/
structure EM (n : Nat) (P B : Nat → Nat) (t j : Nat) (l l0 : Nat → Nat) : Prop where
  ei : EI n B t l (fun i => cl (P i) (tj j t i))
  s0 : EI n B t l0 (fun i => cl (P i) t)
  un : ∀ i, i < n → j ≤ i → l i = l0 i
  dn : ∀ i, i < n → i < j → t % P i = 0 → l0 i = 0
theorem em_of (h : EI n B t l (fun i => cl (P i) t)) : EM n P B t 0 l l :=
  ⟨by have e : (fun i => cl (P i) (tj 0 t i)) = (fun i => cl (P i) t) := by funext i; unfold tj; rw [if_neg (by omega)]
      rw [e]; exact h, h, fun _ _ _ => rfl, fun _ _ h => by omega⟩
theorem em_start (n : Nat) (P B : Nat → Nat) (hP : ∀ i, i < n → 1 ≤ P i) : EI n B 0 (fun _ => 0) (fun i => cl (P i) 0) := by
  unfold EI
  rw [sm_zero (n := n) (fun i hi => by
    have := hP i hi
    show B i * ((0 + P i - 1) / P i) = 0
    rw [Nat.div_eq_of_lt (by omega), Nat.mul_zero])]
  exact Nat.zero_le _
theorem ei_congr {rel rel' : Nat → Nat} (h : EI n B t l rel) (he : ∀ i, i < n → rel i = rel' i) : EI n B t l rel' := by
  unfold EI at h ⊢
  rw [← sm_congr (f := fun i => B i * rel i) fun i hi => by rw [he i hi]]
  exact h
theorem em_not {l0 : Nat → Nat} (hP : ∀ i, i < n → 1 ≤ P i) (h : EM n P B t j l l0) (hj : j < n) (hm : t % P j ≠ 0) : EM n P B t (j + 1) l l0 := by
  refine ⟨ei_congr h.ei fun i hi => ?_, h.s0, fun i hi hji => h.un i hi (by omega), fun i hi hij hmi => ?_⟩
  · by_cases e' : i = j
    · rw [e', (tj_at j t).1, (tj_at j t).2, cl_not (hP j hj) hm]
    · rw [tj_ne e']
  · by_cases e' : i = j
    · rw [e'] at hmi; exact absurd hmi hm
    · exact h.dn i hi (by omega) hmi
theorem em_rel {l0 : Nat → Nat} (hP : ∀ i, i < n → 1 ≤ P i) (h : EM n P B t j l l0) (hj : j < n) (hm : t % P j = 0) (hl : l j = 0) : EM n P B t (j + 1) (upd l j (B j)) l0 := by
  obtain ⟨c1, c2⟩ := cl_rel (hP j hj) hm
  refine ⟨ei_release (k := j) h.ei hj hl (upd_at _ _ _) ?_ (fun i hi => ⟨upd_ne _ _ hi, ?_⟩), h.s0, fun i hi hji => ?_, fun i hi hij hmi => ?_⟩
  · show cl (P j) (tj (j + 1) t j) = cl (P j) (tj j t j) + 1
    rw [(tj_at j t).1, (tj_at j t).2, c1, c2]
  · show cl (P i) (tj (j + 1) t i) = cl (P i) (tj j t i)
    rw [tj_ne hi]
  · rw [upd_ne _ _ (by omega)]; exact h.un i hi (by omega)
  · by_cases e' : i = j
    · rw [e', ← h.un j hj (Nat.le_refl _)]; exact hl
    · exact h.dn i hi (by omega) hmi
theorem em_end {l0 : Nat → Nat} (h : EM n P B t n l l0) : EI n B t l (fun i => cl (P i) (t + 1)) := ei_congr h.ei fun i hi => by unfold tj; rw [if_pos hi]
/-- at a common multiple the tick does not come to its end, if they share more than 1 -/
theorem em_late {l0 : Nat → Nat} {M : Nat} (hP : ∀ i, i < n → 1 ≤ P i) (hd : ∀ i, i < n → P i ∣ M) (hs : M < sm (fun i => B i * (M / P i)) n) (h : EM n P B M n l l0) : False := by
  have hmod : ∀ i, i < n → M % P i = 0 := fun i hi => Nat.mod_eq_zero_of_dvd (hd i hi)
  obtain ⟨i, hi, hl⟩ := ei_late (P := P) h.s0 (fun i hi => (cl_rel (hP i hi) (hmod i hi)).1) hs
  have := h.dn i hi hi (hmod i hi)
  omega
end
/-- the one whose end is nearest, of the first i: none with ticks left (-1), or one -/
def Near (l e : Nat → Nat) (i : Nat) (k : Int) : Prop := (k = -1 ∧ ∀ j, j < i → l j = 0) ∨ ∃ m : Nat, k = m ∧ m < i ∧ 0 < l m ∧ ∀ j, j < i → 0 < l j → e m ≤ e j
theorem near_start (l e : Nat → Nat) : Near l e 0 (-1) := Or.inl ⟨rfl, fun j hj => by omega⟩
theorem near_upd {l e : Nat → Nat} {i : Nat} {k : Int} (h : Near l e i k) (a c : Nat) : Near (upd l i a) (upd e i c) i k := by
  rcases h with ⟨rfl, h⟩ | ⟨m, rfl, h1, h2, h3⟩
  · exact Or.inl ⟨rfl, fun j hj => by rw [upd_ne _ _ (by omega)]; exact h j hj⟩
  · refine Or.inr ⟨m, rfl, h1, by rw [upd_ne _ _ (by omega)]; exact h2, fun j hj hl => ?_⟩
    rw [upd_ne _ _ (by omega)] at hl
    rw [upd_ne _ _ (by omega), upd_ne _ _ (by omega)]
    exact h3 j hj hl
theorem near_zero {l e : Nat → Nat} {i : Nat} {k : Int} (h : Near l e i k) (h0 : l i = 0) : Near l e (i + 1) k := by
  rcases h with ⟨rfl, h⟩ | ⟨m, rfl, h1, h2, h3⟩
  · refine Or.inl ⟨rfl, fun j hj => ?_⟩
    by_cases e' : j = i
    · rw [e']; exact h0
    · exact h j (by omega)
  · refine Or.inr ⟨m, rfl, by omega, h2, fun j hj hl => ?_⟩
    by_cases e' : j = i
    · rw [e', h0] at hl; omega
    · exact h3 j (by omega) hl
theorem near_keep {l e : Nat → Nat} {i m : Nat} (h : Near l e i (m : Int)) (h0 : e m ≤ e i) : Near l e (i + 1) (m : Int) := by
  rcases h with ⟨h, _⟩ | ⟨m', h, h1, h2, h3⟩
  · omega
  · obtain rfl : m = m' := by omega
    refine Or.inr ⟨m, rfl, by omega, h2, fun j hj hl => ?_⟩
    by_cases e' : j = i
    · rw [e']; exact h0
    · exact h3 j (by omega) hl
theorem near_take {l e : Nat → Nat} {i : Nat} {k : Int} (h : Near l e i k) (h0 : 0 < l i) (hk : k = -1 ∨ ∃ m : Nat, k = m ∧ e i < e m) : Near l e (i + 1) (i : Int) := by
  refine Or.inr ⟨i, rfl, by omega, h0, fun j hj hl => ?_⟩
  by_cases e' : j = i
  · rw [e']; exact Nat.le_refl _
  · rcases h with ⟨rfl, h⟩ | ⟨m, rfl, h1, h2, h3⟩
    · have := h j (by omega); omega
    · have h4 := h3 j (by omega) hl
      rcases hk with hk | ⟨m', hm, h5⟩
      · omega
      · obtain rfl : m = m' := by omega
        omega
end Go.Proofs.Ytfjeoefnpcgnnaa.Sh
