/- What makes a test easier, plainly. -/
import Derived.Test.YtlifkclgflfnlaaLocP
namespace Go.Proofs.Ytlifkclgflfnlaa.Lo
open Go.Proofs.Ytlifkclgflfnlaa.De Go.Proofs.Ytlifkclgflfnlaa.Su Go.Proofs.Ytlifkclgflfnlaa.Dl Go.Proofs.Ytlifkclgflfnlaa.Ed
set_option linter.unusedVariables false

/-- fewer idle ticks give no less -/
theorem sp_less {P I I' : Nat} (hP : 0 < P) (hI : I < P) (h : I' ≤ I) (t : Nat) : sp P I t ≤ sp P I' t := by
  by_cases ht : t ≤ I
  · rw [sp_low hP ht]; exact Nat.zero_le _
  · have h1 := sp_mono hP (show I' < P by omega) (show t - I + I' ≤ t by omega)
    refine Nat.le_trans ?_ h1
    unfold sp
    rw [Nat.add_sub_cancel]
    have h2 : (t - I) / P * (P - I) ≤ (t - I) / P * (P - I') := Nat.mul_le_mul_left _ (by omega)
    omega
/-- the test lets a partition that has tasks pass -/
structure Pass (l : List Pn) (q : Nat) : Prop where
  h : hyp l q ≤ 4096
  u : useN l q ≤ hyp l q / (l.getD q p0).per.toNat * (l.getD q p0).bud.toNat
  s : ∀ t, 1 ≤ t → t ≤ endN l q → 0 < demN l q t → 0 ≤ slk l q t
/-- a partition has it no harder than another -/
structure Easy (l : List Pn) (q : Nat) (l' : List Pn) (q' : Nat) : Prop where
  p : (l'.getD q' p0).per = (l.getD q p0).per
  n : (l'.getD q' p0).n = (l.getD q p0).n
  z0 : ∀ i, i < (l.getD q p0).n → (l'.getD q' p0).z i 0 = (l.getD q p0).z i 0
  z1 : ∀ i, i < (l.getD q p0).n → (l'.getD q' p0).z i 1 = (l.getD q p0).z i 1
  b : (l.getD q p0).bud ≤ (l'.getD q' p0).bud
  a : ∀ i, i < (l.getD q p0).n → askN l' q' i ≤ askN l q i
  d : ∀ t : Nat, del l' q' t (l.getD q p0).n ≤ del l q t (l.getD q p0).n
theorem Easy.hyp {l l' : List Pn} {q q' : Nat} (e : Easy l q l' q') : hyp l' q' = hyp l q := by
  unfold Lo.hyp hypL pers
  rw [e.p, e.n]
  congr 2
  refine List.map_congr_left fun i hi => ?_
  unfold per
  rw [e.z0 i (by simpa using hi)]
theorem maxD_eq {z z' : Nat → Nat → Int} : ∀ {n : Nat}, (∀ i, i < n → z' i 1 = z i 1) → maxD z' n = maxD z n
  | 0, _ => rfl
  | n + 1, h => by unfold maxD; rw [maxD_eq (fun i hi => h i (by omega))]; unfold dea; rw [h n (by omega)]
theorem Easy.ends {l l' : List Pn} {q q' : Nat} (e : Easy l q l' q') : endN l' q' = endN l q := by
  unfold endN
  rw [e.hyp, e.p, e.n, maxD_eq e.z1]
theorem Easy.dem {l l' : List Pn} {q q' : Nat} (e : Easy l q l' q') (t : Nat) : demN l' q' t ≤ demN l q t := by
  unfold demN
  rw [dem_sm, dem_sm, e.n]
  refine sm_le fun i hi => ?_
  show askN l' q' i * jobs (per (l'.getD q' p0).z i) (dea (l'.getD q' p0).z i) t ≤ askN l q i * jobs (per (l.getD q p0).z i) (dea (l.getD q p0).z i) t
  unfold per dea
  rw [e.z0 i hi, e.z1 i hi]
  exact Nat.mul_le_mul_right _ (e.a i hi)
theorem Easy.use {l l' : List Pn} {q q' : Nat} (e : Easy l q l' q') : useN l' q' ≤ useN l q := by
  unfold useN
  rw [use_sm, use_sm, e.n, e.hyp]
  refine sm_le fun i hi => ?_
  show Lo.hyp l q / per (l'.getD q' p0).z i * askN l' q' i ≤ Lo.hyp l q / per (l.getD q p0).z i * askN l q i
  unfold per
  rw [e.z0 i hi]
  exact Nat.mul_le_mul_left _ (e.a i hi)
theorem Easy.sup {l l' : List Pn} {q q' : Nat} (e : Easy l q l' q') (h : PB (l.getD q p0)) (t : Nat) : supN (l.getD q p0) t ≤ supN (l'.getD q' p0) t := by
  have h1 := h.p1
  have h2 := h.b1
  have h3 := h.b2
  have h4 := e.b
  unfold supN
  rw [e.p]
  exact sp_less (by omega) (by omega) (by omega) t
theorem Easy.slk {l l' : List Pn} {q q' : Nat} (e : Easy l q l' q') (h : PB (l.getD q p0)) (t : Nat) : slk l q t ≤ slk l' q' t := by
  have h1 := e.sup h t
  have h2 := e.dem t
  have h3 := e.d t
  unfold Lo.slk
  rw [e.n]
  omega
theorem Easy.pass {l l' : List Pn} {q q' : Nat} (e : Easy l q l' q') (h : PB (l.getD q p0)) (hp : Pass l q) : Pass l' q' := by
  refine ⟨by rw [e.hyp]; exact hp.h, ?_, fun t h1 h2 h3 => ?_⟩
  · have h1 := e.use
    have h2 := hp.u
    have h3 : Lo.hyp l q / (l.getD q p0).per.toNat * (l.getD q p0).bud.toNat ≤ Lo.hyp l q / (l.getD q p0).per.toNat * (l'.getD q' p0).bud.toNat :=
      Nat.mul_le_mul_left _ (by have := e.b; omega)
    rw [e.hyp, e.p]
    omega
  · have := hp.s t h1 (by rw [← e.ends]; exact h2) (Nat.lt_of_lt_of_le h3 (e.dem t))
    have := e.slk h t
    omega
theorem asks_le {l l' : List Pn} {q q' i : Nat} (h : (l'.getD q' p0).z i 2 ≤ (l.getD q p0).z i 2) (hi : i < (l.getD q p0).n) (hi' : i < (l'.getD q' p0).n) (hm : mor l' q' ((l'.getD q' p0).z i) ≤ mor l q ((l.getD q p0).z i)) : askN l' q' i ≤ askN l q i := by
  unfold askN asks
  rw [mors_at l q hi, mors_at l' q' hi']
  omega
/-- without the last one -/
theorem easy_app {l : List Pn} {x : Pn} {q : Nat} (h : chkP l = true) (hx : PB x) (hq : q < l.length) : Easy (l ++ [x]) q l q := by
  have hg : (l ++ [x]).getD q p0 = l.getD q p0 := getD_app hq
  refine ⟨by rw [hg], by rw [hg], fun i _ => by rw [hg], fun i _ => by rw [hg], by rw [hg]; exact Int.le_refl _, fun i hi => ?_, fun t => ?_⟩
  · rw [hg] at hi
    exact asks_le (by rw [hg]; exact Int.le_refl _) (by rw [hg]; exact hi) hi (by rw [hg]; exact mor_mono hx hq ((chkP_at h hq).t i hi))
  · rw [hg]; exact del_mono hx hq t _
end Go.Proofs.Ytlifkclgflfnlaa.Lo
