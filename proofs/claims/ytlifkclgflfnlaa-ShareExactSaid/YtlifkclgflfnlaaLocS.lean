/- Those that are easier may be asked; plain jobs' demand. -/
import Derived.Test.YtlifkclgflfnlaaLocR
namespace Go.Proofs.Ytlifkclgflfnlaa.Lo
open Go.Proofs.Ytlifkclgflfnlaa.De Go.Proofs.Ytlifkclgflfnlaa.Su Go.Proofs.Ytlifkclgflfnlaa.Dl Go.Proofs.Ytlifkclgflfnlaa.Ed
set_option linter.unusedVariables false

theorem tb_more {bud b : Int} {t : Nat → Int} (h : TB bud t) (hb : bud ≤ b) : TB b t :=
  ⟨h.ok, h.l0, h.l1, h.g0, h.g4, fun hc => by have := h.n0 hc; exact ⟨this.1, Int.le_trans this.2.1 hb, this.2.2⟩, h.n1⟩
theorem pb_more {p : Pn} (h : PB p) {b : Int} (hb : p.bud ≤ b) (hb2 : b ≤ p.per) : PB ⟨p.per, b, p.n, p.z⟩ :=
  ⟨h.p1, h.p2, Int.le_trans h.b1 hb, hb2, h.n4, fun i hi => tb_more (h.t i hi) hb⟩
theorem tb_bare {bud b : Int} {t : Nat → Int} (h : TB bud t) : TB b (bare t) := by
  have h1 := tOK_iff.1 h.ok
  refine ⟨tOK_iff.2 ⟨h1.1, h1.2.1, h1.2.2.1, h1.2.2.2.1, ?_, ?_⟩, Int.le_refl _, ?_, Int.le_refl _, by show (0 : Int) ≤ 4; omega, fun hc => ?_, fun _ => ⟨rfl, rfl⟩⟩
  · show 1 ≤ max (t 2 - 1) 1; omega
  · show max (t 2 - 1) 1 ≤ t 1; omega
  · show (0 : Int) ≤ max (t 2 - 1) 1; omega
  · exact absurd (show (0 : Int) < 0 from hc) (by omega)
theorem pb_bare {p : Pn} (h : PB p) {b : Int} (hb : p.bud ≤ b) (hb2 : b ≤ p.per) : PB ⟨p.per, b, p.n, fun i => bare (p.z i)⟩ :=
  ⟨h.p1, h.p2, Int.le_trans h.b1 hb, hb2, h.n4, fun i hi => tb_bare (h.t i hi)⟩
theorem chk_one {p : Pn} (h : PB p) : chkP [p] = true := by
  unfold chkP
  rw [List.all_cons, List.all_nil, okP_iff.2 h]
  rfl
/-- what jobs that do not wait ask for, of t ticks -/
def plainN (p : Pn) (t : Nat) : Nat := sm (fun i => (p.z i 2).toNat * jobs (per p.z i) (dea p.z i) t) p.n
theorem plain_le {l : List Pn} (h : chkP l = true) {q : Nat} (hq : q < l.length) (t : Nat) : plainN (l.getD q p0) t ≤ demN l q t := by
  have hp := chkP_at h hq
  unfold plainN demN
  rw [dem_sm]
  refine sm_le fun i hi => Nat.mul_le_mul_right _ ?_
  have h1 := (PB.good hp).at' i hi
  have h2 := mor_nn h (q := q) (hp.t i hi)
  unfold askN asks
  rw [mors_at l q hi]
  omega
/-- asked for by plain jobs: no more than the supply, if the partition passes -/
theorem plain_sup {l : List Pn} (h : chkP l = true) {q : Nat} (hq : q < l.length) (hn : 0 < (l.getD q p0).n) (hp : Pass l q) (t : Nat) (ht : 0 < plainN (l.getD q p0) t) : plainN (l.getD q p0) t ≤ supN (l.getD q p0) t := by
  have h1 := plain_le h hq t
  have h2 := slk_all h hq hn hp.u hp.s t (by omega)
  have h3 := del_nn (l := l) (q := q) (t : Int) (l.getD q p0).n
  unfold slk at h2
  omega
/-- positive, and only then -/
theorem plain_pos {l : List Pn} (h : chkP l = true) {q : Nat} (hq : q < l.length) {t : Nat} (ht : 0 < demN l q t) : 0 < plainN (l.getD q p0) t := by
  rcases Nat.eq_zero_or_pos (plainN (l.getD q p0) t) with h0 | h0
  · exfalso
    have hg := PB.good (chkP_at h hq)
    have : demN l q t = 0 := by
      unfold demN
      rw [dem_sm]
      refine sm_zero fun i hi => ?_
      have h1 := sm_at (f := fun i => ((l.getD q p0).z i 2).toNat * jobs (per (l.getD q p0).z i) (dea (l.getD q p0).z i) t) hi
      unfold plainN at h0
      rw [h0] at h1
      have h2 := (hg.at' i hi).2.2.2.2.2.2.1
      have h3 : jobs (per (l.getD q p0).z i) (dea (l.getD q p0).z i) t = 0 := by
        rcases Nat.eq_zero_or_pos (jobs (per (l.getD q p0).z i) (dea (l.getD q p0).z i) t) with h4 | h4
        · exact h4
        · have := Nat.mul_pos (show 0 < ((l.getD q p0).z i 2).toNat by omega) h4
          have h5 : ((l.getD q p0).z i 2).toNat * jobs (per (l.getD q p0).z i) (dea (l.getD q p0).z i) t ≤ 0 := h1
          omega
      rw [h3, Nat.mul_zero]
    omega
  · exact h0
end Go.Proofs.Ytlifkclgflfnlaa.Lo
