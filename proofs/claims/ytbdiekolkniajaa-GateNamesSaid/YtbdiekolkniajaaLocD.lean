/- The demand, what is asked for in a hyperperiod, the slack: the program's. -/
import Derived.Test.YtbdiekolkniajaaLocC
import Derived.Test.YtbdiekolkniajaaZh
namespace Go.Proofs.Ytbdiekolkniajaa
open Go.RowKit Tk De Dl Lo Go.Sort
set_option linter.unusedVariables false

theorem mor_bd {l : List Pn} (h : chkP l = true) {q : Nat} {bud : Int} {t : Nat → Int} (ht : TB bud t) : 0 ≤ mor l q t ∧ mor l q t ≤ 65536 := by
  refine ⟨mor_nn h ht, ?_⟩
  have h1 := wait_bd h q t
  have h2 := tOK_iff.1 ht.ok
  unfold mor
  split
  · rename_i hc
    have h3 := ht.n0 hc
    have h4 := tb_b6 ht hc
    have : t 7 * (wait l q t + t 6 - 1) ≤ 64 * 1000 := Int.mul_le_mul (by omega) (by omega) (by omega) (by decide)
    omega
  · decide
theorem one_chk {z : Nat → Nat → Int} {i : Nat} (h : tOK (z i) = true) : chk 1 (fun _ j => z i j) [0] = true := by
  unfold chk tasksOK allT allT
  show (decide (1 ≤ 4) && (true && tOK (z i))) && decide (1 = 1) && moreOK [0] = true
  rw [h]
  decide
theorem one_of {z : Nat → Nat → Int} {i T : Nat} (h : tOK (z i) = true) (hT : T ≤ 1048576) : ofR 1 (fun _ j => z i j) [0] (T : Int) = ((jobs (per z i) (dea z i) T : Int) * z i 2, 0) := by
  rw [ofR_ok (one_chk h) hT]
  have h2 := (tOK_iff.1 h).2.2.2.2.1
  show (((0 + jobs (per z i) (dea z i) T * (z i 2 + 0).toNat : Nat) : Int), (0 : Int)) = _
  rw [Nat.zero_add]
  push_cast
  rw [Int.toNat_of_nonneg (by omega), Int.add_zero]
theorem one_use {z : Nat → Nat → Int} {i T : Nat} (h : tOK (z i) = true) (h0 : 0 < T) (hT : T ≤ 1048576) (hd : T % per z i = 0) : useR 1 (fun _ j => z i j) [0] (T : Int) = (((T / per z i : Nat) : Int) * z i 2, 0) := by
  rw [useR_ok (one_chk h) h0 hT (dvs_iff.2 fun k hk => by
    obtain rfl : k = 0 := by omega
    exact hd)]
  have h2 := (tOK_iff.1 h).2.2.2.2.1
  show (((0 + T / per z i * (z i 2 + 0).toNat : Nat) : Int), (0 : Int)) = _
  rw [Nat.zero_add]
  push_cast
  rw [Int.toNat_of_nonneg (by omega), Int.add_zero]
section
variable {w : World} {ps : List Pn} {a : Option Addr} {m cap q : Nat} {ta : Option Addr} {tcap : Nat} {ma : Option Addr} {mcap : Nat}
theorem LG.task (h : LG w ps a m cap q ta tcap ma mcap) {i : Nat} (hi : i < (ps.getD q p0).n) : tOK ((ps.getD q p0).z i) = true ∧ 1 ≤ (ps.getD q p0).z i 2 ∧ (ps.getD q p0).z i 2 ≤ 64 ∧ (ps.getD q p0).z i 2 + (mors ps q).getD i 0 = askN ps q i ∧ (0 ≤ (mors ps q).getD i 0 ∧ (mors ps q).getD i 0 ≤ 65536) := by
  have h1 := (h.tb.t i hi).ok
  have h2 := tOK_iff.1 h1
  have h3 := mor_bd h.ok (q := q) (h.tb.t i hi)
  rw [mors_at ps q hi]
  refine ⟨h1, by omega, by omega, ?_, h3⟩
  unfold askN asks
  rw [mors_at ps q hi, Int.toNat_of_nonneg (by omega)]
theorem LG.caps (h : LG w ps a m cap q ta tcap ma mcap) : (ps.getD q p0).n ≤ tcap ∧ tcap ≤ maxLen := by
  obtain ⟨a', c', e, h1, h2⟩ := h.t.slice
  obtain ⟨_, rfl⟩ : ta = a' ∧ tcap = c' := by simpa using e
  exact ⟨h1, h2⟩
theorem dem_any (h : LG w ps a m cap q ta tcap ma mcap) {T : Nat} (hT : T ≤ 1048576) :
    Calls Try.prog 35 #[gkv ps a m cap q ta tcap ma mcap, .func (.func 73) #[] #[], .int .i64 T] w (YI ((demN ps q T : Nat) : Int) w) := by
  have hg := PB.good h.tb
  have := asked_of (T := (T : Int)) (J := fun i => jobs (per (ps.getD q p0).z i) (dea (ps.getD q p0).z i) T) (A := askN ps q) h.t h.k h.tb.n4 h.caps.1 h.caps.2 (fun i hi => ⟨(h.task hi).2.1, (h.task hi).2.2.1⟩) (fun i hi => (h.task hi).2.2.2.1) (fun i hi => (h.task hi).2.2.2.2)
    (fun i hi => Nat.le_trans (jobs_le (hg.at' i hi).2.2.1 (hg.at' i hi).2.2.2.2.1) hT)
    (fun W v u i hi hv hu => by
      have := of_any hv hu (T : Int)
      rw [one_of (h.task hi).1 hT] at this
      exact this)
    (ps.getD q p0).per (ps.getD q p0).bud a m cap q
  unfold demN
  rw [dem_sma]
  exact this
theorem use_q (h : LG w ps a m cap q ta tcap ma mcap) {T : Nat} (h0 : 0 < T) (hT : T ≤ 1048576) (hd : ∀ i, i < (ps.getD q p0).n → T % per (ps.getD q p0).z i = 0) :
    Calls Try.prog 35 #[gkv ps a m cap q ta tcap ma mcap, .func (.func 36) #[] #[], .int .i64 T] w (YI ((use (per (ps.getD q p0).z) (askN ps q) T (ps.getD q p0).n : Nat) : Int) w) := by
  have hg := PB.good h.tb
  have := asked_use (T := (T : Int)) (J := fun i => T / per (ps.getD q p0).z i) (A := askN ps q) h.t h.k h.tb.n4 h.caps.1 h.caps.2 (fun i hi => ⟨(h.task hi).2.1, (h.task hi).2.2.1⟩) (fun i hi => (h.task hi).2.2.2.1) (fun i hi => (h.task hi).2.2.2.2)
    (fun i hi => Nat.le_trans (Nat.div_le_self _ _) hT)
    (fun W v u i hi hv hu => by
      have := use_any hv hu (T : Int)
      rw [one_use (h.task hi).1 h0 hT (hd i hi)] at this
      exact this)
    (ps.getD q p0).per (ps.getD q p0).bud a m cap q
  rw [use_sma]
  exact this
theorem del1_bd {l : List Pn} (hl : chkP l = true) {q : Nat} {bud : Int} {t : Nat → Int} (ht : TB bud t) : del1 l q t ≤ 1000 := by
  have h1 := wait_bd hl q t
  have h2 := tOK_iff.1 ht.ok
  have h3 := ht.l1
  unfold del1
  split
  · rename_i hc
    have h4 := tb_b6 ht hc
    omega
  · omega
theorem del_bd {l : List Pn} (hl : chkP l = true) {q : Nat} (hq : q < l.length) {T : Int} : ∀ {n : Nat}, n ≤ (l.getD q p0).n → del l q T n ≤ 1000
  | 0, _ => by show (0 : Int) ≤ 1000; decide
  | n + 1, hn => by
    have h1 := del_bd hl hq (T := T) (n := n) (by omega)
    have h2 := del1_bd hl (q := q) ((chkP_at hl hq).t n (by omega))
    rw [del]
    split <;> omega
/-- the three numbers' bounds -/
theorem LG.bds (h : LG w ps a m cap q ta tcap ma mcap) {T : Nat} (hT : T ≤ 1048576) : supN (ps.getD q p0) T ≤ 1048576 ∧ demN ps q T ≤ 549755813888 ∧ 0 ≤ del ps q T (ps.getD q p0).n ∧ del ps q T (ps.getD q p0).n ≤ 1000 := by
  have hp := h.tb
  have hg := PB.good hp
  have h1 := hp.p1; have h2 := hp.b1; have h3 := hp.b2; have h4 := hp.n4
  refine ⟨Nat.le_trans (Su.sp_le (by omega) (by omega)) hT, ?_, del_nn _ _, del_bd h.ok h.len (Nat.le_refl _)⟩
  unfold demN
  rw [dem_sma]
  have := sma_le (J := fun i => jobs (per (ps.getD q p0).z i) (dea (ps.getD q p0).z i) T) (A := askN ps q) (n := (ps.getD q p0).n) (fun i hi => ⟨Nat.le_trans (jobs_le (hg.at' i hi).2.2.1 (hg.at' i hi).2.2.2.2.1) hT, by
    have := h.task hi
    omega⟩)
  omega
theorem use_bd (h : LG w ps a m cap q ta tcap ma mcap) {T : Nat} (hT : T ≤ 1048576) : use (per (ps.getD q p0).z) (askN ps q) T (ps.getD q p0).n ≤ 549755813888 := by
  have h4 := h.tb.n4
  rw [use_sma]
  have := sma_le (J := fun i => T / per (ps.getD q p0).z i) (A := askN ps q) (n := (ps.getD q p0).n) (fun i hi => ⟨Nat.le_trans (Nat.div_le_self _ _) hT, by
    have := h.task hi
    omega⟩)
  omega
theorem sup_ok (h : LG w ps a m cap q ta tcap ma mcap) {T : Nat} (hT : T ≤ 1048576) (W : World) : Calls Try.prog 71 #[.int .i64 (ps.getD q p0).per, .int .i64 (ps.getD q p0).bud, .int .i64 T] W (TwoB (supN (ps.getD q p0) T : Nat) 0 W) := by
  have hp := h.tb
  have h1 := hp.p1; have h2 := hp.b1; have h3 := hp.b2; have h4 := hp.p2
  obtain ⟨P, hP⟩ : ∃ P : Nat, (ps.getD q p0).per = P := ⟨_, (Int.toNat_of_nonneg (by omega)).symm⟩
  obtain ⟨B, hB⟩ : ∃ B : Nat, (ps.getD q p0).bud = B := ⟨_, (Int.toNat_of_nonneg (by omega)).symm⟩
  have := Sv.of_any (P : Int) (B : Int) (T : Int) W
  rw [Su.ofN_ok (by omega) (by omega) (by omega) hT, Su.ofE_ok (by omega) (by omega) (by omega) hT] at this
  unfold supN
  rw [hP, hB]
  exact this
theorem del_ok (h : LG w ps a m cap q ta tcap ma mcap) {T : Nat} : Calls Try.prog 72 #[.slice a m cap, .int .i64 q, .int .i64 T] w (TwoB (del ps q T (ps.getD q p0).n) 0 w) := by
  have := Of_any h.p (q : Int) (T : Int)
  have e : deR ps (q : Int) (T : Int) = (del ps q T (ps.getD q p0).n, 0) := by
    unfold deR
    rw [h.ok, if_pos rfl, if_pos ⟨by omega, by have := h.len; omega⟩, if_neg (by omega)]
    rfl
  rw [e] at this
  exact this
end
end Go.Proofs.Ytbdiekolkniajaa
