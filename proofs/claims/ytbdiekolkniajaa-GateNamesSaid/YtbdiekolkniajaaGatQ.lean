/- Who passes the gate, plainly: of made partitions. -/
import Derived.Test.YtbdiekolkniajaaGatP
namespace Go.Proofs.Ytbdiekolkniajaa.Gt
open Go.RowKit Go.Proofs.Ytbdiekolkniajaa.De Go.Proofs.Ytbdiekolkniajaa.Su Go.Proofs.Ytbdiekolkniajaa.Dl Go.Proofs.Ytbdiekolkniajaa.Ed Go.Proofs.Ytbdiekolkniajaa.Lo Go.Proofs.Ytbdiekolkniajaa.Sh
set_option linter.unusedVariables false

/-- servers that are such: they pass, or share more than 1 -/
def Fits (n : Nat) (P B : Nat → Nat) : Prop := ∃ M, 0 < M ∧ (∀ i, i < n → P i ∣ M) ∧ sm (fun i => B i * (M / P i)) n ≤ M
theorem un_dvd {B P : Nat → Nat} : ∀ {n i : Nat}, i < n → P i ∣ (un B P n).2
  | 0, _, h => by cases h
  | n + 1, i, h => by
    by_cases e : i = n
    · rw [e]; exact Nat.dvd_mul_left _ _
    · exact Nat.dvd_trans (un_dvd (B := B) (n := n) (by omega)) (Nat.dvd_mul_right _ _)
theorem te_sm {n : Nat} {P B : Nat → Nat} (hn : n ≤ 4) (h : ∀ i, i < n → 1 ≤ P i ∧ P i ≤ 64 ∧ 1 ≤ B i ∧ B i ≤ P i) {M : Nat} (hM : 0 < M) (hd : ∀ i, i < n → P i ∣ M) :
    teE n (fun i => (P i : Nat)) (fun i => (B i : Nat)) = if sm (fun i => B i * (M / P i)) n ≤ M then 0 else 120 := by
  have hm : mayS n (fun i => ((P i : Nat) : Int)) (fun i => ((B i : Nat) : Int)) = true := by
    unfold mayS
    rw [decide_eq_true hn, Bool.true_and]
    exact okS_iff.2 fun i hi => by have := h i hi; omega
  obtain ⟨_, _, _, h4⟩ := su_yes hm
  have e : suF n (fun i => ((P i : Nat) : Int)) (fun i => ((B i : Nat) : Int)) = sumF B P n := rfl
  rw [h4, e]
  have hP : ∀ i, i < n → 0 < P i := fun i hi => (h i hi).1
  have hle := sumF_le (B := B) hM hP hd
  by_cases hc : (sumF B P n).2 < (sumF B P n).1
  · rw [if_pos hc, if_neg (fun h1 => by have := hle.2 h1; omega)]
  · rw [if_neg hc, if_pos (hle.1 (by omega))]
/-- a partition of short periods that shares nothing -/
structure Plain (p : Pn) : Prop where
  ok : PB p
  n5 : ∀ i, i < p.n → p.z i 5 = 0
  may : cPart p = true
  p10 : p.per ≤ 10
  t48 : ∀ i, i < p.n → p.z i 0 ≤ 48
def sP (ps : List Pn) (i : Nat) : Nat := (ps.getD i p0).per.toNat
def sB (ps : List Pn) (i : Nat) : Nat := (ps.getD i p0).bud.toNat
theorem sp_nat {ps : List Pn} (h : ∀ x ∈ ps, Plain x) : sp ps = (fun i => ((sP ps i : Nat) : Int)) ∧ sb ps = (fun i => ((sB ps i : Nat) : Int)) := by
  have key : ∀ i, 0 ≤ (ps.getD i p0).per ∧ 0 ≤ (ps.getD i p0).bud := fun i => by
    by_cases hi : i < ps.length
    · have := (h _ (at_mem hi)).ok
      have h1 := this.p1; have h2 := this.b1
      omega
    · have : ps.getD i p0 = p0 := by simp [List.getD, List.getElem?_eq_none (show ps.length ≤ i by omega)]
      rw [this]; exact ⟨Int.le_refl _, Int.le_refl _⟩
  refine ⟨funext fun i => ?_, funext fun i => ?_⟩
  · have := (key i).1
    unfold Sh.sp sP; omega
  · have := (key i).2
    unfold Sh.sb sB; omega
theorem s_bd {ps : List Pn} (h : ∀ x ∈ ps, Plain x) : ∀ i, i < ps.length → 1 ≤ sP ps i ∧ sP ps i ≤ 64 ∧ 1 ≤ sB ps i ∧ sB ps i ≤ sP ps i := fun i hi => by
  have := (h _ (at_mem hi)).ok
  have h1 := this.p1; have h2 := this.b1; have h3 := this.b2; have h4 := this.p2
  unfold sP sB
  omega
theorem d2520 {ps : List Pn} (h : ∀ x ∈ ps, Plain x) : ∀ i, i < ps.length → sP ps i ∣ 2520 := fun i hi => by
  have h1 := s_bd h i hi
  have h2 : sP ps i ≤ 10 := by have := (h _ (at_mem hi)).p10; unfold sP; omega
  generalize sP ps i = x at *
  have : x = 1 ∨ x = 2 ∨ x = 3 ∨ x = 4 ∨ x = 5 ∨ x = 6 ∨ x = 7 ∨ x = 8 ∨ x = 9 ∨ x = 10 := by omega
  rcases this with rfl | rfl | rfl | rfl | rfl | rfl | rfl | rfl | rfl | rfl <;> decide
theorem sh_sm {ps : List Pn} (h : ∀ x ∈ ps, Plain x) (hl : ps.length ≤ 4) : shE ps = if sm (fun i => sB ps i * (2520 / sP ps i)) ps.length ≤ 2520 then 0 else 120 := by
  unfold shE
  rw [(sp_nat h).1, (sp_nat h).2]
  exact te_sm hl (s_bd h) (by decide) (d2520 h)
/-- what they share, of those that are in -/
def wsum (ps : List Pn) (ins : List Bool) : Nat := sm (fun i => if ins.getD i false then sB ps i * (2520 / sP ps i) else 0) ps.length
theorem sub_plain {ps : List Pn} (h : ∀ x ∈ ps, Plain x) (ins : List Bool) : ∀ x ∈ subL ps ins, Plain x := fun x hx => h x (sub_in hx)
theorem sh_sub {ps : List Pn} (h : ∀ x ∈ ps, Plain x) (hl : ps.length ≤ 4) (ins : List Bool) : shE (subL ps ins) = if wsum ps ins ≤ 2520 then 0 else 120 := by
  rw [sh_sm (sub_plain h ins) (Nat.le_trans sub_len hl)]
  have := sub_sm (fun x => x.bud.toNat * (2520 / x.per.toNat)) (ps := ps) (ins := ins)
  unfold sB sP wsum
  rw [this]
  rfl
theorem chk_plain {l : List Pn} (h : ∀ x ∈ l, Plain x) (hl : l.length ≤ 4) : chkP l = true := okP_all (fun i hi => okP_iff.2 (h _ (at_mem hi)).ok) hl
theorem easy_same {l l' : List Pn} {q q' : Nat} (hx : l'.getD q' p0 = l.getD q p0) (h5 : ∀ i, i < (l.getD q p0).n → (l.getD q p0).z i 5 = 0) : Easy l q l' q' := by
  have hm : ∀ (l : List Pn) (q : Nat) (t : Nat → Int), t 5 = 0 → mor l q t = 0 := fun l q t h => by unfold mor; rw [if_neg (by omega)]
  have hd : ∀ (l : List Pn) (q : Nat) (t : Nat → Int), t 5 = 0 → del1 l q t = t 4 := fun l q t h => by unfold del1; rw [if_neg (by omega)]
  refine ⟨by rw [hx], by rw [hx], fun i _ => by rw [hx], fun i _ => by rw [hx], by rw [hx]; exact Int.le_refl _, fun i hi => ?_, fun t => ?_⟩
  · refine asks_le (by rw [hx]; exact Int.le_refl _) hi (by rw [hx]; exact hi) ?_
    rw [hx, hm _ _ _ (h5 i hi), hm _ _ _ (h5 i hi)]
    exact Int.le_refl _
  · refine del_le (fun i _ => by rw [hx]) fun i hi => ?_
    rw [hx, hd _ _ _ (h5 i hi), hd _ _ _ (h5 i hi)]
    exact Int.le_refl _
/-- one of them is not late, just if it would not be alone -/
def Good (x : Pn) : Prop := 0 < x.n → Pass [x] 0
theorem te_good {l : List Pn} (h : ∀ x ∈ l, Plain x) (hl : l.length ≤ 4) {q : Nat} (hq : q < l.length) : (teR l q).2 = 0 ↔ Good (l.getD q p0) := by
  have hx := h _ (at_mem hq)
  unfold teR
  rw [if_pos (chk_plain h hl), if_pos ⟨by omega, by omega⟩, Int.toNat_natCast]
  unfold Good
  by_cases hn : (l.getD q p0).n = 0
  · rw [if_pos hn]
    exact ⟨fun _ h => by omega, fun _ => rfl⟩
  · rw [if_neg hn, teN_ok]
    have e1 : Easy l q [l.getD q p0] 0 := easy_same rfl hx.n5
    have e2 : Easy [l.getD q p0] 0 l q := easy_same rfl hx.n5
    exact ⟨fun hp _ => e1.pass hx.ok hp, fun hp => e2.pass (l := [l.getD q p0]) (q := 0) hx.ok (hp (by omega))⟩
theorem te_no {l : List Pn} (h : ∀ x ∈ l, Plain x) (hl : l.length ≤ 4) {q : Nat} (hq : q < l.length) (hne : (teR l q).2 ≠ 0) : (teR l q).2 = 120 ∨ (teR l q).2 = 5 := by
  unfold teR at hne ⊢
  rw [if_pos (chk_plain h hl), if_pos ⟨by omega, by omega⟩, Int.toNat_natCast] at hne ⊢
  by_cases hn : (l.getD q p0).n = 0
  · rw [if_pos hn] at hne; exact absurd rfl hne
  · rw [if_neg hn] at hne ⊢; exact teN_no hne
theorem may_plain {ps : List Pn} (h : ∀ x ∈ ps, Plain x) (h0 : 0 < ps.length) (hl : ps.length ≤ 4) : cMay ps = true := by
  unfold cMay wi
  rw [decide_eq_true (show (1 : Int) ≤ (ps.length : Int) by omega), decide_eq_true (show (ps.length : Int) ≤ 4 by omega), Bool.true_and, Bool.true_and, List.all_eq_true]
  exact fun x hx => (h x hx).may
/-- who passes -/
theorem gt_ok {ps : List Pn} (h : ∀ x ∈ ps, Plain x) (h0 : 0 < ps.length) (hl : ps.length ≤ 4) {ins : List Bool} (hi : ins.length = ps.length) : (gtR ps ins).2.2 = 0 ↔ wsum ps ins ≤ 2520 ∧ ∀ i, i < ps.length → ins.getD i false = true → Good (ps.getD i p0) := by
  unfold gtR
  rw [if_pos (may_plain h h0 hl), if_pos hi]
  unfold gtIn
  have hsl := Nat.le_trans (sub_len (ps := ps) (ins := ins)) hl
  rw [sh_sub h hl ins]
  by_cases hw : wsum ps ins ≤ 2520
  · rw [if_pos hw, if_pos rfl, firstNo_ok]
    constructor
    · refine fun h2 => ⟨hw, fun i hi1 hi2 => ?_⟩
      obtain ⟨q, hq, e⟩ := mem_at (sub_has hi1 hi2)
      rw [← e]
      refine (te_good (sub_plain h ins) hsl hq).1 ?_
      have := h2 q hq
      rw [Nat.zero_add] at this
      exact this
    · rintro ⟨_, h2⟩ q hq
      rw [Nat.zero_add]
      refine (te_good (sub_plain h ins) hsl hq).2 ?_
      obtain ⟨i, hi1, hi2, e⟩ := sub_of (at_mem hq)
      rw [← e]
      exact h2 i hi1 hi2
  · rw [if_neg hw, if_neg (by decide)]
    exact ⟨fun h => absurd h (by show ¬ ((120 : Int) = 0); decide), fun h => absurd h.1 hw⟩
theorem gt_no {ps : List Pn} (h : ∀ x ∈ ps, Plain x) (h0 : 0 < ps.length) (hl : ps.length ≤ 4) {ins : List Bool} (hi : ins.length = ps.length) (hne : (gtR ps ins).2.2 ≠ 0) : (gtR ps ins).2.2 = 120 ∨ (gtR ps ins).2.2 = 5 := by
  unfold gtR at hne ⊢
  rw [if_pos (may_plain h h0 hl), if_pos hi] at hne ⊢
  unfold gtIn at hne ⊢
  have hsl := Nat.le_trans (sub_len (ps := ps) (ins := ins)) hl
  rw [sh_sub h hl ins] at hne ⊢
  by_cases hw : wsum ps ins ≤ 2520
  · rw [if_pos hw, if_pos rfl] at hne ⊢
    exact firstNo_no (S := fun x => x = 120 ∨ x = 5) (fun q hq hn => te_no (sub_plain h ins) hsl hq hn) (by omega) hne
  · rw [if_neg hw, if_neg (by decide)]
    exact Or.inl rfl
/-- fewer pass, too -/
theorem gt_fewer {ps : List Pn} (h : ∀ x ∈ ps, Plain x) (h0 : 0 < ps.length) (hl : ps.length ≤ 4) {ins jns : List Bool} (hi : ins.length = ps.length) (hj : jns.length = ps.length) (hs : ∀ i, jns.getD i false = true → ins.getD i false = true) (hp : (gtR ps ins).2.2 = 0) : (gtR ps jns).2.2 = 0 := by
  obtain ⟨h1, h2⟩ := (gt_ok h h0 hl hi).1 hp
  refine (gt_ok h h0 hl hj).2 ⟨Nat.le_trans ?_ h1, fun i hi1 hi2 => h2 i hi1 (hs i hi2)⟩
  refine sm_le fun i _ => ?_
  by_cases hc : jns.getD i false = true
  · rw [if_pos hc, if_pos (hs i hc)]; exact Nat.le_refl _
  · rw [if_neg hc]; exact Nat.zero_le _
/-- nobody -/
theorem gt_none {ps : List Pn} (h : ∀ x ∈ ps, Plain x) (h0 : 0 < ps.length) (hl : ps.length ≤ 4) {ins : List Bool} (hi : ins.length = ps.length) (hn : ∀ i, ins.getD i false = false) : (gtR ps ins).2.2 = 0 := by
  refine (gt_ok h h0 hl hi).2 ⟨?_, fun i _ hc => by rw [hn i] at hc; cases hc⟩
  unfold wsum
  rw [sm_zero fun i _ => by rw [hn i]; rfl]
  exact Nat.zero_le _
/-! made ones -/
theorem mk_plain (s : Pn) : Plain (mk s) := by
  have h1 := mper_bd s
  have h2 := mbud_bd s
  refine ⟨mk_ok s, fun i _ => rfl, ?_, ?_, fun i _ => ?_⟩
  · have ht : ∀ n, cTasks (mBud s) (fun i => mt (s.z i)) n = true := fun n => by
      induction n with
      | zero => rfl
      | succ n ih =>
        unfold cTasks
        rw [ih, Bool.true_and]
        have hg := g_bd (s.z n)
        unfold cTask cTimes cLocals cGlobal wi
        show (decide ((1 : Int) ≤ (gP (s.z n) : Int)) && decide ((gP (s.z n) : Int) ≤ 64) && (decide ((1 : Int) ≤ (gD (s.z n) : Int)) && decide ((gD (s.z n) : Int) ≤ (gP (s.z n) : Int))) && (decide ((1 : Int) ≤ (gB (s.z n) : Int)) && decide ((gB (s.z n) : Int) ≤ (gD (s.z n) : Int))) && true && true) = true
        simp only [Bool.and_eq_true, decide_eq_true_eq, Bool.and_true]
        omega
    unfold cPart wi
    show (decide ((1 : Int) ≤ (mPer s : Int)) && decide ((mPer s : Int) ≤ 64) && (decide ((1 : Int) ≤ (mBud s : Int)) && decide ((mBud s : Int) ≤ (mPer s : Int))) && decide (min s.n 3 ≤ 4) && cTasks (mBud s) (fun i => mt (s.z i)) (min s.n 3)) = true
    rw [ht]
    simp only [Bool.and_eq_true, decide_eq_true_eq, Bool.and_true]
    omega
  · show (mPer s : Int) ≤ 10; omega
  · have := g_bd (s.z i)
    show (gP (s.z i) : Int) ≤ 48; omega
theorem ml_plain (ps : List Pn) : (∀ x ∈ ml ps 4, Plain x) ∧ (ml ps 4).length ≤ 4 := by
  refine ⟨fun x hx => ?_, by rw [ml_len]; omega⟩
  unfold ml at hx
  obtain ⟨s, _, rfl⟩ := List.mem_map.1 hx
  exact mk_plain s
/-! those that pass, played -/
def svOf (ps : List Pn) (ins : List Bool) : Sv := ⟨ps.length, sP ps, sB ps, fun i => ins.getD i false⟩
theorem sv_ok {ps : List Pn} (h : ∀ x ∈ ps, Plain x) {ins : List Bool} (hw : wsum ps ins ≤ 2520) : (svOf ps ins).Ok := by
  refine ⟨s_bd h, 2520, by decide, d2520 h, Nat.le_trans (Nat.le_of_eq ?_) hw⟩
  refine sm_congr fun i _ => ?_
  show (if ins.getD i false then sB ps i else 0) * (2520 / sP ps i) = _
  split
  · rfl
  · rw [Nat.zero_mul]
end Go.Proofs.Ytbdiekolkniajaa.Gt
