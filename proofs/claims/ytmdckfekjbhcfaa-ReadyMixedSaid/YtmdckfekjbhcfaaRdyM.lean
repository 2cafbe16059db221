/- ReadyMixed: two queues that were filled in other orders. -/
import Derived.Test.YtmdckfekjbhcfaaRdyF
namespace Go.Proofs.Ytmdckfekjbhcfaa
open Go.RowKit Rk Rd Go.Sort
set_option linter.unusedVariables false

def In4 (a b c d k : Nat) : Prop := k = a ∨ k = b ∨ k = c ∨ k = d
theorem In4.lt {w : World} {qb rb hb gb : Nat} {M : List Int} (h : QS w qb rb hb gb M) {k : Nat} (q : In4 qb rb hb gb k) : k < w.heap.size := by
  rcases q with rfl | rfl | rfl | rfl
  · exact h.lt
  · exact h.k.lt0
  · exact h.k.lt1
  · exact h.k.lt2
/-- two queues, apart -/
structure MX (B : Nat) (W w : World) (qa qb : Nat) (L M : List Int) (ra ha ga rb hb gb : Nat) : Prop where
  a : QS w qa ra ha ga L
  b : QS w qb rb hb gb M
  ba : B ≤ qa ∧ B ≤ ra ∧ B ≤ ha ∧ B ≤ ga
  bb : B ≤ qb ∧ B ≤ rb ∧ B ≤ hb ∧ B ≤ gb
  bel : Below B W w
  ap : ∀ k, In4 qa ra ha ga k → In4 qb rb hb gb k → False
def MW (B : Nat) (W w : World) (qa qb : Nat) (L M : List Int) : Prop := ∃ ra ha ga rb hb gb, MX B W w qa qb L M ra ha ga rb hb gb
section
variable {B : Nat} {W w w' : World} {qa qb : Nat} {L M L' M' : List Int} {ra ha ga rb hb gb : Nat}
theorem MX.symm (h : MX B W w qa qb L M ra ha ga rb hb gb) : MX B W w qb qa M L rb hb gb ra ha ga := ⟨h.b, h.a, h.bb, h.ba, h.bel, fun k h1 h2 => h.ap k h2 h1⟩
theorem MX.pa {v : Value} {e : Ending} (h : MX B W w qa qb L M ra ha ga rb hb gb) (o : QP v qa ra ha ga L' w e w') : ∃ g', MX B W w' qa qb L' M ra ha g' rb hb gb := by
  obtain ⟨_, ⟨g', h1, h2⟩, h3⟩ := o
  obtain ⟨b1, b2, b3, b4⟩ := h.ba
  have hs : B ≤ w.heap.size := by have := h.a.lt; omega
  have hk : ∀ x, Two ha ga x → In4 qa ra ha ga x := fun x e => by
    rcases e with e | e
    · exact Or.inr (Or.inr (Or.inl e))
    · exact Or.inr (Or.inr (Or.inr e))
  refine ⟨g', h1, h.b.only h3 (fun e => h.ap _ (hk _ e) (Or.inl rfl)) (fun e => h.ap _ (hk _ e) (Or.inr (Or.inl rfl))) (fun e => h.ap _ (hk _ e) (Or.inr (Or.inr (Or.inl rfl)))) (fun e => h.ap _ (hk _ e) (Or.inr (Or.inr (Or.inr rfl)))), ⟨b1, b2, b3, by omega⟩, h.bb, h.bel.trans (h3.below hs fun k _ hk => ?_), fun k k1 k2 => ?_⟩
  · rcases hk with rfl | rfl
    · exact b3
    · exact b4
  · have hl := In4.lt h.b k2
    rcases k1 with e | e | e | e
    · exact h.ap k (Or.inl e) k2
    · exact h.ap k (Or.inr (Or.inl e)) k2
    · exact h.ap k (Or.inr (Or.inr (Or.inl e))) k2
    · rcases h2 with q | q
      · exact h.ap k (Or.inr (Or.inr (Or.inr (e.trans q)))) k2
      · omega
theorem MX.below (h : MX B W w qa qb L M ra ha ga rb hb gb) (q : Below w.heap.size w w') : MX B W w' qa qb L M ra ha ga rb hb gb :=
  ⟨h.a.below q, h.b.below q, h.ba, h.bb, h.bel.trans (q.mono (by have := h.a.lt; have := h.ba.1; omega)), h.ap⟩
theorem MW.below (h : MW B W w qa qb L M) (q : Below w.heap.size w w') : MW B W w' qa qb L M := by obtain ⟨_, _, _, _, _, _, h⟩ := h; exact ⟨_, _, _, _, _, _, h.below q⟩
theorem MW.bel (h : MW B W w qa qb L M) : Below B W w := by obtain ⟨_, _, _, _, _, _, h⟩ := h; exact h.bel
theorem MW.ok (h : MW B W w qa qb L M) : Gd L ∧ Gd M := by obtain ⟨_, _, _, _, _, _, h⟩ := h; exact ⟨h.a.ok, h.b.ok⟩
def MwP (B : Nat) (W : World) (qa qb : Nat) (v : Value) (L M : List Int) (e : Ending) (w' : World) : Prop := e = .returned v ∧ MW B W w' qa qb L M
theorem mw_puta (h : MW B W w qa qb L M) (t d : Int) {x : Int} (h1 : qE L t d = x) (h2 : qL L t d = L') : Calls Try.prog 10 #[.pointer (some ⟨qa, 0, none⟩), .int .i64 t, .int .i64 d] w (MwP B W qa qb (.int .i64 x) L' M) := by
  subst h1; subst h2
  obtain ⟨ra, ha, ga, rb, hb, gb, h⟩ := h
  refine (qput_any h.a t d).mono fun e w' o => ?_
  obtain ⟨g', h1⟩ := h.pa o
  exact ⟨o.1, _, _, _, _, _, _, h1⟩
theorem mw_putb (h : MW B W w qa qb L M) (t d : Int) {x : Int} (h1 : qE M t d = x) (h2 : qL M t d = M') : Calls Try.prog 10 #[.pointer (some ⟨qb, 0, none⟩), .int .i64 t, .int .i64 d] w (MwP B W qa qb (.int .i64 x) L M') := by
  subst h1; subst h2
  obtain ⟨ra, ha, ga, rb, hb, gb, h⟩ := h
  refine (qput_any h.b t d).mono fun e w' o => ?_
  obtain ⟨g', h1⟩ := h.symm.pa o
  exact ⟨o.1, _, _, _, _, _, _, h1.symm⟩
theorem mw_remb (h : MW B W w qa qb L M) (t : Int) {x : Bool} (h1 : decide (0 ≤ dl M t) = x) (h2 : rmL M t = M') : Calls Try.prog 12 #[.pointer (some ⟨qb, 0, none⟩), .int .i64 t] w (MwP B W qa qb (.bool x) L M') := by
  subst h1; subst h2
  obtain ⟨ra, ha, ga, rb, hb, gb, h⟩ := h
  refine (qrem_any h.b t).mono fun e w' o => ?_
  obtain ⟨g', h1⟩ := h.symm.pa o
  exact ⟨o.1, _, _, _, _, _, _, h1.symm⟩
theorem mw_jobsa (h : MW B W w qa qb L M) : Calls Try.prog 20 #[.pointer (some ⟨qa, 0, none⟩)] w (JobsP L w) := by
  obtain ⟨_, _, _, _, _, _, h⟩ := h; exact qjobs_any h.a
theorem mw_jobsb (h : MW B W w qa qb L M) : Calls Try.prog 20 #[.pointer (some ⟨qb, 0, none⟩)] w (JobsP M w) := by
  obtain ⟨_, _, _, _, _, _, h⟩ := h; exact qjobs_any h.b
end
theorem MW.start {W w1 w2 : World} {B qa ra ha ga qb rb hb gb : Nat} (a : QS w1 qa ra ha ga (noL 4)) (hqa : B ≤ qa ∧ B ≤ ra ∧ B ≤ ha ∧ B ≤ ga) (bel : Below B W w1) (b : QS w2 qb rb hb gb (noL 4)) (hqb : w1.heap.size ≤ qb ∧ w1.heap.size ≤ rb ∧ w1.heap.size ≤ hb ∧ w1.heap.size ≤ gb) (b2 : Below w1.heap.size w1 w2) : MW B W w2 qa qb (noL 4) (noL 4) := by
  have s0 := a.lt
  have hB : B ≤ w1.heap.size := by omega
  refine ⟨ra, ha, ga, rb, hb, gb, a.below b2, b, hqa, ⟨Nat.le_trans hB hqb.1, Nat.le_trans hB hqb.2.1, Nat.le_trans hB hqb.2.2.1, Nat.le_trans hB hqb.2.2.2⟩, bel.trans (b2.mono hB), fun k k1 k2 => ?_⟩
  have hl := In4.lt a k1
  obtain ⟨x1, x2, x3, x4⟩ := hqb
  rcases k2 with e | e | e | e <;> omega
/-- a deadline that is brought to be one -/
theorem put_new {L : List Int} {i : Nat} {d : Int} (hi : i < L.length) (h : L.getD i (-1) = -1) (h0 : 0 ≤ d) (h1 : d < 100) : qE L i d = 0 ∧ qL L i d = L.set i d := by
  have e : qE L i d = 0 := by
    rcases qE_cases L i d with ⟨_, _⟩ | ⟨_, _, _, _⟩ | ⟨_, _, _, _, q, _⟩ | ⟨_, _, _, _, _, q⟩
    · omega
    · omega
    · rw [dl_nat, h] at q; omega
    · exact q
  exact ⟨e, if_pos e⟩
/-- b's row, when i of the four have been put, from the s-th on -/
def pt (D : Nat → Int) (s : Nat) : Nat → List Int
  | 0 => noL 4
  | i + 1 => (pt D s i).set ((i + s) % 4) (D ((i + s) % 4))
theorem pt_len (D : Nat → Int) (s : Nat) : ∀ i, (pt D s i).length = 4
  | 0 => rfl
  | i + 1 => by unfold pt; rw [List.length_set]; exact pt_len D s i
theorem pt_new (D : Nat → Int) {s i : Nat} (hs : s < 4) (hi : i < 4) : (pt D s i).getD ((i + s) % 4) (-1) = -1 := by
  obtain rfl | rfl | rfl | rfl : s = 0 ∨ s = 1 ∨ s = 2 ∨ s = 3 := by omega
  all_goals
    obtain rfl | rfl | rfl | rfl : i = 0 ∨ i = 1 ∨ i = 2 ∨ i = 3 := by omega
    all_goals rfl
theorem pt_all (D : Nat → Int) {s : Nat} (hs : s < 4) : pt D s 4 = [D 0, D 1, D 2, D 3] := by
  obtain rfl | rfl | rfl | rfl : s = 0 ∨ s = 1 ∨ s = 2 ∨ s = 3 := by omega
  all_goals rfl
/-- a's row, when the first i have been looked at -/
def la (D : Nat → Int) (H : Nat → Bool) : Nat → List Int
  | 0 => noL 4
  | i + 1 => if H i then (la D H i).set i (D i) else la D H i
/-- b's -/
def lb (D : Nat → Int) (H : Nat → Bool) : Nat → List Int
  | 0 => [D 0, D 1, D 2, D 3]
  | i + 1 => if H i then lb D H i else (lb D H i).set i (-1)
theorem la_len (D : Nat → Int) (H : Nat → Bool) : ∀ i, (la D H i).length = 4
  | 0 => rfl
  | i + 1 => by unfold la; split <;> simp [la_len D H i]
theorem lb_len (D : Nat → Int) (H : Nat → Bool) : ∀ i, (lb D H i).length = 4
  | 0 => rfl
  | i + 1 => by unfold lb; split <;> simp [lb_len D H i]
theorem la_yes {D : Nat → Int} {H : Nat → Bool} {i : Nat} (h : H i = true) : la D H (i + 1) = (la D H i).set i (D i) := by
  conv => lhs; unfold la
  rw [if_pos h]
theorem la_no {D : Nat → Int} {H : Nat → Bool} {i : Nat} (h : H i = false) : la D H (i + 1) = la D H i := by
  conv => lhs; unfold la
  rw [if_neg (by rw [h]; decide)]
theorem lb_yes {D : Nat → Int} {H : Nat → Bool} {i : Nat} (h : H i = true) : lb D H (i + 1) = lb D H i := by
  conv => lhs; unfold lb
  rw [if_pos h]
theorem lb_no {D : Nat → Int} {H : Nat → Bool} {i : Nat} (h : H i = false) : lb D H (i + 1) = (lb D H i).set i (-1) := by
  conv => lhs; unfold lb
  rw [if_neg (by rw [h]; decide)]
theorem getD_set_ne {L : List Int} {i j : Nat} {x : Int} (h : i ≠ j) : (L.set i x).getD j (-1) = L.getD j (-1) := by
  rw [List.getD_eq_getElem?_getD, List.getElem?_set_ne h, List.getD_eq_getElem?_getD]
theorem la_new (D : Nat → Int) (H : Nat → Bool) (j : Nat) (hj : j < 4) : ∀ i, i ≤ j → (la D H i).getD j (-1) = -1
  | 0, _ => by
    obtain rfl | rfl | rfl | rfl : j = 0 ∨ j = 1 ∨ j = 2 ∨ j = 3 := by omega
    all_goals rfl
  | i + 1, h => by
    have ih := la_new D H j hj i (by omega)
    unfold la
    split
    · rw [getD_set_ne (by omega)]; exact ih
    · exact ih
theorem lb_old (D : Nat → Int) (H : Nat → Bool) (j : Nat) (hj : j < 4) : ∀ i, i ≤ j → (lb D H i).getD j (-1) = D j
  | 0, _ => by
    obtain rfl | rfl | rfl | rfl : j = 0 ∨ j = 1 ∨ j = 2 ∨ j = 3 := by omega
    all_goals rfl
  | i + 1, h => by
    have ih := lb_old D H j hj i (by omega)
    unfold lb
    split
    · exact ih
    · rw [getD_set_ne (by omega)]; exact ih
theorem mixed_eq (D : Nat → Int) (H : Nat → Bool) : la D H 4 = lb D H 4 := by
  have e : ∀ i, la D H i = if H (i - 1) = H (i - 1) then la D H i else la D H i := fun i => by simp
  clear e
  unfold la lb la lb la lb la lb la lb
  cases H 0 <;> cases H 1 <;> cases H 2 <;> cases H 3 <;> rfl
set_option maxRecDepth 100000 in
set_option maxHeartbeats 8000000 in
theorem mixed_law (w : World) (y : Nat → Int) (H : Nat → Bool) (turn : Int) : Calls Try.prog 5 #[.agg #[.int .i64 (y 0), .int .i64 (y 1), .int .i64 (y 2), .int .i64 (y 3)], .agg #[.bool (H 0), .bool (H 1), .bool (H 2), .bool (H 3)], .int .i64 turn] w (TrueB w) := by
  obtain ⟨w2, hw2⟩ : ∃ w2, w2 = ((w.alloc (.cells #[.int .i64 (y 0), .int .i64 (y 1), .int .i64 (y 2), .int .i64 (y 3)] 41)).alloc (.cells #[.bool (H 0), .bool (H 1), .bool (H 2), .bool (H 3)] 46)) := ⟨_, rfl⟩
  have HB0 : Hid (Below w.heap.size w w2) := by rw [hw2]; exact ((Below.refl _ _).alloc (Nat.le_refl _) _).alloc (by simp) _
  have HY : Hid (∀ j, j < 4 → w2.cell? ⟨w.heap.size, j, none⟩ = some (.int .i64 (y j))) := by
    intro j hj
    rw [hw2, cell_of_row _ _ _ _ _ _ (heap_alloc2_old w _ _)]
    obtain rfl | rfl | rfl | rfl : j = 0 ∨ j = 1 ∨ j = 2 ∨ j = 3 := by omega
    all_goals rfl
  have HH : Hid (∀ j, j < 4 → w2.cell? ⟨w.heap.size + 1, j, none⟩ = some (.bool (H j))) := by
    intro j hj
    rw [hw2, cell_of_row _ _ _ _ _ _ (heap_alloc2_new w _ _)]
    obtain rfl | rfl | rfl | rfl : j = 0 ∨ j = 1 ∨ j = 2 ∨ j = 3 := by omega
    all_goals rfl
  obtain ⟨D, hD⟩ : ∃ D : Nat → Int, D = fun j => bring (y j) 100 := ⟨_, rfl⟩
  have HDD : Hid (∀ j, bring (y j) 100 = D j ∧ 0 ≤ D j ∧ D j < 100) := fun j => by rw [hD]; exact ⟨rfl, bring_range _ (by decide)⟩
  clear hD
  have hr := bring_range turn (n := 4) (by decide)
  obtain ⟨s, hs⟩ : ∃ s : Nat, bring turn 4 = s := ⟨(bring turn 4).toNat, by omega⟩
  have hs4 : s < 4 := by omega
  have HBT := Lib.hid (fun w => bring_any turn 4 w (by decide) (by decide))
  rw [hs] at HBT
  clear hr hs
  obtain ⟨hx, hhx⟩ : ∃ hx, w.heap.size + 1 = hx := ⟨_, rfl⟩
  rw [hhx] at HH
  generalize y 0 = y0 at *
  generalize y 1 = y1 at *
  generalize y 2 = y2 at *
  generalize y 3 = y3 at *
  generalize H 0 = h0 at *
  generalize H 1 = h1 at *
  generalize H 2 = h2 at *
  generalize H 3 = h3 at *
  go_enter Try.func5, Try.ntmps5
  go_wp2_with fail
  rw [← hw2]
  clear hw2 hhx
  refine (qnew_yes w2 (n := 4) (by decide)).mono ?_
  rintro e w3 ⟨qa, ra, ha, ga, rfl, hqa, hba, hb3⟩
  have HA := Lib.hid (And.intro hqa (And.intro hba hb3))
  clear hqa hba hb3
  go_wp2_with fail
  refine (qnew_yes w3 (n := 4) (by decide)).mono ?_
  rintro e w4 ⟨qb, rb, hb, gb, rfl, hqb, hbb, hb4⟩
  have HM := Lib.hid (MW.start (B := w2.heap.size) HA.out.1 HA.out.2.1 HA.out.2.2 hqb hbb hb4)
  clear hqb hbb hb4 HA
  go_wp2_with fail
  go_loopw [11] (fun i wr => ∃ k : Nat, k ≤ 4 ∧ i = .int .i64 k ∧ Hid (MW w2.heap.size w2 wr qa qb (noL 4) (pt D s k))) (fun i _ => 4 - (intOf i).toNat)
  case atStart => exact ⟨0, by omega, rfl, HM.out⟩
  case round =>
    clear HM
    obtain ⟨k, hk, rfl, HM⟩ := hrel
    by_cases hk4 : k < 4
    · have hkI : (k : Int) < 4 := by omega
      have hk0 : (0 : Int) ≤ k := by omega
      obtain ⟨q, hq⟩ : ∃ q, (k + s) % 4 = q := ⟨_, rfl⟩
      have hq4 : q < 4 := by omega
      have hqe : ((k : Int) + (s : Int)) % 4 = (q : Int) := by omega
      have hqI : (q : Int) < 4 := by omega
      have hq0 : (0 : Int) ≤ q := by omega
      have c1' := HY.out q hq4
      have c1 := (HM.out.bel.cell (World.block_lt_of_cell? w2 _ c1')).trans c1'
      have HP := Lib.hid (put_new (L := pt D s k) (i := q) (d := D q) (by rw [pt_len]; exact hq4) (by rw [← hq]; exact pt_new D hs4 hk4) (HDD.out q).2.1 (HDD.out q).2.2)
      have HE : Hid (pt D s (k + 1) = (pt D s k).set q (D q)) := by
        unfold Hid
        conv => lhs; unfold pt
        rw [hq]
      have HB := Lib.hid (fun w => bring_any (y q) 100 w (by decide) (by decide))
      rw [(HDD.out q).1] at HB
      generalize y q = yq at *
      generalize D q = dq at *
      clear hq c1'
      go_wp2_with fail
      refine (HBT.out _).mono ?_
      rintro e w5 ⟨rfl, rfl⟩
      go_wp2_with fail
      refine (HB.out _).mono ?_
      rintro e w5 ⟨rfl, rfl⟩
      clear c1 HB
      go_wp2_with fail
      refine (mw_putb HM.out q dq HP.out.1 HP.out.2).mono ?_
      rintro e w6 ⟨rfl, hm⟩
      rw [← HE.out] at hm
      have HM6 := Lib.hid hm
      clear hm HM HP HE
      go_wp2_with fail
      go_roundw
      case rel => exact ⟨k + 1, by omega, by go_num, HM6.out⟩
      case measure => simp [intOf]; omega
    · have hkd : decide ((k : Int) < 4) = false := by simp; omega
      have HM0 : Hid (MW w2.heap.size w2 wr qa qb (la D H 0) (lb D H 0)) := by
        have e : k = 4 := by omega
        have h := HM.out
        rw [e, pt_all D hs4] at h
        exact h
      clear HM hk4 hk HBT
      go_wp2_with fail
      go_loopw [13] (fun i wr => ∃ k : Nat, k ≤ 4 ∧ i = .int .i64 k ∧ Hid (MW w2.heap.size w2 wr qa qb (la D H k) (lb D H k))) (fun i _ => 4 - (intOf i).toNat)
      case atStart => exact ⟨0, by omega, rfl, HM0.out⟩
      case round =>
        clear HM0
        obtain ⟨p, hp, rfl, HM⟩ := hrel
        by_cases hp4 : p < 4
        · have hpI : (p : Int) < 4 := by omega
          have hp0 : (0 : Int) ≤ p := by omega
          have c1' := HY.out p hp4
          have c1 := (HM.out.bel.cell (World.block_lt_of_cell? w2 _ c1')).trans c1'
          have c2' := HH.out p hp4
          have c2 := (HM.out.bel.cell (World.block_lt_of_cell? w2 _ c2')).trans c2'
          have HC2 := Lib.hid c2'
          cases hH : H p with
          | true =>
            have HP := Lib.hid (put_new (L := la D H p) (i := p) (d := D p) (by rw [la_len]; exact hp4) (la_new D H p hp4 p (Nat.le_refl _)) (HDD.out p).2.1 (HDD.out p).2.2)
            have HE1 := Lib.hid (la_yes (D := D) hH)
            have HE2 := Lib.hid (lb_yes (D := D) hH)
            have HB := Lib.hid (fun w => bring_any (y p) 100 w (by decide) (by decide))
            rw [(HDD.out p).1] at HB
            rw [hH] at c2 HC2
            generalize y p = yp at *
            generalize D p = dp at *
            clear hH c1' c2'
            go_wp2_with fail
            refine (HB.out _).mono ?_
            rintro e w5 ⟨rfl, rfl⟩
            clear c1 c2 HB
            go_wp2_with fail
            refine (mw_puta HM.out p dp HP.out.1 HP.out.2).mono ?_
            rintro e w6 ⟨rfl, hm⟩
            have c2 := (hm.bel.cell (World.block_lt_of_cell? w2 _ HC2.out)).trans HC2.out
            rw [← HE1.out, ← HE2.out] at hm
            have HM6 := Lib.hid hm
            clear hm HM HP HE1 HE2
            go_wp2_with fail
            go_roundw
            case rel => exact ⟨p + 1, by omega, by go_num, HM6.out⟩
            case measure => simp [intOf]; omega
          | false =>
            have hold := lb_old D H p hp4 p (Nat.le_refl _)
            have HR : Hid (decide (0 ≤ dl (lb D H p) p) = true ∧ rmL (lb D H p) p = (lb D H p).set p (-1)) := by
              have h0 : 0 ≤ dl (lb D H p) p := by rw [dl_nat, hold]; exact (HDD.out p).2.1
              exact ⟨decide_eq_true h0, if_pos h0⟩
            have HE1 := Lib.hid (la_no (D := D) hH)
            have HE2 := Lib.hid (lb_no (D := D) hH)
            rw [hH] at c2
            clear hH c1' c2' c1 hold HC2
            go_wp2_with fail
            refine (mw_remb HM.out p HR.out.1 HR.out.2).mono ?_
            rintro e w6 ⟨rfl, hm⟩
            rw [← HE1.out, ← HE2.out] at hm
            have HM6 := Lib.hid hm
            clear hm HM HR HE1 HE2 c2
            go_wp2_with fail
            go_roundw
            case rel => exact ⟨p + 1, by omega, by go_num, HM6.out⟩
            case measure => simp [intOf]; omega
        · have hpd : decide ((p : Int) < 4) = false := by simp; omega
          have HM4 : Hid (MW w2.heap.size w2 wr qa qb (la D H 4) (la D H 4)) := by
            have e : p = 4 := by omega
            have h := HM.out
            rw [e] at h
            conv at h => arg 7; rw [← mixed_eq D H]
            exact h
          generalize la D H 4 = L at *
          have HJA := Lib.hid (mw_jobsa HM4.out)
          obtain ⟨N, hN⟩ : ∃ N, (srt L).length = N := ⟨_, rfl⟩
          have hN4 : N ≤ 4 := by have h1 := srt_len L; have h2 := HM4.out.ok.1.len; omega
          unfold JobsP at HJA
          rw [hN] at HJA
          clear HM hp4 hp
          go_wp2_with fail
          refine HJA.out.mono ?_
          rintro e w5 ⟨ja, rfl, hn5, hb5⟩
          have HI5 := Lib.hid hn5.is
          have HM5 := Lib.hid (HM4.out.below hb5)
          have HJB := Lib.hid (mw_jobsb HM5.out)
          unfold JobsP at HJB
          rw [hN] at HJB
          clear hn5 hb5 HJA HM4
          go_wp2_with fail
          refine HJB.out.mono ?_
          rintro e w6 ⟨jb, rfl, hn6, hb6⟩
          have HI6 := Lib.hid hn6.is
          have HI5b := Lib.hid (HI5.out.below hb6)
          have HM6 := Lib.hid (HM5.out.below hb6)
          clear hn6 hb6 HJB HM5 HI5
          go_wp2_with fail
          refine (eqs_any HI5b.out HI6.out (by rw [ids_len, hN]; omega)).mono ?_
          rintro e w7 ⟨rfl, hb7⟩
          have HM7 := Lib.hid (HM6.out.below hb7)
          clear hb7 HM6 HI5b HI6
          go_wp2_with fail
          refine (works_any _).mono ?_
          rintro e w8 ⟨rfl, hb8⟩
          have HM8 := Lib.hid (HM7.out.below hb8)
          clear hb8 HM7
          go_wp2_with fail
          go_ret
          exact ⟨rfl, HB0.out.trans (HM8.out.bel.mono HB0.out.size)⟩
end Go.Proofs.Ytmdckfekjbhcfaa
