/- What the document reads, plainly: it stops where there are too many. It is what is read. -/
import Derived.Test.YthbhkcofhhkcoaaConfP
namespace Go.Proofs.Ythbhkcofhhkcoaa.Cn
open Go.Proofs.Ythbhkcofhhkcoaa.Pk
set_option linter.unusedVariables false

def refPt (s : St) : Option (Pt × St) :=
  if (rowN 3 s).1.getD 2 0 > 4 then none else some (⟨(rowN 3 s).1.getD 0 0, (rowN 3 s).1.getD 1 0, (many rdTk ((rowN 3 s).1.getD 2 0).toNat (rowN 3 s).2).1⟩, (many rdTk ((rowN 3 s).1.getD 2 0).toNat (rowN 3 s).2).2)
def manyO (s : St) : Nat → Option (List Pt × St)
  | 0 => some ([], s)
  | k + 1 => match manyO s k with
    | none => none
    | some r => match refPt r.2 with
      | none => none
      | some x => some (r.1 ++ [x.1], x.2)
def refC (s : St) : Option (Cf × St) :=
  if (rd MX s).1 > 4 then none else match manyO (rd MX s).2 (rd MX s).1.toNat with
    | none => none
    | some r => if (rd MX r.2).1 > 8 then none else some (⟨r.1, (many rdPo (rd MX r.2).1.toNat (rd MX r.2).2).1⟩, (many rdPo (rd MX r.2).1.toNat (rd MX r.2).2).2)
def refP (xs : List Int) : Cf × Int := match refC (xs, 0) with
  | none => (c0, 50)
  | some r => if en r.2 ≠ 0 then (c0, en r.2) else if may r.1 then (r.1, 0) else (c0, 50)
theorem rd_cases (m : Int) (h0 : 0 ≤ m) (hm : m ≤ MX) (s : St) : ((rd MX s).1 > m ∧ (rd m s).2 = ([], 5) ∧ (rd m s).1 = 0) ∨ (¬ (rd MX s).1 > m ∧ rd m s = rd MX s) := by
  obtain ⟨xs, e⟩ := s
  by_cases h : e = 0
  · subst h
    rw [rd_zero, rd_zero]
    unfold cutN
    by_cases h1 : (cutAny xs).2.2 ≠ 0
    · rw [if_pos h1, if_pos h1]; exact Or.inr ⟨by simp; omega, rfl⟩
    · rw [if_neg h1, if_neg h1]
      by_cases h2 : (cutAny xs).1 > MX
      · rw [if_pos h2, if_pos (by omega)]; exact Or.inr ⟨by simp; omega, rfl⟩
      · rw [if_neg h2]
        by_cases h3 : (cutAny xs).1 > m
        · rw [if_pos h3]; exact Or.inl ⟨h3, rfl, rfl⟩
        · rw [if_neg h3]; exact Or.inr ⟨h3, rfl⟩
  · rw [rd_stick m _ h, rd_stick MX _ h]; exact Or.inr ⟨by simp; omega, rfl⟩
theorem row3 (s : St) : (rowN 3 s).1.getD 0 0 = (rowN 2 s).1.getD 0 0 ∧ (rowN 3 s).1.getD 1 0 = (rowN 2 s).1.getD 1 0 ∧ (rowN 3 s).1.getD 2 0 = (rd MX (rowN 2 s).2).1 ∧ (rowN 3 s).2 = (rd MX (rowN 2 s).2).2 := by
  have h := rowN_snoc 2 s
  have hl := rowN_length 2 s
  rw [h]
  match (rowN 2 s).1, hl with
  | [a, b], _ => exact ⟨rfl, rfl, rfl, rfl⟩
theorem refPt_eq (s : St) : (refPt s = none ∧ (rdPt s).2 = ([], 5)) ∨ refPt s = some (rdPt s) := by
  obtain ⟨h0, h1, h2, h3⟩ := row3 s
  unfold refPt
  rw [h0, h1, h2, h3]
  rcases rd_cases 4 (by decide) (by decide) (rowN 2 s).2 with ⟨g1, g2, g3⟩ | ⟨g1, g2⟩
  · rw [if_pos g1]
    refine Or.inl ⟨rfl, ?_⟩
    show (many rdTk (rd 4 (rowN 2 s).2).1.toNat (rd 4 (rowN 2 s).2).2).2 = _
    rw [g3, g2]; rfl
  · rw [if_neg g1]
    right
    show _ = some ((⟨_, _, (many rdTk (rd 4 (rowN 2 s).2).1.toNat (rd 4 (rowN 2 s).2).2).1⟩ : Pt), (many rdTk (rd 4 (rowN 2 s).2).1.toNat (rd 4 (rowN 2 s).2).2).2)
    rw [g2]
theorem many_stick {s : St} (k j : Nat) (h : (many rdPt k s).2 = ([], 5)) : (many rdPt (k + j) s).2 = ([], 5) := by
  induction j with
  | zero => exact h
  | succ j ih => rw [← Nat.add_assoc, many_snoc, rdPt_good.stick _ (by rw [ih]; decide), ih]
theorem manyO_eq (s : St) (k : Nat) : (manyO s k = none ∧ (many rdPt k s).2 = ([], 5)) ∨ manyO s k = some (many rdPt k s) := by
  induction k with
  | zero => exact Or.inr rfl
  | succ k ih =>
    rcases ih with ⟨h1, h2⟩ | h
    · exact Or.inl ⟨by rw [manyO, h1], many_stick k 1 h2⟩
    · rcases refPt_eq (many rdPt k s).2 with ⟨g1, g2⟩ | g
      · exact Or.inl ⟨by rw [manyO, h]; simp only [g1], by rw [many_snoc]; exact g2⟩
      · exact Or.inr (by rw [manyO, h]; simp only [g]; rw [many_snoc])
theorem refC_eq (s : St) : (refC s = none ∧ (rdC s).2 = ([], 5)) ∨ refC s = some (rdC s) := by
  unfold refC
  rcases rd_cases 4 (by decide) (by decide) s with ⟨g1, g2, g3⟩ | ⟨g1, g2⟩
  · rw [if_pos g1]
    refine Or.inl ⟨rfl, ?_⟩
    have h : (rdPs s).2 = ([], 5) := by show (many rdPt (rd 4 s).1.toNat (rd 4 s).2).2 = _; rw [g3, g2]; rfl
    show (rdOs (rdPs s).2).2 = _
    rw [rdOs_good.stick _ (by rw [h]; decide), h]
  · rw [if_neg g1]
    have e : rdPs s = many rdPt (rd MX s).1.toNat (rd MX s).2 := by show many rdPt (rd 4 s).1.toNat (rd 4 s).2 = _; rw [g2]
    rcases manyO_eq (rd MX s).2 (rd MX s).1.toNat with ⟨h1, h2⟩ | h
    · rw [h1]
      refine Or.inl ⟨rfl, ?_⟩
      show (rdOs (rdPs s).2).2 = _
      rw [e, rdOs_good.stick _ (by rw [h2]; decide), h2]
    · rw [h, ← e]
      simp only
      rcases rd_cases 8 (by decide) (by decide) (rdPs s).2 with ⟨k1, k2, k3⟩ | ⟨k1, k2⟩
      · rw [if_pos k1]
        refine Or.inl ⟨rfl, ?_⟩
        show (many rdPo (rd 8 (rdPs s).2).1.toNat (rd 8 (rdPs s).2).2).2 = _
        rw [k3, k2]; rfl
      · rw [if_neg k1]
        right
        show _ = some ((⟨(rdPs s).1, (many rdPo (rd 8 (rdPs s).2).1.toNat (rd 8 (rdPs s).2).2).1⟩ : Cf), (many rdPo (rd 8 (rdPs s).2).1.toNat (rd 8 (rdPs s).2).2).2)
        rw [k2]
/-- no number of any size tells that there are too many -/
theorem rd5 (s : St) (h : s.2 ≠ 5) (hb : Bys s.1) : (rd MX s).2.2 ≠ 5 := by
  obtain ⟨xs, e⟩ := s
  by_cases h0 : e = 0
  · subst h0
    rw [rd_zero]
    unfold cutN
    rcases cutAny_err xs with g | ⟨_, _, g⟩
    · have h9 : (cutAny xs).1 ≤ MX := (isN_yes (num_cutAny hb g).2).2
      rw [if_neg (by simp [g]), if_neg (by omega)]; simp
    · rw [if_pos (by omega)]; simp; omega
  · rw [rd_stick _ _ h0]; exact h
theorem many5 {α : Type} {f : St → α × St} (gf : Good f) (hf : ∀ s, s.2 ≠ 5 → Bys s.1 → (f s).2.2 ≠ 5) (k : Nat) : ∀ s, s.2 ≠ 5 → Bys s.1 → (many f k s).2.2 ≠ 5 := by
  induction k with
  | zero => intro s h _; exact h
  | succ k ih => intro s h hb; rw [many]; exact ih _ (hf s h hb) (gf.bys s hb)
theorem row5 (m : Nat) : ∀ s, s.2 ≠ 5 → Bys s.1 → (rowN m s).2.2 ≠ 5 := many5 (rd_good MX) rd5 m
theorem refPt5 (s : St) (h : s.2 ≠ 5) (hb : Bys s.1) {r : Pt × St} (hr : refPt s = some r) : r.2.2 ≠ 5 := by
  unfold refPt at hr
  split at hr
  · cases hr
  · obtain rfl := Option.some.inj hr
    exact many5 rdTk_good (fun s h hb => row5 8 s h hb) _ _ (row5 3 s h hb) ((row_good 3).bys s hb)
theorem manyO5 (s : St) (h : s.2 ≠ 5) (hb : Bys s.1) (k : Nat) : ∀ {r}, manyO s k = some r → r.2.2 ≠ 5 ∧ Bys r.2.1 := by
  induction k with
  | zero => intro r hr; obtain rfl := Option.some.inj hr; exact ⟨h, hb⟩
  | succ k ih =>
    intro r hr
    rw [manyO] at hr
    cases hk : manyO s k with
    | none => rw [hk] at hr; cases hr
    | some q =>
      rw [hk] at hr
      simp only at hr
      obtain ⟨i1, i2⟩ := ih hk
      cases hp : refPt q.2 with
      | none => rw [hp] at hr; cases hr
      | some x =>
        rw [hp] at hr
        obtain rfl := Option.some.inj hr
        refine ⟨refPt5 _ i1 i2 hp, ?_⟩
        rcases refPt_eq q.2 with ⟨g, _⟩ | g
        · rw [g] at hp; cases hp
        · rw [g] at hp; obtain rfl := Option.some.inj hp; exact rdPt_good.bys _ i2
theorem refC5 (s : St) (h : s.2 ≠ 5) (hb : Bys s.1) {r : Cf × St} (hr : refC s = some r) : r.2.2 ≠ 5 := by
  unfold refC at hr
  split at hr
  · cases hr
  · split at hr
    · cases hr
    · rename_i q hq
      obtain ⟨i1, i2⟩ := manyO5 _ (rd5 s h hb) ((rd_good MX).bys s hb) _ hq
      split at hr
      · cases hr
      · obtain rfl := Option.some.inj hr
        exact many5 rdPo_good (fun s h hb => row5 6 s h hb) _ _ (rd5 _ i1 i2) ((rd_good MX).bys _ i2)
theorem refP_eq {xs : List Int} (hb : Bys xs) : refP xs = parse xs := by
  unfold refP parse
  rcases refC_eq (xs, 0) with ⟨h1, h2⟩ | h
  · rw [h1, h2]; rfl
  · rw [h]
    have h5 := refC5 (xs, 0) (by simp) hb h
    simp only
    have e : fin (rdC (xs, 0)).2 = en (rdC (xs, 0)).2 := by
      unfold fin
      rw [if_neg ?_]
      unfold en
      split
      · decide
      · exact h5
    rw [e]
end Go.Proofs.Ythbhkcofhhkcoaa.Cn
