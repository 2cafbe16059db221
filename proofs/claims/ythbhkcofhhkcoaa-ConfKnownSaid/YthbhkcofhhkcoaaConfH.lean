/- Rows of numbers that are read: readRow; a row of structs that is filled. -/
import Derived.Test.YthbhkcofhhkcoaaConfE
import Derived.Deep.RegionHeld3
namespace Go.Proofs.Ythbhkcofhhkcoaa
open Go.RowKit Pk Cn
set_option linter.unusedVariables false

/-- a row of cells in which numbers stand from o on -/
def setRow (cur : Array Value) (o : Nat) : List Int → Array Value
  | [] => cur
  | x :: l => setRow (cur.setIfInBounds o (.int .i64 x)) (o + 1) l
theorem setRow_snoc (x : Int) : ∀ (l : List Int) (cur : Array Value) (o : Nat), setRow cur o (l ++ [x]) = (setRow cur o l).setIfInBounds (o + l.length) (.int .i64 x)
  | [], cur, o => rfl
  | y :: l, cur, o => by
    show setRow (cur.setIfInBounds o (.int .i64 y)) (o + 1) (l ++ [x]) = (setRow (cur.setIfInBounds o (.int .i64 y)) (o + 1) l).setIfInBounds _ _
    rw [setRow_snoc x l, List.length_cons, show o + 1 + l.length = o + (l.length + 1) by omega]
theorem setRow_size : ∀ (l : List Int) (cur : Array Value) (o : Nat), (setRow cur o l).size = cur.size
  | [], cur, o => rfl
  | y :: l, cur, o => by
    show (setRow (cur.setIfInBounds o (.int .i64 y)) (o + 1) l).size = _
    rw [setRow_size l]; simp
theorem setRow_out {k : Nat} : ∀ (l : List Int) (cur : Array Value) (o : Nat), (k < o ∨ o + l.length ≤ k) → (setRow cur o l)[k]? = cur[k]?
  | [], cur, o, _ => rfl
  | y :: l, cur, o, h => by
    show (setRow (cur.setIfInBounds o (.int .i64 y)) (o + 1) l)[k]? = _
    rw [List.length_cons] at h
    rw [setRow_out l _ _ (by omega), Array.getElem?_setIfInBounds_ne (by omega)]
theorem setRow_in {j : Nat} : ∀ (l : List Int) (cur : Array Value) (o : Nat), j < l.length → o + l.length ≤ cur.size → (setRow cur o l)[o + j]? = some (.int .i64 (l.getD j 0))
  | [], cur, o, h, _ => by cases h
  | y :: l, cur, o, h, hs => by
    show (setRow (cur.setIfInBounds o (.int .i64 y)) (o + 1) l)[o + j]? = _
    rw [List.length_cons] at h hs
    cases j with
    | zero =>
      rw [setRow_out l _ _ (by omega)]
      simp only [Nat.add_zero, List.getD_cons_zero]
      rw [Array.getElem?_setIfInBounds_self_of_lt (by omega)]
    | succ j =>
      rw [show o + (j + 1) = o + 1 + j by omega, setRow_in l _ _ (by omega) (by simp; omega)]
      rfl
/-- no byte stands in it -/
def NB (cur : Array Value) : Prop := ∀ (k : Nat) (z : Int), cur[k]? ≠ some (.int .u8 z)
theorem NB.set {cur : Array Value} (h : NB cur) (i : Nat) {y : Value} (hy : ∀ z, y ≠ .int .u8 z) : NB (cur.setIfInBounds i y) := by
  intro k z hk
  rw [Array.getElem?_setIfInBounds] at hk
  split at hk
  · split at hk
    · exact hy z (Option.some.inj hk)
    · cases hk
  · exact h k z hk
theorem NB.row : ∀ {l : List Int} {cur : Array Value} {o : Nat}, NB cur → NB (setRow cur o l)
  | [], _, _, h => h
  | y :: l, cur, o, h => by
    show NB (setRow (cur.setIfInBounds o (.int .i64 y)) (o + 1) l)
    exact NB.row (h.set o (fun z h => by cases h))
/-- a store into a row that holds no bytes -/
theorem RD.setg {w : World} {rb g : Nat} {xs : List Int} {er : Int} (h : RD w rb xs er) {cur : Array Value} {t : TypeId} (hg : w.heap[g]? = some (.cells cur t (0, 0))) (nb : NB cur) (hne : rb ≠ g) (i : Nat) (y : Value) : RD (w.setCell ⟨g, i, none⟩ y) rb xs er := by
  obtain ⟨v, h1, h2, h3⟩ := h
  refine ⟨v, (heap_set_other hne).trans h1, h2.cells fun p z hp => ?_, h3⟩
  refine (World.cell?_of_block ?_).trans hp
  refine heap_set_other (fun hb' => ?_)
  obtain ⟨b', o, f⟩ := p
  simp only at hb'
  subst hb'
  simp only [World.cell?, hg] at hp
  split at hp
  · cases hp
  · exact nb _ _ hp

/-- what readRow does: the numbers stand in the block g from o on -/
def RrP (rb g : Nat) (T : TypeId) (cur : Array Value) (o m : Nat) (s : St) (w : World) (e : Ending) (w' : World) : Prop :=
  e = .returned (.tuple #[]) ∧ RD w' rb (rowN m s).2.1 (rowN m s).2.2 ∧ w'.heap[g]? = some (.cells (setRow cur o (rowN m s).1) T (0, 0)) ∧ Only (fun b => b = rb ∨ b = g) w w'
set_option maxHeartbeats 1000000 in
theorem readRow_any {w : World} {rb g q o m : Nat} {T : TypeId} {cur : Array Value} {xs : List Int} {er : Int} (hr : RD w rb xs er) (hg : w.heap[g]? = some (.cells cur T (0, 0))) (nb : NB cur)
    (hq : ∀ j, j < m → w.cell? ⟨q, j, none⟩ = some (.pointer (some ⟨g, o + j, none⟩))) (hom : o + m ≤ cur.size) (hm : m ≤ 100) (d1 : g ≠ rb) (d2 : q ≠ rb) (d3 : q ≠ g) :
    Calls Try.prog 55 #[.pointer (some ⟨rb, 0, none⟩), .slice (some ⟨q, 0, none⟩) m m] w (RrP rb g T cur o m (xs, er) w) := by
  have HR := Lib.hid hr; have HG := Lib.hid hg; have HQ := Lib.hid hq; have HNB := Lib.hid nb; have HO := Lib.hid hom
  clear hr hg hq nb hom
  obtain ⟨s, hs⟩ : ∃ s : St, s = (xs, er) := ⟨_, rfl⟩
  have HR0 : Hid (RD w rb (rowN 0 s).2.1 (rowN 0 s).2.2) := by rw [hs]; exact HR.out
  rw [← hs]
  clear HR hs
  go_enter Try.func55, Try.ntmps55
  go_wp2_with fail
  go_loopw [8] (fun i wr => ∃ k : Nat, k ≤ m ∧ i = .int .i64 k ∧ Hid (RD wr rb (rowN k s).2.1 (rowN k s).2.2) ∧ Hid (wr.heap[g]? = some (.cells (setRow cur o (rowN k s).1) T (0, 0))) ∧ Hid (Only (fun b => b = rb ∨ b = g) w wr)) (fun i _ => m - (intOf i).toNat)
  case atStart => exact ⟨0, by omega, rfl, HR0, HG, Only.refl _ _⟩
  case round =>
    obtain ⟨k, hk, rfl, HR, HGk, HW⟩ := hrel
    by_cases hkm : k < m
    · have hc0 := HQ.out k hkm
      have hc := (HW.out.cell (lt_of_cell hc0) (by rintro (h | h) <;> simp only at h <;> omega)).trans hc0
      have HN := num_any HR.out 9007199254740991
      have HS : Hid (rowN (k + 1) s = ((rowN k s).1 ++ [(rd MX (rowN k s).2).1], (rd MX (rowN k s).2).2)) := rowN_snoc k s
      have HL : Hid ((rowN k s).1.length = k) := rowN_length k s
      have hrd : rdN (rowN k s).2.1 (rowN k s).2.2 9007199254740991 = rd MX (rowN k s).2 := rfl
      rw [hrd] at HN
      obtain ⟨r, hr⟩ : ∃ r, r = rd MX (rowN k s).2 := ⟨_, rfl⟩
      rw [← hr] at HN HS
      obtain ⟨l, hl⟩ : ∃ l, l = (rowN k s).1 := ⟨_, rfl⟩
      rw [← hl] at HS HL HGk
      have HNN := Lib.hid HN
      clear hr hl hrd hc0 HN HR
      go_wp2_with fail
      refine HNN.out.mono ?_
      rintro e w1 ⟨rfl, hr1, ho1⟩
      have hg1 : w1.heap[g]? = some (.cells (setRow cur o l) T (0, 0)) := (ho1.block g (Array.getElem?_eq_some_iff.1 HGk.out).1 d1).trans HGk.out
      have hsz : o + k < (setRow cur o l).size := by rw [setRow_size]; have := HO.out; omega
      have f1 : w1.frozen? ⟨g, o + k, none⟩ = false := frozen_of_row w1 g (o + k) _ T hg1
      obtain ⟨z, c1⟩ : ∃ z, w1.cell? ⟨g, o + k, none⟩ = some z := ⟨(setRow cur o l)[o + k], by rw [cell_of_row w1 g (o + k) _ T _ hg1]; exact Array.getElem?_eq_getElem hsz⟩
      have HR1 : Hid (RD (w1.setCell ⟨g, o + k, none⟩ (.int .i64 r.1)) rb (rowN (k + 1) s).2.1 (rowN (k + 1) s).2.2) := by rw [HS.out]; exact hr1.setg hg1 HNB.out.row (Ne.symm d1) _ _
      have HG1 : Hid ((w1.setCell ⟨g, o + k, none⟩ (.int .i64 r.1)).heap[g]? = some (.cells (setRow cur o (rowN (k + 1) s).1) T (0, 0))) := by
        unfold Hid
        rw [heap_set_same hg1, HS.out, setRow_snoc, HL.out]
      have HW1 : Hid (Only (fun b => b = rb ∨ b = g) w (w1.setCell ⟨g, o + k, none⟩ (.int .i64 r.1))) := (HW.out.trans (ho1.mono fun j _ h => Or.inl h)).setCell (Or.inl (Or.inr rfl)) _
      clear hr1 ho1 hg1 HNN hsz HGk
      go_wp2_with fail
      go_roundw
      case rel => exact ⟨k + 1, by omega, by go_num, HR1, HG1, HW1⟩
      case measure => simp [intOf]; omega
    · have e : k = m := by omega
      subst e
      go_wp2_with fail
      go_returns
      exact ⟨rfl, HR.out, HGk.out, HW.out⟩
end Go.Proofs.Ythbhkcofhhkcoaa
