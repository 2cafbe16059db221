/- Numbers and texts as bytes, plainly: what is written, what is read. -/
import Derived.Test.YthbhkcofhhkcoaaRows
import Derived.WalkKit
import Derived.WalkSpells
namespace Go.Proofs.Ythbhkcofhhkcoaa.Pk
set_option linter.unusedVariables false

/-- bytes -/
def Bys (xs : List Int) : Prop := ∀ x ∈ xs, 0 ≤ x ∧ x < 256
theorem Bys.nil : Bys [] := fun x h => by cases h
theorem Bys.cons {x : Int} {xs : List Int} (h : 0 ≤ x ∧ x < 256) (k : Bys xs) : Bys (x :: xs) := fun y hy => by
  rcases List.mem_cons.1 hy with rfl | hy
  · exact h
  · exact k y hy
theorem Bys.append {xs ys : List Int} (h : Bys xs) (k : Bys ys) : Bys (xs ++ ys) := fun y hy => by
  rcases List.mem_append.1 hy with hy | hy
  · exact h y hy
  · exact k y hy
theorem Bys.take {xs : List Int} (h : Bys xs) (n : Nat) : Bys (xs.take n) := fun y hy => h y (List.mem_of_mem_take hy)
theorem Bys.drop {xs : List Int} (h : Bys xs) (n : Nat) : Bys (xs.drop n) := fun y hy => h y (List.mem_of_mem_drop hy)
theorem Bys.getD {xs : List Int} (h : Bys xs) (i : Nat) : 0 ≤ xs.getD i 0 ∧ xs.getD i 0 < 256 := by
  by_cases hib : i < xs.length
  · have : xs.getD i 0 = xs[i] := by simp [List.getD, List.getElem?_eq_getElem hib]
    rw [this]; exact h _ (List.getElem_mem hib)
  · have : xs.getD i 0 = 0 := by simp [List.getD, List.getElem?_eq_none (Nat.le_of_not_lt hib)]
    rw [this]; decide

/-- the value of bytes, the highest first -/
def val (xs : List Int) : Int := xs.foldl (fun a x => a * 256 + x) 0
theorem val_nil : val [] = 0 := rfl
theorem val_snoc (xs : List Int) (x : Int) : val (xs ++ [x]) = val xs * 256 + x := by simp [val]
/-- the first j of the eight bytes of v -/
def hib (v : Int) : Nat → List Int
  | 0 => []
  | j + 1 => hib v j ++ [v / 256 ^ (7 - j) % 256]
theorem hib_length (v : Int) (j : Nat) : (hib v j).length = j := by
  induction j with
  | zero => rfl
  | succ j ih => simp [hib, ih]
theorem hib_bys (v : Int) (j : Nat) : Bys (hib v j) := by
  induction j with
  | zero => exact Bys.nil
  | succ j ih => exact ih.append (Bys.cons (by omega) Bys.nil)
theorem val_hib (v : Int) (h0 : 0 ≤ v) (h1 : v < 256 ^ 8) (j : Nat) (hj : j ≤ 8) : val (hib v j) = v / 256 ^ (8 - j) := by
  induction j with
  | zero => simp only [hib, val_nil]; exact (Int.ediv_eq_zero_of_lt h0 (by simpa using h1)).symm
  | succ j ih =>
    rw [hib, val_snoc, ih (by omega)]
    have e : (256 : Int) ^ (8 - j) = 256 ^ (7 - j) * 256 := by
      have : 8 - j = (7 - j) + 1 := by omega
      rw [this, Int.pow_succ]
    have e2 : 8 - (j + 1) = 7 - j := by omega
    rw [e, e2, ← Int.ediv_ediv_of_nonneg (by exact Int.le_of_lt (Int.pow_pos (by decide)))]
    omega
theorem val_eight (v : Int) (h0 : 0 ≤ v) (h1 : v < 256 ^ 8) : val (hib v 8) = v := by
  rw [val_hib v h0 h1 8 (Nat.le_refl _)]; simp
theorem list_snoc {xs : List Int} {n : Nat} (h : xs.length = n + 1) : ∃ ys y, xs = ys ++ [y] ∧ ys.length = n := by
  refine ⟨xs.dropLast, xs.getLast (by intro e; simp [e] at h), (List.dropLast_concat_getLast _).symm, by simp [h]⟩
theorem val_inj (n : Nat) : ∀ {xs ys : List Int}, xs.length = n → ys.length = n → Bys xs → Bys ys → val xs = val ys → xs = ys := by
  induction n with
  | zero => intro xs ys h1 h2 _ _ _; rw [List.eq_nil_of_length_eq_zero h1, List.eq_nil_of_length_eq_zero h2]
  | succ n ih =>
    intro xs ys h1 h2 b1 b2 hv
    obtain ⟨xs, x, rfl, l1⟩ := list_snoc h1
    obtain ⟨ys, y, rfl, l2⟩ := list_snoc h2
    rw [val_snoc, val_snoc] at hv
    have hx := b1 x (by simp)
    have hy := b2 y (by simp)
    have e : x = y := by omega
    subst e
    rw [ih l1 l2 (fun z hz => b1 z (by simp [hz])) (fun z hz => b2 z (by simp [hz])) (by omega)]
theorem val_range {xs : List Int} : ∀ {n : Nat}, xs.length = n → Bys xs → 0 ≤ val xs ∧ val xs < 256 ^ n := by
  intro n
  induction n generalizing xs with
  | zero => intro h _; rw [List.eq_nil_of_length_eq_zero h]; decide
  | succ n ih =>
    intro h b
    obtain ⟨ys, y, rfl, l⟩ := list_snoc h
    have hy := b y (by simp)
    have := ih l (fun z hz => b z (by simp [hz]))
    rw [val_snoc, Int.pow_succ]
    omega
theorem hib_val {xs : List Int} (h : xs.length = 8) (b : Bys xs) : hib (val xs) 8 = xs := by
  have r := val_range h b
  exact val_inj 8 (hib_length _ _) h (hib_bys _ _) b (val_eight _ r.1 r.2)

/-- a number's bytes -/
def num (n : Int) : List Int := if n < 255 then [n] else 255 :: hib (n - 254) 8
def isN (n : Int) : Bool := decide (0 ≤ n) && decide (n ≤ 9007199254740991)
/-- the bytes of numbers -/
def nums : List Int → List Int
  | [] => []
  | n :: l => num n ++ nums l
theorem nums_snoc (l : List Int) (n : Int) : nums (l ++ [n]) = nums l ++ num n := by
  induction l with
  | nil => simp [nums]
  | cons x l ih => simp [nums, ih]
theorem num_length (n : Int) : (num n).length = if n < 255 then 1 else 9 := by
  unfold num; split
  · rfl
  · simp [hib_length]
theorem num_bounds (n : Int) : 1 ≤ (num n).length ∧ (num n).length ≤ 9 := by rw [num_length]; split <;> omega
theorem nums_length (l : List Int) : (nums l).length ≤ 9 * l.length := by
  induction l with
  | nil => simp [nums]
  | cons x l ih => have := num_bounds x; simp only [nums, List.length_append, List.length_cons]; omega
theorem isN_yes {n : Int} (h : isN n = true) : 0 ≤ n ∧ n ≤ 9007199254740991 := by simpa [isN] using h
theorem num_bys {n : Int} (h : 0 ≤ n) : Bys (num n) := by
  unfold num; split
  · exact Bys.cons (by omega) Bys.nil
  · exact Bys.cons (by omega) (hib_bys _ _)

/-- what is read first of bytes: the number, what is left, the error -/
def cutAny : List Int → Int × List Int × Int
  | [] => (0, [], 3)
  | x :: t => if x < 255 then (x, t, 0) else if t.length < 8 then (0, [], 3) else
    if val (t.take 8) = 0 ∨ val (t.take 8) > 9007199254740737 then (0, [], 4) else (254 + val (t.take 8), t.drop 8, 0)
def cutN (xs : List Int) (most : Int) : Int × List Int × Int :=
  if (cutAny xs).2.2 ≠ 0 then (0, [], (cutAny xs).2.2) else if (cutAny xs).1 > most then (0, [], 5) else ((cutAny xs).1, (cutAny xs).2.1, 0)
def cutT (xs : List Int) (most : Int) : List Int × List Int × Int :=
  if (cutN xs most).2.2 ≠ 0 then ([], [], (cutN xs most).2.2) else if (cutN xs most).1 > (cutN xs most).2.1.length then ([], [], 3) else
    ((cutN xs most).2.1.take (cutN xs most).1.toNat, (cutN xs most).2.1.drop (cutN xs most).1.toNat, 0)
/-- what a reader reads -/
def rdN (xs : List Int) (e most : Int) : Int × List Int × Int := if e ≠ 0 then (0, xs, e) else cutN xs most
def rdT (xs : List Int) (e most : Int) : List Int × List Int × Int := if e ≠ 0 then ([], xs, e) else cutT xs most

/-- what was put is read as it was -/
theorem cutAny_num {n : Int} (h : isN n = true) (t : List Int) : cutAny (num n ++ t) = (n, t, 0) := by
  obtain ⟨h0, h1⟩ := isN_yes h
  unfold num
  split
  · rename_i hl
    simp [cutAny, hl]
  · rename_i hl
    simp only [List.cons_append, cutAny]
    have ht : (hib (n - 254) 8 ++ t).take 8 = hib (n - 254) 8 := by
      rw [List.take_append_of_le_length (by rw [hib_length]; exact Nat.le_refl _), List.take_of_length_le (by rw [hib_length]; exact Nat.le_refl _)]
    have hd : (hib (n - 254) 8 ++ t).drop 8 = t := by
      have := List.drop_left (l₁ := hib (n - 254) 8) (l₂ := t)
      rwa [hib_length] at this
    have hv : val (hib (n - 254) 8) = n - 254 := val_eight _ (by omega) (by omega)
    rw [if_neg (by omega), if_neg (by simp [hib_length]), ht, hd, hv, if_neg (by omega)]
    simp only [Prod.mk.injEq, and_true]
    omega
theorem cutN_num {n : Int} (h : isN n = true) (t : List Int) {most : Int} (hm : n ≤ most) : cutN (num n ++ t) most = (n, t, 0) := by
  unfold cutN
  rw [cutAny_num h]
  simp only
  rw [if_neg (by decide), if_neg (by omega)]
theorem cutT_text {n : Int} {s : List Int} (hn : n = s.length) (h : isN n = true) (t : List Int) {most : Int} (hm : n ≤ most) : cutT (num n ++ (s ++ t)) most = (s, t, 0) := by
  unfold cutT
  rw [cutN_num h _ hm]
  simp only
  rw [if_neg (by decide), if_neg (by rw [List.length_append]; omega)]
  subst hn
  simp
/-- what can be read is written so -/
theorem num_cutAny {xs : List Int} (b : Bys xs) (h : (cutAny xs).2.2 = 0) : xs = num (cutAny xs).1 ++ (cutAny xs).2.1 ∧ isN (cutAny xs).1 = true := by
  cases xs with
  | nil => simp [cutAny] at h
  | cons x t =>
    have hx := b x (by simp)
    unfold cutAny at h ⊢
    by_cases h1 : x < 255
    · simp only [if_pos h1] at h ⊢
      unfold num
      rw [if_pos h1]
      refine ⟨rfl, ?_⟩
      unfold isN; simp; omega
    · simp only [if_neg h1] at h ⊢
      by_cases h2 : t.length < 8
      · simp [if_pos h2] at h
      · simp only [if_neg h2] at h ⊢
        by_cases h3 : val (t.take 8) = 0 ∨ val (t.take 8) > 9007199254740737
        · simp [if_pos h3] at h
        · simp only [if_neg h3] at h ⊢
          have l8 : (t.take 8).length = 8 := by rw [List.length_take]; omega
          have b8 : Bys (t.take 8) := (show Bys t from fun y hy => b y (by simp [hy])).take 8
          have r := val_range l8 b8
          refine ⟨?_, ?_⟩
          · unfold num
            rw [if_neg (by omega)]
            have e : 254 + val (t.take 8) - 254 = val (t.take 8) := by omega
            rw [e, hib_val l8 b8, List.cons_append, List.take_append_drop]
            have : x = 255 := by omega
            rw [this]
          · unfold isN; simp; omega
theorem cutAny_err (xs : List Int) : (cutAny xs).2.2 = 0 ∨ ((cutAny xs).1 = 0 ∧ (cutAny xs).2.1 = [] ∧ ((cutAny xs).2.2 = 3 ∨ (cutAny xs).2.2 = 4)) := by
  cases xs with
  | nil => exact Or.inr ⟨rfl, rfl, Or.inl rfl⟩
  | cons x t =>
    unfold cutAny
    by_cases h1 : x < 255
    · simp [if_pos h1]
    · simp only [if_neg h1]
      by_cases h2 : t.length < 8
      · simp [if_pos h2]
      · simp only [if_neg h2]
        by_cases h3 : val (t.take 8) = 0 ∨ val (t.take 8) > 9007199254740737
        · simp [if_pos h3]
        · simp [if_neg h3]
/-- bytes of a number that are cut -/
theorem cutAny_cut {n : Int} (h : isN n = true) {k : Nat} (hk : k < (num n).length) : cutAny ((num n).take k) = (0, [], 3) := by
  obtain ⟨h0, h1⟩ := isN_yes h
  unfold num at hk ⊢
  split at hk
  · rename_i hl
    rw [if_pos hl]
    obtain rfl : k = 0 := by simpa using hk
    rfl
  · rename_i hl
    rw [if_neg hl]
    cases k with
    | zero => rfl
    | succ k =>
      rw [List.take_succ_cons]
      unfold cutAny
      simp only [List.length_cons, hib_length] at hk
      simp only
      rw [if_neg (by omega), if_pos (by rw [List.length_take, hib_length]; omega)]
theorem cutN_cut {n : Int} (h : isN n = true) {k : Nat} (hk : k < (num n).length) (most : Int) : cutN ((num n).take k) most = (0, [], 3) := by
  unfold cutN; rw [cutAny_cut h hk]; rfl
/-- bytes of a text that are cut -/
theorem cutT_cut {n : Int} {s : List Int} (hn : n = s.length) (h : isN n = true) {k : Nat} (hk : k < (num n ++ s).length) {most : Int} (hm : n ≤ most) : cutT ((num n ++ s).take k) most = ([], [], 3) := by
  by_cases hc : k < (num n).length
  · unfold cutT
    rw [List.take_append_of_le_length (Nat.le_of_lt hc), cutN_cut h hc]
    rfl
  · unfold cutT
    have e : (num n ++ s).take k = num n ++ s.take (k - (num n).length) := by
      rw [List.take_append, List.take_of_length_le (by omega)]
    rw [e, cutN_num h _ hm]
    simp only
    rw [List.length_append] at hk
    rw [if_neg (by decide), if_pos (by rw [List.length_take]; omega)]

/-- numbers brought to a range -/
def bring (i n : Int) : Int := if i.tmod n < 0 then i.tmod n + n else i.tmod n
theorem bring_range {i n : Int} (h : 0 < n) : 0 ≤ bring i n ∧ bring i n < n := by
  unfold bring
  have h1 := Int.tmod_lt_of_pos i h
  by_cases h0 : 0 ≤ i
  · have := Int.tmod_nonneg n h0
    split <;> omega
  · have e : i.tmod n = -((-i).tmod n) := by rw [Int.neg_tmod]; omega
    have h2 := Int.tmod_lt_of_pos (-i) h
    have h3 := Int.tmod_nonneg n (show 0 ≤ -i by omega)
    split <;> omega
/-- any number, of every length -/
def number (n : Int) : Int := if n.tmod 3 = 0 then bring (n.tdiv 3) 600 else bring n 9007199254740992
theorem number_is (n : Int) : isN (number n) = true := by
  unfold number isN
  have h1 := bring_range (i := n.tdiv 3) (n := 600) (by decide)
  have h2 := bring_range (i := n) (n := 9007199254740992) (by decide)
  split <;> simp <;> omega

end Go.Proofs.Ythbhkcofhhkcoaa.Pk
