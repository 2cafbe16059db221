/- Plans, plainly: who runs, tick by tick. Nothing of the program is imported. -/
namespace Go.Proofs.Ytfjeoefnpcgnnaa.Tu
set_option linter.unusedVariables false

/-- does a period of a server begin? -/
def rel (P b t : Nat) : Prop := b ≤ t ∧ (t - b) % P = 0
instance (P b t : Nat) : Decidable (rel P b t) := by unfold rel; infer_instance
/-- who runs, of the first: the one with something left whose period ends first, the first one of several; -1: nobody -/
def near (l e : Nat → Nat) : Nat → Int
  | 0 => -1
  | i + 1 => if 0 < l i ∧ (near l e i < 0 ∨ e i < e (near l e i).toNat) then (i : Int) else near l e i
/-- what is left, and when periods end, behind the beginning of a tick -/
def tl (n : Nat) (P B b : Nat → Nat) (t : Nat) (l : Nat → Nat) : Nat → Nat := fun i => if i < n ∧ rel (P i) (b i) t then B i else l i
def te (n : Nat) (P b : Nat → Nat) (t : Nat) (e : Nat → Nat) : Nat → Nat := fun i => if i < n ∧ rel (P i) (b i) t then t + P i else e i
/-- how servers stand ahead of a tick -/
def st (n : Nat) (P B b : Nat → Nat) : Nat → (Nat → Nat) × (Nat → Nat)
  | 0 => (fun _ => 0, fun _ => 0)
  | t + 1 => (fun i => if (i : Int) = near (tl n P B b t (st n P B b t).1) (te n P b t (st n P B b t).2) n then tl n P B b t (st n P B b t).1 i - 1 else tl n P B b t (st n P B b t).1 i, te n P b t (st n P B b t).2)
section
variable (n : Nat) (P B b : Nat → Nat) (t : Nat)
def L : Nat → Nat := (st n P B b t).1
def E : Nat → Nat := (st n P B b t).2
def L1 : Nat → Nat := tl n P B b t (L n P B b t)
def E1 : Nat → Nat := te n P b t (E n P B b t)
/-- a plan's tick -/
def pl : Int := near (L1 n P B b t) (E1 n P B b t) n
theorem L_zero (i : Nat) : L n P B b 0 i = 0 := rfl
theorem L_next (i : Nat) : L n P B b (t + 1) i = if (i : Int) = pl n P B b t then L1 n P B b t i - 1 else L1 n P B b t i := rfl
theorem E_next : E n P B b (t + 1) = E1 n P B b t := rfl
end
theorem near_cases (l e : Nat → Nat) : ∀ n, (near l e n = -1 ∧ ∀ j, j < n → l j = 0) ∨ ∃ m : Nat, near l e n = m ∧ m < n ∧ 0 < l m ∧ ∀ j, j < n → 0 < l j → e m ≤ e j
  | 0 => Or.inl ⟨rfl, fun j hj => by omega⟩
  | i + 1 => by
    unfold near
    rcases near_cases l e i with ⟨h, h0⟩ | ⟨m, h, h1, h2, h3⟩
    · by_cases hl : 0 < l i
      · rw [if_pos ⟨hl, Or.inl (by omega)⟩]
        refine Or.inr ⟨i, rfl, by omega, hl, fun j hj hlj => ?_⟩
        by_cases hji : j = i
        · rw [hji]; exact Nat.le_refl _
        · have := h0 j (by omega); omega
      · rw [if_neg (fun x => hl x.1)]
        refine Or.inl ⟨h, fun j hj => ?_⟩
        by_cases hji : j = i
        · rw [hji]; omega
        · exact h0 j (by omega)
    · rw [h]
      by_cases hl : 0 < l i ∧ e i < e m
      · rw [if_pos ⟨hl.1, Or.inr (by simpa using hl.2)⟩]
        refine Or.inr ⟨i, rfl, by omega, hl.1, fun j hj hlj => ?_⟩
        by_cases hji : j = i
        · rw [hji]; exact Nat.le_refl _
        · have := h3 j (by omega) hlj; omega
      · rw [if_neg (by rintro ⟨x, y | y⟩; · omega
                       · exact hl ⟨x, by simpa using y⟩)]
        refine Or.inr ⟨m, rfl, by omega, h2, fun j hj hlj => ?_⟩
        by_cases hji : j = i
        · rw [hji] at hlj ⊢
          have : ¬ e i < e m := fun x => hl ⟨hlj, x⟩
          omega
        · exact h3 j (by omega) hlj
/-- the first one of several -/
theorem near_first (l e : Nat → Nat) : ∀ {n m : Nat}, near l e n = m → ∀ j, j < m → 0 < l j → e m < e j
  | 0, m, h, j, _, _ => by have : near l e 0 = -1 := rfl; omega
  | i + 1, m, h, j, hj, hl => by
    unfold near at h
    split at h
    · rename_i hc
      obtain rfl : i = m := by omega
      rcases near_cases l e i with ⟨z, z0⟩ | ⟨k, z, z1, z2, z3⟩
      · have := z0 j hj; omega
      · rcases hc.2 with y | y
        · omega
        · rw [z, Int.toNat_natCast] at y
          have := z3 j hj hl; omega
    · exact near_first l e h j hj hl
theorem near_congr {l l' e e' : Nat → Nat} : ∀ {n : Nat}, (∀ i, i < n → l i = l' i ∧ e i = e' i) → near l e n = near l' e' n
  | 0, _ => rfl
  | i + 1, h => by
    have h1 := near_congr (n := i) fun j hj => h j (by omega)
    obtain ⟨h2, h3⟩ := h i (by omega)
    unfold near
    rw [h1, h2, h3]
    rcases near_cases l' e' i with ⟨q, _⟩ | ⟨m, q, q1, _, _⟩
    · rw [q]; simp
    · rw [q]
      have := (h m (by omega)).2
      simp [this]
section
variable {n : Nat} {P B b : Nat → Nat} {t i : Nat}
theorem pl_cases : (pl n P B b t = -1 ∧ ∀ j, j < n → L1 n P B b t j = 0) ∨ ∃ m : Nat, pl n P B b t = m ∧ m < n ∧ 0 < L1 n P B b t m ∧ ∀ j, j < n → 0 < L1 n P B b t j → E1 n P B b t m ≤ E1 n P B b t j := near_cases _ _ n
theorem pl_range (hn : n ≤ 4) : -1 ≤ pl n P B b t ∧ pl n P B b t < 4 := by
  rcases pl_cases (n := n) (P := P) (B := B) (b := b) (t := t) with ⟨h, _⟩ | ⟨m, h, h1, _⟩ <;> omega
theorem L1_rel (hi : i < n) (h : rel (P i) (b i) t) : L1 n P B b t i = B i ∧ E1 n P B b t i = t + P i := ⟨if_pos ⟨hi, h⟩, if_pos ⟨hi, h⟩⟩
theorem L1_not (h : ¬ rel (P i) (b i) t) : L1 n P B b t i = L n P B b t i ∧ E1 n P B b t i = E n P B b t i := ⟨if_neg fun x => h x.2, if_neg fun x => h x.2⟩
/-- ahead of its beginning a server has nothing -/
theorem L_ahead : ∀ {t : Nat}, t ≤ b i → L n P B b t i = 0
  | 0, _ => rfl
  | t + 1, h => by
    have h0 := L_ahead (t := t) (by omega)
    have h1 : L1 n P B b t i = 0 := by rw [(L1_not (by rintro ⟨x, _⟩; omega)).1, h0]
    rw [L_next, h1]; split <;> rfl
theorem L1_ahead (h : t < b i) : L1 n P B b t i = 0 := by rw [(L1_not (by rintro ⟨x, _⟩; omega)).1, L_ahead (by omega)]
theorem L_le : ∀ {t : Nat}, L n P B b t i ≤ B i
  | 0 => Nat.zero_le _
  | t + 1 => by
    have h1 : L1 n P B b t i ≤ B i := by
      unfold L1 tl; split
      · exact Nat.le_refl _
      · exact L_le
    rw [L_next]; split <;> omega
theorem L1_le : L1 n P B b t i ≤ B i := by
  unfold L1 tl; split
  · exact Nat.le_refl _
  · exact L_le
/-- the end of the period that it is in -/
theorem E_at (hi : i < n) (hP : 1 ≤ P i) : ∀ {t : Nat}, b i < t → ∃ q, E n P B b t i = b i + (q + 1) * P i ∧ t ≤ b i + (q + 1) * P i ∧ b i + q * P i < t
  | 0, h => by omega
  | t + 1, h => by
    rw [E_next]
    by_cases hr : rel (P i) (b i) t
    · rw [(L1_rel (B := B) hi hr).2]
      obtain ⟨h1, h2⟩ := hr
      obtain ⟨q, hq⟩ := Nat.dvd_of_mod_eq_zero h2
      have hq' : t = b i + q * P i := by rw [Nat.mul_comm] at hq; omega
      refine ⟨q, ?_, ?_, ?_⟩
      · rw [Nat.add_mul, Nat.one_mul]; omega
      · rw [Nat.add_mul, Nat.one_mul]; omega
      · omega
    · rw [(L1_not (B := B) hr).2]
      have hb : b i < t := by
        rcases Nat.lt_or_ge (b i) t with x | x
        · exact x
        · exfalso; apply hr; refine ⟨by omega, ?_⟩
          rw [show t - b i = 0 by omega, Nat.zero_mod]
      obtain ⟨q, h1, h2, h3⟩ := E_at hi hP (t := t) hb
      refine ⟨q, h1, ?_, by omega⟩
      rcases Nat.lt_or_ge t (b i + (q + 1) * P i) with x | x
      · omega
      · exfalso; apply hr; refine ⟨by omega, ?_⟩
        rw [show t - b i = (q + 1) * P i by omega, Nat.mul_mod_left]
/-- its period ends just when the next one begins -/
theorem rel_iff (hi : i < n) (hP : 1 ≤ P i) (hb : b i < t) : (rel (P i) (b i) t ↔ E n P B b t i = t) ∧ t ≤ E n P B b t i := by
  obtain ⟨q, h1, h2, h3⟩ := E_at (B := B) hi hP hb
  refine ⟨⟨fun hr => ?_, fun he => ⟨by omega, by rw [show t - b i = (q + 1) * P i by omega, Nat.mul_mod_left]⟩⟩, by omega⟩
  obtain ⟨r, hr'⟩ := Nat.dvd_of_mod_eq_zero hr.2
  have hr2 : t = b i + r * P i := by have := hr.1; rw [Nat.mul_comm] at hr'; omega
  have a1 : q * P i < r * P i := by omega
  have a2 : r * P i ≤ (q + 1) * P i := by omega
  have b1 : q < r := Nat.lt_of_mul_lt_mul_right a1
  have b2 : r ≤ q + 1 := Nat.le_of_mul_le_mul_right a2 (by omega)
  have : r = q + 1 := by omega
  rw [h1, hr2, this]
theorem rel_self (P b : Nat) : rel P b b := ⟨Nat.le_refl _, by rw [Nat.sub_self, Nat.zero_mod]⟩
/-- a period ends a Period on, at most -/
theorem E1_le (hi : i < n) (hP : 1 ≤ P i) (hb : b i ≤ t) : t < E1 n P B b t i ∧ E1 n P B b t i ≤ t + P i := by
  by_cases hr : rel (P i) (b i) t
  · rw [(L1_rel (B := B) hi hr).2]; omega
  · have hb' : b i < t := by
      rcases Nat.lt_or_ge (b i) t with x | x
      · exact x
      · exfalso; apply hr; rw [show t = b i by omega]; exact rel_self _ _
    rw [(L1_not (B := B) hr).2]
    obtain ⟨q, h1, h2, h3⟩ := E_at (B := B) hi hP hb'
    obtain ⟨x1, x2⟩ := rel_iff (n := n) (B := B) hi hP hb'
    have x3 : E n P B b t i ≠ t := fun x => hr (x1.2 x)
    rw [Nat.add_mul, Nat.one_mul] at h1
    omega
end
/-- one more server, whose period ends behind all of theirs: the others' plan is as it was -/
theorem apart {n : Nat} {P B b P' B' b' : Nat → Nat} {T : Nat} (hs : ∀ i, i < n → P i = P' i ∧ B i = B' i ∧ b i = b' i) (hP : ∀ i, i < n → 1 ≤ P i) (hb : ∀ i, i < n → b i = 0) (hn : b' n = 0) (hn1 : 1 ≤ P' n) (hT : ∀ i, i < n → T + P i < P' n + 1) (hT2 : T < P' n) :
    ∀ {t : Nat}, t ≤ T → (∀ i, i < n → L n P B b t i = L (n + 1) P' B' b' t i ∧ E n P B b t i = E (n + 1) P' B' b' t i) ∧ (t < T → ((pl n P B b t = -1 → pl (n + 1) P' B' b' t = -1 ∨ pl (n + 1) P' B' b' t = n) ∧ (0 ≤ pl n P B b t → pl (n + 1) P' B' b' t = pl n P B b t))) := by
  have step : ∀ {t : Nat}, t < T → (∀ i, i < n → L n P B b t i = L (n + 1) P' B' b' t i ∧ E n P B b t i = E (n + 1) P' B' b' t i) → (∀ i, i < n → L1 n P B b t i = L1 (n + 1) P' B' b' t i ∧ E1 n P B b t i = E1 (n + 1) P' B' b' t i) ∧ ((pl n P B b t = -1 → pl (n + 1) P' B' b' t = -1 ∨ pl (n + 1) P' B' b' t = n) ∧ (0 ≤ pl n P B b t → pl (n + 1) P' B' b' t = pl n P B b t)) := by
    intro t ht h
    have h1 : ∀ i, i < n → L1 n P B b t i = L1 (n + 1) P' B' b' t i ∧ E1 n P B b t i = E1 (n + 1) P' B' b' t i := by
      intro i hi
      obtain ⟨s1, s2, s3⟩ := hs i hi
      obtain ⟨l1, l2⟩ := h i hi
      by_cases hr : rel (P i) (b i) t
      · have hr' : rel (P' i) (b' i) t := by rw [← s1, ← s3]; exact hr
        rw [(L1_rel hi hr).1, (L1_rel (B := B) hi hr).2, (L1_rel (n := n + 1) (by omega) hr').1, (L1_rel (n := n + 1) (B := B') (by omega) hr').2, s1, s2]
        exact ⟨rfl, rfl⟩
      · have hr' : ¬ rel (P' i) (b' i) t := by rw [← s1, ← s3]; exact hr
        rw [(L1_not hr).1, (L1_not (B := B) hr).2, (L1_not hr').1, (L1_not (B := B') hr').2, l1, l2]
        exact ⟨rfl, rfl⟩
    refine ⟨h1, ?_⟩
    have hc : near (L1 (n + 1) P' B' b' t) (E1 (n + 1) P' B' b' t) n = pl n P B b t := (near_congr fun i hi => ⟨(h1 i hi).1.symm, (h1 i hi).2.symm⟩)
    have hu : pl (n + 1) P' B' b' t = if 0 < L1 (n + 1) P' B' b' t n ∧ (pl n P B b t < 0 ∨ E1 (n + 1) P' B' b' t n < E1 (n + 1) P' B' b' t (pl n P B b t).toNat) then (n : Int) else pl n P B b t := by
      rw [← hc]; rfl
    rw [hu]
    constructor
    · intro hq
      split
      · exact Or.inr rfl
      · exact Or.inl hq
    · intro hq
      rw [if_neg]
      rintro ⟨_, y | y⟩
      · omega
      · rcases pl_cases (n := n) (P := P) (B := B) (b := b) (t := t) with ⟨z, _⟩ | ⟨m, z, z1, _⟩
        · omega
        · rw [z, Int.toNat_natCast, ← (h1 m z1).2] at y
          have a1 := (E1_le (n := n) (B := B) z1 (hP m z1) (by rw [hb m z1]; omega : b m ≤ t)).2
          have a2 : P' n ≤ E1 (n + 1) P' B' b' t n := by
            obtain ⟨q, e1, _, _⟩ | e1 : (∃ q, E1 (n + 1) P' B' b' t n = b' n + (q + 1) * P' n ∧ True ∧ True) ∨ E1 (n + 1) P' B' b' t n = t + P' n := by
              by_cases hr : rel (P' n) (b' n) t
              · exact Or.inr (L1_rel (by omega) hr).2
              · have hb' : b' n < t := by
                  rcases Nat.lt_or_ge (b' n) t with x | x
                  · exact x
                  · exfalso; apply hr; rw [show t = b' n by omega]; exact rel_self _ _
                obtain ⟨q, e1, _, _⟩ := E_at (n := n + 1) (B := B') (b := b') (by omega) hn1 hb'
                exact Or.inl ⟨q, by rw [(L1_not (B := B') hr).2, e1], trivial, trivial⟩
            · rw [e1, Nat.add_mul, Nat.one_mul]; omega
            · omega
          have a3 := hT m z1
          omega
  have main : ∀ {t : Nat}, t ≤ T → (∀ i, i < n → L n P B b t i = L (n + 1) P' B' b' t i ∧ E n P B b t i = E (n + 1) P' B' b' t i) := by
    intro t
    induction t with
    | zero => exact fun _ i _ => ⟨rfl, rfl⟩
    | succ t ih =>
      intro ht i hi
      obtain ⟨s1, s2, s3⟩ := step (by omega) (ih (by omega))
      rw [E_next, E_next, L_next, L_next]
      refine ⟨?_, (s1 i hi).2⟩
      have hl := (s1 i hi).1
      rcases pl_cases (n := n) (P := P) (B := B) (b := b) (t := t) with ⟨z, _⟩ | ⟨m, z, z1, _⟩
      · rw [if_neg (by omega), hl]
        rcases s2 z with y | y
        · rw [if_neg (by omega)]
        · rw [if_neg (by omega)]
      · rw [s3 (by omega), hl]
  exact @fun t ht => ⟨main ht, fun ht' => (step ht' (main ht)).2⟩
/-- how often somebody runs, in a row of ticks -/
def cnt (f : Nat → Int) (i a : Nat) : Nat → Nat
  | 0 => 0
  | s + 1 => cnt f i a s + if f (a + s) = i then 1 else 0
end Go.Proofs.Ytfjeoefnpcgnnaa.Tu
