/- Servers that are played: each tick the one with budget left whose period ends first. Plainly. -/
import Derived.Test.YtlifkclgflfnlaaShaQ
namespace Go.Proofs.Ytlifkclgflfnlaa.Sh
open Go.Proofs.Ytlifkclgflfnlaa.De Go.Proofs.Ytlifkclgflfnlaa.Su Go.Proofs.Ytlifkclgflfnlaa.Dl Go.Proofs.Ytlifkclgflfnlaa.Ed Go.Proofs.Ytlifkclgflfnlaa.Lo
set_option linter.unusedVariables false

def upd (f : Nat → Nat) (k x : Nat) : Nat → Nat := fun i => if i = k then x else f i
theorem upd_at (f : Nat → Nat) (k x : Nat) : upd f k x k = x := if_pos rfl
theorem upd_ne (f : Nat → Nat) {k i : Nat} (x : Nat) (h : i ≠ k) : upd f k x i = f i := if_neg h
/-- so many beginnings of periods ahead of a tick -/
def cl (P t : Nat) : Nat := (t + P - 1) / P
theorem cl_rel {P t : Nat} (hP : 0 < P) (h : t % P = 0) : cl P t = t / P ∧ cl P (t + 1) = t / P + 1 := by
  obtain ⟨q, hq⟩ := Nat.dvd_of_mod_eq_zero h
  subst hq
  unfold cl
  rw [Nat.mul_div_cancel_left _ hP]
  constructor
  · rw [Nat.add_sub_assoc (by omega), Nat.mul_add_div hP, Nat.div_eq_of_lt (by omega), Nat.add_zero]
  · rw [show P * q + 1 + P - 1 = P * q + P * 1 by omega, ← Nat.mul_add, Nat.mul_div_cancel_left _ hP]
theorem cl_not {P t : Nat} (hP : 0 < P) (h : t % P ≠ 0) : cl P (t + 1) = cl P t := by
  have h1 := Nat.div_add_mod t P
  have h2 := Nat.mod_lt t hP
  generalize t / P = q at *
  generalize t % P = r at *
  subst h1
  unfold cl
  rw [show P * q + r + 1 + P - 1 = P * q + (P + r) by omega, show P * q + r + P - 1 = P * q + (P + (r - 1)) by omega, Nat.mul_add_div hP, Nat.mul_add_div hP, Nat.add_div_left _ hP, Nat.add_div_left _ hP, Nat.div_eq_of_lt h2, Nat.div_eq_of_lt (by omega)]
/-- the next beginning of a period, not ahead of a tick -/
def nxt (b P t : Nat) : Nat := if t ≤ b then b else b + cl P (t - b) * P
theorem nxt_rel {b P t : Nat} (hP : 0 < P) (hb : b ≤ t) (h : (t - b) % P = 0) : nxt b P t = t ∧ nxt b P (t + 1) = t + P := by
  obtain ⟨h1, h2⟩ := cl_rel hP h
  have h3 : (t - b) / P * P = t - b := Nat.div_mul_cancel (Nat.dvd_of_mod_eq_zero h)
  constructor
  · unfold nxt
    split
    · omega
    · rw [h1, h3]; omega
  · unfold nxt
    rw [if_neg (by omega), show t + 1 - b = (t - b) + 1 by omega, h2, Nat.add_mul, h3]
    omega
theorem nxt_not {b P t : Nat} (hP : 0 < P) (hb : b ≤ t) (h : (t - b) % P ≠ 0) : nxt b P (t + 1) = nxt b P t := by
  have hne : t ≠ b := fun e => by subst e; rw [Nat.sub_self, Nat.zero_mod] at h; exact h rfl
  unfold nxt
  rw [if_neg (by omega), if_neg (by omega), show t + 1 - b = (t - b) + 1 by omega, cl_not hP h]
theorem nxt_ahead {b P t : Nat} (hb : t < b) : nxt b P (t + 1) = nxt b P t := by
  unfold nxt
  rw [if_pos (by omega), if_pos (by omega)]
theorem ks_next {p : Pn} {run : Nat → Bool} {now : Nat} {left ends next next' : Nat → Nat} (h : KS p run now left ends next) (hn : ∀ i, i < p.n → next i = next' i) : KS p run now left ends next' := by
  obtain ⟨rels, hi, hs, hx⟩ := h
  exact ⟨rels, hi, hs, fun i hi' a ha => by rw [← hn i hi']; exact hx i hi' a ha⟩
/-- in a tick, the first j are looked at -/
def tj (j t i : Nat) : Nat := if i < j then t + 1 else t
theorem tj_ne {j t i : Nat} (h : i ≠ j) : tj (j + 1) t i = tj j t i := by
  unfold tj
  by_cases h1 : i < j
  · rw [if_pos h1, if_pos (by omega)]
  · rw [if_neg h1, if_neg (by omega)]
theorem tj_at (j t : Nat) : tj j t j = t ∧ tj (j + 1) t j = t + 1 := ⟨if_neg (by omega), if_pos (by omega)⟩
structure KM (n : Nat) (P B b : Nat → Nat) (t j : Nat) (l e : Nat → Nat) : Prop where
  ks : KS (srv n P B) alw t l e (fun i => nxt (b i) (P i) (tj j t i))
  en : ∀ i, i < n → 0 < l i → e i = nxt (b i) (P i) (tj j t i)
  nb : ∀ i, i < n → t < b i → l i = 0
  bd : ∀ i, i < n → l i ≤ 64 ∧ e i ≤ t + 64
theorem km_start (n : Nat) (P B b : Nat → Nat) : KM n P B b 0 0 (fun _ => 0) (fun _ => 0) :=
  ⟨ks_start _ _ fun _ _ => rfl, fun i _ h => absurd h (by decide), fun _ _ _ => rfl, fun _ _ => ⟨Nat.zero_le _, Nat.zero_le _⟩⟩
section
variable {n : Nat} {P B b : Nat → Nat} {t j : Nat} {l e : Nat → Nat}
theorem km_same (h : KM n P B b t j l e) (hs : nxt (b j) (P j) (t + 1) = nxt (b j) (P j) t) : KM n P B b t (j + 1) l e := by
  have key : ∀ i, nxt (b i) (P i) (tj j t i) = nxt (b i) (P i) (tj (j + 1) t i) := fun i => by
    by_cases hi : i = j
    · rw [hi, (tj_at j t).1, (tj_at j t).2, hs]
    · rw [tj_ne hi]
  exact ⟨ks_next h.ks fun i _ => key i, fun i hi hl => by rw [h.en i hi hl, key], h.nb, h.bd⟩
theorem km_rel (hP : ∀ i, i < n → 1 ≤ P i ∧ P i ≤ 64 ∧ 1 ≤ B i ∧ B i ≤ P i) (hn : n ≤ 4) (h : KM n P B b t j l e) (hj : j < n) (hb : b j ≤ t) (hm : (t - b j) % P j = 0) : KM n P B b t (j + 1) (upd l j (B j)) (upd e j (t + P j)) := by
  obtain ⟨p1, p2, p3, p4⟩ := hP j hj
  obtain ⟨x1, x2⟩ := nxt_rel (P := P j) p1 hb hm
  refine ⟨ks_release (k := j) (srv_pb hn hP) h.ks hj ?_ (upd_at _ _ _) ?_ ?_ (fun i hi => ⟨upd_ne _ _ hi, upd_ne _ _ hi, ?_⟩), fun i hi hl => ?_, fun i hi hlt => ?_, fun i hi => ?_⟩
  · show nxt (b j) (P j) (tj j t j) ≤ t
    rw [(tj_at j t).1, x1]; exact Nat.le_refl _
  · rw [upd_at]; rfl
  · show t + P j ≤ nxt (b j) (P j) (tj (j + 1) t j)
    rw [(tj_at j t).2, x2]; exact Nat.le_refl _
  · show nxt (b i) (P i) (tj (j + 1) t i) = nxt (b i) (P i) (tj j t i)
    rw [tj_ne hi]
  · by_cases e' : i = j
    · rw [e', upd_at, (tj_at j t).2, x2]
    · rw [upd_ne _ _ e'] at hl ⊢
      rw [h.en i hi hl, tj_ne e']
  · by_cases e' : i = j
    · rw [e'] at hlt; omega
    · rw [upd_ne _ _ e']; exact h.nb i hi hlt
  · have := h.bd i hi
    unfold upd
    split
    · omega
    · exact this
theorem km_late (hP : ∀ i, i < n → 1 ≤ P i ∧ P i ≤ 64 ∧ 1 ≤ B i ∧ B i ≤ P i) {M : Nat} (hM : 0 < M) (hd : ∀ i, i < n → P i ∣ M) (hs : sm (fun i => B i * (M / P i)) n ≤ M) (h : KM n P B b t j l e) (hj : j < n) (hb : b j ≤ t) (hm : (t - b j) % P j = 0) (hl : 0 < l j) : False := by
  have hx := (nxt_rel (P := P j) (hP j hj).1 hb hm).1
  refine sv_in_time hM (fun i hi => (hP i hi).1) hd hs h.ks hj hl ?_
  rw [h.en j hj hl, (tj_at j t).1, hx]
  exact Nat.le_refl _
theorem tj_end {i : Nat} (hi : i < n) : tj n t i = tj 0 (t + 1) i := by unfold tj; rw [if_pos hi, if_neg (by omega)]
theorem km_run (h : KM n P B b t n l e) {k : Nat} (hk : k < n) (hl : 0 < l k) (hm : ∀ i, i < n → 0 < l i → e k ≤ e i) : KM n P B b (t + 1) 0 (upd l k (l k - 1)) e := by
  refine ⟨ks_next (ks_run (k := k) h.ks hk hl hm (upd_at _ _ _) (fun i hi => upd_ne _ _ hi)) (fun i (hi : i < n) => by rw [tj_end hi]), fun i hi hl' => ?_, fun i hi hlt => ?_, fun i hi => ?_⟩
  · have h1 : 0 < l i := by
      unfold upd at hl'
      split at hl'
      · rename_i e'; rw [e']; omega
      · exact hl'
    rw [h.en i hi h1, tj_end hi]
  · have h1 := h.nb i hi (by omega)
    unfold upd
    split
    · rename_i e'; rw [e'] at h1; omega
    · exact h1
  · have := h.bd i hi
    have h2 := h.bd k hk
    unfold upd
    split <;> omega
theorem km_none (h : KM n P B b t n l e) (hz : ∀ i, i < n → l i = 0) : KM n P B b (t + 1) 0 l e :=
  ⟨ks_next (ks_none h.ks hz) (fun i (hi : i < n) => by rw [tj_end hi]), fun i hi hl => by rw [hz i hi] at hl; omega, fun i hi _ => hz i hi, fun i hi => by have := h.bd i hi; omega⟩
/-- those that begin at once: what was asked for is left, or was run -/
structure EM (n : Nat) (P B : Nat → Nat) (t j : Nat) (l l0 : Nat → Nat) : Prop where
  ei : EI n B t l (fun i => cl (P i) (tj j t i))
  s0 : EI n B t l0 (fun i => cl (P i) t)
  un : ∀ i, i < n → j ≤ i → l i = l0 i
  dn : ∀ i, i < n → i < j → t % P i = 0 → l0 i = 0
theorem em_of (h : EI n B t l (fun i => cl (P i) t)) : EM n P B t 0 l l :=
  ⟨by have e : (fun i => cl (P i) (tj 0 t i)) = (fun i => cl (P i) t) := by funext i; unfold tj; rw [if_neg (by omega)]
      rw [e]; exact h, h, fun _ _ _ => rfl, fun _ _ h => by omega⟩
theorem em_start (n : Nat) (P B : Nat → Nat) (hP : ∀ i, i < n → 1 ≤ P i) : EI n B 0 (fun _ => 0) (fun i => cl (P i) 0) := by
  unfold EI
  rw [sm_zero (n := n) (fun i hi => by
    have := hP i hi
    show B i * ((0 + P i - 1) / P i) = 0
    rw [Nat.div_eq_of_lt (by omega), Nat.mul_zero])]
  exact Nat.zero_le _
theorem ei_congr {rel rel' : Nat → Nat} (h : EI n B t l rel) (he : ∀ i, i < n → rel i = rel' i) : EI n B t l rel' := by
  unfold EI at h ⊢
  rw [← sm_congr (f := fun i => B i * rel i) fun i hi => by rw [he i hi]]
  exact h
theorem em_not {l0 : Nat → Nat} (hP : ∀ i, i < n → 1 ≤ P i) (h : EM n P B t j l l0) (hj : j < n) (hm : t % P j ≠ 0) : EM n P B t (j + 1) l l0 := by
  refine ⟨ei_congr h.ei fun i hi => ?_, h.s0, fun i hi hji => h.un i hi (by omega), fun i hi hij hmi => ?_⟩
  · by_cases e' : i = j
    · rw [e', (tj_at j t).1, (tj_at j t).2, cl_not (hP j hj) hm]
    · rw [tj_ne e']
  · by_cases e' : i = j
    · rw [e'] at hmi; exact absurd hmi hm
    · exact h.dn i hi (by omega) hmi
theorem em_rel {l0 : Nat → Nat} (hP : ∀ i, i < n → 1 ≤ P i) (h : EM n P B t j l l0) (hj : j < n) (hm : t % P j = 0) (hl : l j = 0) : EM n P B t (j + 1) (upd l j (B j)) l0 := by
  obtain ⟨c1, c2⟩ := cl_rel (hP j hj) hm
  refine ⟨ei_release (k := j) h.ei hj hl (upd_at _ _ _) ?_ (fun i hi => ⟨upd_ne _ _ hi, ?_⟩), h.s0, fun i hi hji => ?_, fun i hi hij hmi => ?_⟩
  · show cl (P j) (tj (j + 1) t j) = cl (P j) (tj j t j) + 1
    rw [(tj_at j t).1, (tj_at j t).2, c1, c2]
  · show cl (P i) (tj (j + 1) t i) = cl (P i) (tj j t i)
    rw [tj_ne hi]
  · rw [upd_ne _ _ (by omega)]; exact h.un i hi (by omega)
  · by_cases e' : i = j
    · rw [e', ← h.un j hj (Nat.le_refl _)]; exact hl
    · exact h.dn i hi (by omega) hmi
theorem em_end {l0 : Nat → Nat} (h : EM n P B t n l l0) : EI n B t l (fun i => cl (P i) (t + 1)) := ei_congr h.ei fun i hi => by unfold tj; rw [if_pos hi]
/-- at a common multiple the tick does not come to its end, if they share more than 1 -/
theorem em_late {l0 : Nat → Nat} {M : Nat} (hP : ∀ i, i < n → 1 ≤ P i) (hd : ∀ i, i < n → P i ∣ M) (hs : M < sm (fun i => B i * (M / P i)) n) (h : EM n P B M n l l0) : False := by
  have hmod : ∀ i, i < n → M % P i = 0 := fun i hi => Nat.mod_eq_zero_of_dvd (hd i hi)
  obtain ⟨i, hi, hl⟩ := ei_late (P := P) h.s0 (fun i hi => (cl_rel (hP i hi) (hmod i hi)).1) hs
  have := h.dn i hi hi (hmod i hi)
  omega
end
/-- the one whose end is nearest, of the first i: none with ticks left (-1), or one -/
def Near (l e : Nat → Nat) (i : Nat) (k : Int) : Prop := (k = -1 ∧ ∀ j, j < i → l j = 0) ∨ ∃ m : Nat, k = m ∧ m < i ∧ 0 < l m ∧ ∀ j, j < i → 0 < l j → e m ≤ e j
theorem near_start (l e : Nat → Nat) : Near l e 0 (-1) := Or.inl ⟨rfl, fun j hj => by omega⟩
theorem near_upd {l e : Nat → Nat} {i : Nat} {k : Int} (h : Near l e i k) (a c : Nat) : Near (upd l i a) (upd e i c) i k := by
  rcases h with ⟨rfl, h⟩ | ⟨m, rfl, h1, h2, h3⟩
  · exact Or.inl ⟨rfl, fun j hj => by rw [upd_ne _ _ (by omega)]; exact h j hj⟩
  · refine Or.inr ⟨m, rfl, h1, by rw [upd_ne _ _ (by omega)]; exact h2, fun j hj hl => ?_⟩
    rw [upd_ne _ _ (by omega)] at hl
    rw [upd_ne _ _ (by omega), upd_ne _ _ (by omega)]
    exact h3 j hj hl
theorem near_zero {l e : Nat → Nat} {i : Nat} {k : Int} (h : Near l e i k) (h0 : l i = 0) : Near l e (i + 1) k := by
  rcases h with ⟨rfl, h⟩ | ⟨m, rfl, h1, h2, h3⟩
  · refine Or.inl ⟨rfl, fun j hj => ?_⟩
    by_cases e' : j = i
    · rw [e']; exact h0
    · exact h j (by omega)
  · refine Or.inr ⟨m, rfl, by omega, h2, fun j hj hl => ?_⟩
    by_cases e' : j = i
    · rw [e', h0] at hl; omega
    · exact h3 j (by omega) hl
theorem near_keep {l e : Nat → Nat} {i m : Nat} (h : Near l e i (m : Int)) (h0 : e m ≤ e i) : Near l e (i + 1) (m : Int) := by
  rcases h with ⟨h, _⟩ | ⟨m', h, h1, h2, h3⟩
  · omega
  · obtain rfl : m = m' := by omega
    refine Or.inr ⟨m, rfl, by omega, h2, fun j hj hl => ?_⟩
    by_cases e' : j = i
    · rw [e']; exact h0
    · exact h3 j (by omega) hl
theorem near_take {l e : Nat → Nat} {i : Nat} {k : Int} (h : Near l e i k) (h0 : 0 < l i) (hk : k = -1 ∨ ∃ m : Nat, k = m ∧ e i < e m) : Near l e (i + 1) (i : Int) := by
  refine Or.inr ⟨i, rfl, by omega, h0, fun j hj hl => ?_⟩
  by_cases e' : j = i
  · rw [e']; exact Nat.le_refl _
  · rcases h with ⟨rfl, h⟩ | ⟨m, rfl, h1, h2, h3⟩
    · have := h j (by omega); omega
    · have h4 := h3 j (by omega) hl
      rcases hk with hk | ⟨m', hm, h5⟩
      · omega
      · obtain rfl : m = m' := by omega
        omega
end Go.Proofs.Ytlifkclgflfnlaa.Sh
