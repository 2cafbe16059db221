/- The one whose end is nearest goes first, plainly: what is asked for is done in time, if no demand is above the supply. -/
import Derived.Test.YtfjeoefnpcgnnaaDemP
import Derived.Test.YtfjeoefnpcgnnaaSupP
namespace Go.Proofs.Ytfjeoefnpcgnnaa.Ed
open Go.Proofs.Ytfjeoefnpcgnnaa.De Go.Proofs.Ytfjeoefnpcgnnaa.Su
set_option linter.unusedVariables false

/-- the sum of the first n -/
def sm (f : Nat → Nat) : Nat → Nat
  | 0 => 0
  | n + 1 => sm f n + f n
theorem sm_congr {f g : Nat → Nat} : ∀ {n : Nat}, (∀ i, i < n → f i = g i) → sm f n = sm g n
  | 0, _ => rfl
  | n + 1, h => by unfold sm; rw [sm_congr (fun i hi => h i (by omega)), h n (by omega)]
theorem sm_le {f g : Nat → Nat} : ∀ {n : Nat}, (∀ i, i < n → f i ≤ g i) → sm f n ≤ sm g n
  | 0, _ => Nat.le_refl _
  | n + 1, h => by unfold sm; have := sm_le (n := n) (fun i hi => h i (by omega)); have := h n (by omega); omega
theorem sm_one {f g : Nat → Nat} {k : Nat} (hk : ∀ i, i ≠ k → f i = g i) : ∀ {n : Nat}, k < n → sm f n + g k = sm g n + f k
  | n + 1, h => by
    unfold sm
    by_cases e : k = n
    · subst e
      rw [sm_congr (f := f) (g := g) (fun i hi => hk i (by omega))]
      omega
    · have := sm_one (f := f) (g := g) hk (n := n) (by omega)
      rw [hk n (fun q => e q.symm)]
      omega
theorem sm_zero {f : Nat → Nat} {n : Nat} (h : ∀ i, i < n → f i = 0) : sm f n = 0 := by
  induction n with
  | zero => rfl
  | succ n ih => unfold sm; rw [ih (fun i hi => h i (by omega)), h n (by omega)]
theorem sm_at {f : Nat → Nat} {k : Nat} : ∀ {n : Nat}, k < n → f k ≤ sm f n
  | n + 1, h => by
    unfold sm
    by_cases e : k = n
    · subst e; omega
    · have := sm_at (f := f) (n := n) (k := k) (by omega); omega
/-- what is left to do by d -/
def wk (n : Nat) (left ends : Nat → Nat) (d : Nat) : Nat := sm (fun i => if ends i ≤ d then left i else 0) n
/-- what was asked for from t0 on, to be done by d -/
def rq (n : Nat) (C D : Nat → Nat) (rels : Nat → List Nat) (t0 d : Nat) : Nat := sm (fun i => C i * cj (D i) t0 (d - t0) (rels i)) n
/-- for each end there is a tick from which on all that was given went to what has to be done by then, and was released since -/
def Inv (n : Nat) (C D : Nat → Nat) (run : Nat → Bool) (now : Nat) (left ends : Nat → Nat) (rels : Nat → List Nat) : Prop :=
  ∀ d, ∃ t0, t0 ≤ now ∧ wk n left ends d + cnt run t0 (now - t0) ≤ rq n C D rels t0 d
theorem inv_start (n : Nat) (C D : Nat → Nat) (run : Nat → Bool) {left ends : Nat → Nat} (h : ∀ i, i < n → left i = 0) (rels : Nat → List Nat) : Inv n C D run 0 left ends rels := fun d =>
  ⟨0, Nat.le_refl _, by
    unfold wk
    rw [sm_zero (fun i hi => by rw [h i hi]; split <;> rfl)]
    exact Nat.zero_le _⟩
theorem cj_snoc (D b t a : Nat) : ∀ r, cj D b t (r ++ [a]) = cj D b t r + (if hit D b t a then 1 else 0)
  | [] => by simp [cj]
  | x :: r => by
    rw [List.cons_append]
    unfold cj
    rw [cj_snoc D b t a r]
    omega
/-- a job is released -/
theorem inv_release {n : Nat} {C D : Nat → Nat} {run : Nat → Bool} {now : Nat} {left ends left' ends' : Nat → Nat} {rels rels' : Nat → List Nat} {k : Nat} (h : Inv n C D run now left ends rels) (hk : k < n) (hD : 1 ≤ D k)
    (hl : left' k = C k) (he : ends' k = now + D k) (hr : rels' k = rels k ++ [now]) (ho : ∀ i, i ≠ k → left' i = left i ∧ ends' i = ends i ∧ rels' i = rels i) : Inv n C D run now left' ends' rels' := by
  intro d
  obtain ⟨t0, h0, h1⟩ := h d
  refine ⟨t0, h0, ?_⟩
  have e1 : wk n left' ends' d + (if ends k ≤ d then left k else 0) = wk n left ends d + (if now + D k ≤ d then C k else 0) := by
    have := sm_one (f := fun i => if ends' i ≤ d then left' i else 0) (g := fun i => if ends i ≤ d then left i else 0) (k := k) (fun i hi => by simp only [(ho i hi).1, (ho i hi).2.1]) hk
    simp only [hl, he] at this
    exact this
  have e2 : rq n C D rels' t0 d = rq n C D rels t0 d + C k * (if hit (D k) t0 (d - t0) now then 1 else 0) := by
    have := sm_one (f := fun i => C i * cj (D i) t0 (d - t0) (rels' i)) (g := fun i => C i * cj (D i) t0 (d - t0) (rels i)) (k := k) (fun i hi => by simp only [(ho i hi).2.2]) hk
    simp only [hr, cj_snoc, Nat.mul_add] at this
    unfold rq
    omega
  have e3 : (if now + D k ≤ d then C k else 0) = C k * (if hit (D k) t0 (d - t0) now then 1 else 0) := by
    have e : hit (D k) t0 (d - t0) now = decide (now + D k ≤ d) := by
      unfold hit
      rw [Bool.eq_iff_iff, Bool.and_eq_true, decide_eq_true_eq, decide_eq_true_eq, decide_eq_true_eq]
      omega
    rw [e]
    by_cases hc : now + D k ≤ d
    · rw [if_pos hc, if_pos (by simpa using hc), Nat.mul_one]
    · rw [if_neg hc, if_neg (by simpa using hc), Nat.mul_zero]
  rw [e2, ← e3]
  omega
theorem cnt_next (run : Nat → Bool) {t0 now : Nat} (h : t0 ≤ now) : cnt run t0 (now + 1 - t0) = cnt run t0 (now - t0) + (if run now then 1 else 0) := by
  rw [show now + 1 - t0 = (now - t0) + 1 by omega, cnt_succ, show t0 + (now - t0) = now by omega]
/-- a tick in which it does not run -/
theorem inv_idle {n : Nat} {C D : Nat → Nat} {run : Nat → Bool} {now : Nat} {left ends : Nat → Nat} {rels : Nat → List Nat} (h : Inv n C D run now left ends rels) (hr : run now = false) : Inv n C D run (now + 1) left ends rels := by
  intro d
  obtain ⟨t0, h0, h1⟩ := h d
  refine ⟨t0, by omega, ?_⟩
  rw [cnt_next run h0, hr]
  exact h1
/-- a tick with nothing to do -/
theorem inv_none {n : Nat} {C D : Nat → Nat} {run : Nat → Bool} {now : Nat} {left ends : Nat → Nat} {rels : Nat → List Nat} (h : ∀ i, i < n → left i = 0) : Inv n C D run (now + 1) left ends rels := fun d =>
  ⟨now + 1, Nat.le_refl _, by
    unfold wk
    rw [sm_zero (fun i hi => by rw [h i hi]; split <;> rfl), Nat.sub_self]
    exact Nat.zero_le _⟩
/-- a tick in which the one whose end is nearest goes on -/
theorem inv_run {n : Nat} {C D : Nat → Nat} {run : Nat → Bool} {now : Nat} {left ends left' : Nat → Nat} {rels : Nat → List Nat} {k : Nat} (h : Inv n C D run now left ends rels) (hk : k < n) (hp : 0 < left k) (hm : ∀ i, i < n → 0 < left i → ends k ≤ ends i)
    (hl : left' k = left k - 1) (ho : ∀ i, i ≠ k → left' i = left i) : Inv n C D run (now + 1) left' ends rels := by
  intro d
  by_cases hd : ends k ≤ d
  · obtain ⟨t0, h0, h1⟩ := h d
    refine ⟨t0, by omega, ?_⟩
    have e1 : wk n left' ends d + left k = wk n left ends d + (left k - 1) := by
      have := sm_one (f := fun i => if ends i ≤ d then left' i else 0) (g := fun i => if ends i ≤ d then left i else 0) (k := k) (fun i hi => by simp only [ho i hi]) hk
      simp only [hd, if_true, hl] at this
      exact this
    rw [cnt_next run h0]
    split <;> omega
  · refine ⟨now + 1, Nat.le_refl _, ?_⟩
    unfold wk
    rw [sm_zero (fun i hi => ?_), Nat.sub_self]
    · exact Nat.zero_le _
    · by_cases hc : ends i ≤ d
      · rw [if_pos hc]
        by_cases e : i = k
        · subst e; omega
        · rw [ho i e]
          apply Decidable.byContradiction
          intro hn
          have := hm i hi (by omega)
          omega
      · rw [if_neg hc]
/-- nobody is late -/
theorem in_time {n : Nat} {C D P : Nat → Nat} {run : Nat → Bool} {now k : Nat} {left ends : Nat → Nat} {rels : Nat → List Nat} {sup : Nat → Nat} (h : Inv n C D run now left ends rels) (hk : k < n) (hp : 0 < left k) (he : ends k ≤ now)
    (hP : ∀ i, i < n → 0 < P i) (hs : ∀ i, i < n → Spaced (P i) (rels i)) (hsup : ∀ t0, t0 ≤ now → sup (now - t0) ≤ cnt run t0 (now - t0))
    (hdem : ∀ t, t ≤ now → 0 < sm (fun i => C i * jobs (P i) (D i) t) n → sm (fun i => C i * jobs (P i) (D i) t) n ≤ sup t) : False := by
  obtain ⟨t0, h0, h1⟩ := h now
  have h2 : 1 ≤ wk n left ends now := by
    have := sm_at (f := fun i => if ends i ≤ now then left i else 0) (k := k) hk
    simp only [he, if_true] at this
    unfold wk
    omega
  have h3 : rq n C D rels t0 now ≤ sm (fun i => C i * jobs (P i) (D i) (now - t0)) n :=
    sm_le fun i hi => Nat.mul_le_mul_left _ (cj_le (hP i hi) (hs i hi))
  have h4 := hsup t0 h0
  have h5 := hdem (now - t0) (by omega) (by omega)
  omega
/-- what holds up to some number of ticks holds for all, if both grow evenly -/
theorem for_all {f s : Nat → Nat} {h e u v m : Nat} (hh : 0 < h) (hb : ∀ t, t ≤ e → 0 < f t → f t ≤ s t) (he : m + h ≤ e + 1) (hf : ∀ t, m ≤ t → f (t + h) = f t + u) (hs : ∀ t, m ≤ t → s (t + h) = s t + v) (huv : u ≤ v) (hpos : ∀ t, m ≤ t → 0 < f t) :
    ∀ t, 0 < f t → f t ≤ s t := by
  intro t
  induction t using Nat.strongRecOn with
  | ind t ih =>
    intro ht
    rcases Nat.lt_or_ge e t with h1 | h1
    · have e1 : t = (t - h) + h := by omega
      have h2 := ih (t - h) (by omega) (hpos _ (by omega))
      rw [e1, hf _ (by omega), hs _ (by omega)]
      omega
    · exact hb t h1 ht
theorem sp_periods {P I t : Nat} (hP : 0 < P) (hI : I ≤ t) : ∀ q, sp P I (t + q * P) = sp P I t + q * (P - I)
  | 0 => by simp
  | q + 1 => by rw [Nat.succ_mul, ← Nat.add_assoc, sp_period hP (by omega), sp_periods hP hI q, Nat.succ_mul]; omega
/-- the demand of several tasks, a common multiple of their periods later -/
theorem dem_period {n : Nat} {C D P : Nat → Nat} {h t : Nat} (hP : ∀ i, i < n → 0 < P i) (hd : ∀ i, i < n → P i ∣ h) (ht : ∀ i, i < n → D i ≤ t) :
    sm (fun i => C i * jobs (P i) (D i) (t + h)) n = sm (fun i => C i * jobs (P i) (D i) t) n + sm (fun i => h / P i * C i) n := by
  induction n with
  | zero => rfl
  | succ n ih =>
    unfold sm
    rw [ih (fun i hi => hP i (by omega)) (fun i hi => hd i (by omega)) (fun i hi => ht i (by omega))]
    have h1 := jobs_period (D := D n) (hP n (by omega)) (ht n (by omega)) (h / P n)
    rw [Nat.div_mul_cancel (hd n (by omega))] at h1
    simp only [h1, Nat.mul_add, Nat.mul_comm (C n) (h / P n)]
    omega
theorem jobs_self {P : Nat} (hP : 0 < P) (t : Nat) : jobs P P t = t / P := by
  unfold jobs
  by_cases h : t < P
  · rw [if_pos h, Nat.div_eq_of_lt h]
  · rw [if_neg h]
    have : t / P = (t - P) / P + 1 := by
      rw [← Nat.add_div_right _ hP, show t - P + P = t by omega]
    omega
theorem sm_mul (f : Nat → Nat) (c : Nat) : ∀ n, sm (fun i => f i * c) n = sm f n * c
  | 0 => by simp [sm]
  | n + 1 => by unfold sm; rw [sm_mul f c n, Nat.add_mul]
/-- servers that share at most 1 ask for no more than there is -/
theorem share_dem {n M : Nat} {B P : Nat → Nat} (hM : 0 < M) (hP : ∀ i, i < n → 0 < P i) (hd : ∀ i, i < n → P i ∣ M) (h : sm (fun i => B i * (M / P i)) n ≤ M) (t : Nat) : sm (fun i => B i * jobs (P i) (P i) t) n ≤ t := by
  have h1 : sm (fun i => B i * jobs (P i) (P i) t * M) n ≤ sm (fun i => B i * (M / P i) * t) n := by
    refine sm_le fun i hi => ?_
    rw [jobs_self (hP i hi)]
    have e1 : M = P i * (M / P i) := (Nat.mul_div_cancel' (hd i hi)).symm
    have e2 : t / P i * P i ≤ t := Nat.div_mul_le_self t (P i)
    calc B i * (t / P i) * M = B i * (M / P i) * (t / P i * P i) := by
          conv => lhs; rw [e1]
          simp only [Nat.mul_comm, Nat.mul_left_comm]
      _ ≤ B i * (M / P i) * t := Nat.mul_le_mul_left _ e2
  rw [sm_mul, sm_mul] at h1
  have h2 : sm (fun i => B i * jobs (P i) (P i) t) n * M ≤ t * M := Nat.le_trans h1 (by rw [Nat.mul_comm t M]; exact Nat.mul_le_mul_right _ h)
  exact Nat.le_of_mul_le_mul_right h2 hM
end Go.Proofs.Ytfjeoefnpcgnnaa.Ed
