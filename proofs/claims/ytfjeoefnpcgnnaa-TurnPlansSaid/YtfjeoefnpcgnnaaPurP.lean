/- Purses, plainly: what is answered, what they are behind it. -/
import Derived.Test.YtfjeoefnpcgnnaaRows
namespace Go.Proofs.Ytfjeoefnpcgnnaa.Pw
namespace Pu
/-- a purse: its period p and its budget b, what is left of it n, the end of its period e, the other period q and budget r (q = 0: none), what was short sh, whether it leaves lv, whether it is gone ov -/
structure St where
  p : Int
  b : Int
  n : Int
  e : Int
  q : Int
  r : Int
  sh : Int
  lv : Bool
  ov : Bool
/-- may there be such a server? -/
def may (p b : Int) : Prop := (1 ≤ p ∧ p ≤ 64) ∧ 1 ≤ b ∧ b ≤ p
instance (p b : Int) : Decidable (may p b) := by unfold may; infer_instance
def nwE (p b t : Int) : Int := if ¬ may p b ∨ t < 0 then 2 else if 1099511627776 < t then 10 else 0
def nwS (p b t : Int) : St := ⟨p, b, b, t + p, 0, 0, 0, false, false⟩
def chE (s : St) : Int := if s.ov = true then 250 else if s.n = 0 then 8 else 0
def chS (s : St) : St := if chE s = 0 then { s with n := s.n - 1 } else s
def tuE (s : St) (t : Int) : Int := if s.ov = true ∨ s.e < t then 250 else 0
def tuB (s : St) (t : Int) : Bool := decide (s.ov = false ∧ s.e = t)
/-- a period has ended, at t -/
def ended (s : St) (t : Int) : St :=
  if s.lv = true then { s with sh := s.sh + s.n, n := 0, ov := true }
  else if s.q = 0 then { s with sh := s.sh + s.n, n := s.b, e := t + s.p }
  else { s with sh := s.sh + s.n, p := s.q, b := s.r, n := s.r, q := 0, e := t + s.q }
def tuS (s : St) (t : Int) : St := if tuB s t = true then ended s t else s
def busy (s : St) : Prop := s.ov = true ∨ s.lv = true ∨ s.q ≠ 0
instance (s : St) : Decidable (busy s) := by unfold busy; infer_instance
def cgE (s : St) (p b : Int) : Int := if busy s then 250 else if may p b then 0 else 2
def cgS (s : St) (p b : Int) : St := if cgE s p b = 0 then { s with q := p, r := b } else s
def leE (s : St) : Int := if busy s then 250 else 0
def leS (s : St) : St := if leE s = 0 then { s with lv := true } else s
def wts (s : St) : Bool := !s.ov && (s.lv || decide (s.q ≠ 0))
/-- numbers that a purse may have, of which k calls have been made -/
structure Ok (k : Nat) (s : St) : Prop where
  m : may s.p s.b
  n0 : 0 ≤ s.n
  n1 : s.n ≤ s.b
  e0 : 0 ≤ s.e
  e1 : s.e ≤ 1099511627840 + 64 * k
  q : s.q = 0 ∨ may s.q s.r
  s0 : 0 ≤ s.sh
  s1 : s.sh ≤ 64 * k
theorem Ok.q0 {k : Nat} {s : St} (h : Ok k s) : 0 ≤ s.q := by rcases h.q with h | h; · omega
                                                              · have := h.1.1; omega
theorem Ok.up {k : Nat} {s : St} (h : Ok k s) : Ok (k + 1) s := ⟨h.m, h.n0, h.n1, h.e0, by have := h.e1; omega, h.q, h.s0, by have := h.s1; omega⟩
theorem nwE_cases (p b t : Int) : (¬ may p b ∧ nwE p b t = 2) ∨ (may p b ∧ t < 0 ∧ nwE p b t = 2) ∨ (may p b ∧ 1099511627776 < t ∧ nwE p b t = 10) ∨ (may p b ∧ 0 ≤ t ∧ t ≤ 1099511627776 ∧ nwE p b t = 0) := by
  unfold nwE
  by_cases hm : may p b
  · by_cases h1 : t < 0
    · rw [if_pos (Or.inr h1)]; exact Or.inr (Or.inl ⟨hm, h1, rfl⟩)
    · rw [if_neg (by rintro (h | h); exact h hm; exact h1 h)]
      by_cases h2 : 1099511627776 < t
      · rw [if_pos h2]; exact Or.inr (Or.inr (Or.inl ⟨hm, h2, rfl⟩))
      · rw [if_neg h2]; exact Or.inr (Or.inr (Or.inr ⟨hm, by omega, by omega, rfl⟩))
  · rw [if_pos (Or.inl hm)]; exact Or.inl ⟨hm, rfl⟩
theorem Ok.new {p b t : Int} (h : nwE p b t = 0) : Ok 0 (nwS p b t) := by
  rcases nwE_cases p b t with ⟨_, q⟩ | ⟨_, _, q⟩ | ⟨_, _, q⟩ | ⟨hm, q1, q2, _⟩
  · rw [h] at q; cases q
  · rw [h] at q; cases q
  · rw [h] at q; cases q
  · have h1 := hm.1.1; have h2 := hm.1.2; have h3 := hm.2.1
    exact ⟨hm, by show (0 : Int) ≤ b; omega, Int.le_refl _, by show (0 : Int) ≤ t + p; omega, by show t + p ≤ _; omega, Or.inl rfl, Int.le_refl _, by show (0 : Int) ≤ _; omega⟩
theorem ch_cases (s : St) : (s.ov = true ∧ chE s = 250 ∧ chS s = s) ∨ (s.ov = false ∧ s.n = 0 ∧ chE s = 8 ∧ chS s = s) ∨ (s.ov = false ∧ s.n ≠ 0 ∧ chE s = 0 ∧ chS s = { s with n := s.n - 1 }) := by
  by_cases h1 : s.ov = true
  · have e : chE s = 250 := if_pos h1
    exact Or.inl ⟨h1, e, if_neg (by rw [e]; decide)⟩
  · have h1' : s.ov = false := by simpa using h1
    by_cases h2 : s.n = 0
    · have e : chE s = 8 := by unfold chE; rw [if_neg h1, if_pos h2]
      exact Or.inr (Or.inl ⟨h1', h2, e, if_neg (by rw [e]; decide)⟩)
    · have e : chE s = 0 := by unfold chE; rw [if_neg h1, if_neg h2]
      exact Or.inr (Or.inr ⟨h1', h2, e, if_pos e⟩)
theorem tu_cases (s : St) (t : Int) : (s.ov = true ∧ tuE s t = 250 ∧ tuB s t = false ∧ tuS s t = s) ∨ (s.ov = false ∧ s.e < t ∧ tuE s t = 250 ∧ tuB s t = false ∧ tuS s t = s) ∨ (s.ov = false ∧ t < s.e ∧ tuE s t = 0 ∧ tuB s t = false ∧ tuS s t = s) ∨ (s.ov = false ∧ s.e = t ∧ tuE s t = 0 ∧ tuB s t = true ∧ tuS s t = ended s t) := by
  have hS : ∀ x : Bool, tuB s t = x → tuS s t = if x = true then ended s t else s := fun x h => by unfold tuS; rw [h]
  by_cases h1 : s.ov = true
  · have e : tuB s t = false := by unfold tuB; rw [h1]; simp
    exact Or.inl ⟨h1, if_pos (Or.inl h1), e, hS _ e⟩
  · have h1' : s.ov = false := by simpa using h1
    by_cases h2 : s.e < t
    · have e : tuB s t = false := by unfold tuB; simp; omega
      exact Or.inr (Or.inl ⟨h1', h2, if_pos (Or.inr h2), e, hS _ e⟩)
    · have e0 : tuE s t = 0 := if_neg (by rintro (h | h); exact h1 h; exact h2 h)
      by_cases h3 : t < s.e
      · have e : tuB s t = false := by unfold tuB; simp; omega
        exact Or.inr (Or.inr (Or.inl ⟨h1', h3, e0, e, hS _ e⟩))
      · have h4 : s.e = t := by omega
        have e : tuB s t = true := by unfold tuB; simp [h1', h4]
        exact Or.inr (Or.inr (Or.inr ⟨h1', h4, e0, e, hS _ e⟩))
theorem ended_cases (s : St) (t : Int) : (s.lv = true ∧ ended s t = { s with sh := s.sh + s.n, n := 0, ov := true }) ∨ (s.lv = false ∧ s.q = 0 ∧ ended s t = { s with sh := s.sh + s.n, n := s.b, e := t + s.p }) ∨ (s.lv = false ∧ s.q ≠ 0 ∧ ended s t = { s with sh := s.sh + s.n, p := s.q, b := s.r, n := s.r, q := 0, e := t + s.q }) := by
  by_cases h1 : s.lv = true
  · exact Or.inl ⟨h1, if_pos h1⟩
  · have h1' : s.lv = false := by simpa using h1
    by_cases h2 : s.q = 0
    · exact Or.inr (Or.inl ⟨h1', h2, by unfold ended; rw [if_neg h1, if_pos h2]⟩)
    · exact Or.inr (Or.inr ⟨h1', h2, by unfold ended; rw [if_neg h1, if_neg h2]⟩)
theorem busy_cases (s : St) : (s.ov = true ∧ busy s) ∨ (s.ov = false ∧ s.lv = true ∧ busy s) ∨ (s.ov = false ∧ s.lv = false ∧ s.q ≠ 0 ∧ busy s) ∨ (s.ov = false ∧ s.lv = false ∧ s.q = 0 ∧ ¬ busy s) := by
  cases h1 : s.ov
  · cases h2 : s.lv
    · by_cases h3 : s.q = 0
      · exact Or.inr (Or.inr (Or.inr ⟨rfl, rfl, h3, by rintro (h | h | h); rw [h1] at h; cases h; rw [h2] at h; cases h; exact h h3⟩))
      · exact Or.inr (Or.inr (Or.inl ⟨rfl, rfl, h3, Or.inr (Or.inr h3)⟩))
    · exact Or.inr (Or.inl ⟨rfl, rfl, Or.inr (Or.inl h2)⟩)
  · exact Or.inl ⟨rfl, Or.inl h1⟩
theorem cg_busy {s : St} (h : busy s) (p b : Int) : cgE s p b = 250 ∧ cgS s p b = s := by
  have e : cgE s p b = 250 := if_pos h
  exact ⟨e, if_neg (by rw [e]; decide)⟩
theorem cg_no {s : St} (h : ¬ busy s) {p b : Int} (hm : ¬ may p b) : cgE s p b = 2 ∧ cgS s p b = s := by
  have e : cgE s p b = 2 := by unfold cgE; rw [if_neg h, if_neg hm]
  exact ⟨e, if_neg (by rw [e]; decide)⟩
theorem cg_yes {s : St} (h : ¬ busy s) {p b : Int} (hm : may p b) : cgE s p b = 0 ∧ cgS s p b = { s with q := p, r := b } := by
  have e : cgE s p b = 0 := by unfold cgE; rw [if_neg h, if_pos hm]
  exact ⟨e, if_pos e⟩
theorem le_busy {s : St} (h : busy s) : leE s = 250 ∧ leS s = s := by
  have e : leE s = 250 := if_pos h
  exact ⟨e, if_neg (by rw [e]; decide)⟩
theorem le_yes {s : St} (h : ¬ busy s) : leE s = 0 ∧ leS s = { s with lv := true } := by
  have e : leE s = 0 := if_neg h
  exact ⟨e, if_pos e⟩
theorem may_cases (p b : Int) : (p < 1 ∧ ¬ may p b) ∨ (1 ≤ p ∧ 64 < p ∧ ¬ may p b) ∨ (1 ≤ p ∧ p ≤ 64 ∧ b < 1 ∧ ¬ may p b) ∨ (1 ≤ p ∧ p ≤ 64 ∧ 1 ≤ b ∧ p < b ∧ ¬ may p b) ∨ (1 ≤ p ∧ p ≤ 64 ∧ 1 ≤ b ∧ b ≤ p ∧ may p b) := by
  unfold may
  omega
section
variable {k : Nat} {s : St}
theorem Ok.ch (h : Ok k s) : Ok (k + 1) (chS s) := by
  rcases ch_cases s with ⟨_, _, e⟩ | ⟨_, _, _, e⟩ | ⟨_, h2, _, e⟩ <;> rw [e]
  · exact h.up
  · exact h.up
  · have h0 := h.n0; have h1 := h.n1
    exact ⟨h.m, by show 0 ≤ s.n - 1; omega, by show s.n - 1 ≤ s.b; omega, h.e0, h.up.e1, h.q, h.s0, h.up.s1⟩
theorem Ok.tu (h : Ok k s) (t : Int) : Ok (k + 1) (tuS s t) := by
  rcases tu_cases s t with ⟨_, _, _, e⟩ | ⟨_, _, _, _, e⟩ | ⟨_, _, _, _, e⟩ | ⟨_, h4, _, _, e⟩ <;> rw [e]
  · exact h.up
  · exact h.up
  · exact h.up
  · have a1 := h.n0; have a2 := h.n1; have a3 := h.m.1.1; have a4 := h.m.1.2; have a5 := h.m.2.1; have a6 := h.m.2.2; have a7 := h.e0; have a8 := h.e1; have a9 := h.s0; have a10 := h.s1
    rcases ended_cases s t with ⟨_, e⟩ | ⟨_, _, e⟩ | ⟨_, hq, e⟩ <;> rw [e]
    · exact ⟨h.m, Int.le_refl _, by show (0 : Int) ≤ s.b; omega, h.e0, h.up.e1, h.q, by show 0 ≤ s.sh + s.n; omega, by show s.sh + s.n ≤ _; omega⟩
    · exact ⟨h.m, by show (0 : Int) ≤ s.b; omega, Int.le_refl _, by show 0 ≤ t + s.p; omega, by show t + s.p ≤ _; omega, h.q, by show 0 ≤ s.sh + s.n; omega, by show s.sh + s.n ≤ _; omega⟩
    · have hm : may s.q s.r := by rcases h.q with h | h; exact absurd h hq; exact h
      have b1 := hm.1.1; have b2 := hm.1.2; have b3 := hm.2.1; have b4 := hm.2.2
      exact ⟨hm, by show (0 : Int) ≤ s.r; omega, Int.le_refl _, by show 0 ≤ t + s.q; omega, by show t + s.q ≤ _; omega, Or.inl rfl, by show 0 ≤ s.sh + s.n; omega, by show s.sh + s.n ≤ _; omega⟩
theorem Ok.cg (h : Ok k s) (p b : Int) : Ok (k + 1) (cgS s p b) := by
  by_cases hb : busy s
  · rw [(cg_busy hb p b).2]; exact h.up
  · by_cases hm : may p b
    · rw [(cg_yes hb hm).2]; exact ⟨h.m, h.n0, h.n1, h.e0, h.up.e1, Or.inr hm, h.s0, h.up.s1⟩
    · rw [(cg_no hb hm).2]; exact h.up
theorem Ok.le (h : Ok k s) : Ok (k + 1) (leS s) := by
  by_cases hb : busy s
  · rw [(le_busy hb).2]; exact h.up
  · rw [(le_yes hb).2]; exact ⟨h.m, h.n0, h.n1, h.e0, h.up.e1, h.q, h.s0, h.up.s1⟩
end
end Pu
end Go.Proofs.Ytfjeoefnpcgnnaa.Pw
