/- A server that runs, jobs that are released, the one whose end is nearest first: nobody is late, if the partition passes. Plainly. -/
import Derived.Test.YtlifkclgflfnlaaLocS
namespace Go.Proofs.Ytlifkclgflfnlaa.Lo
open Go.Proofs.Ytlifkclgflfnlaa.De Go.Proofs.Ytlifkclgflfnlaa.Su Go.Proofs.Ytlifkclgflfnlaa.Dl Go.Proofs.Ytlifkclgflfnlaa.Ed
set_option linter.unusedVariables false

theorem spaced_snoc {P b : Nat} : ∀ {r : List Nat}, Spaced P r → (∀ a ∈ r, a + P ≤ b) → Spaced P (r ++ [b])
  | [], _, _ => trivial
  | [a], _, h => ⟨h a (by simp), trivial⟩
  | a :: c :: r, hs, h => ⟨hs.1, spaced_snoc (r := c :: r) hs.2 (fun x hx => h x (List.mem_cons_of_mem _ hx))⟩
def bnd (p : Pn) (i : Nat) : Nat := (p.z i 2).toNat
structure KI (p : Pn) (run : Nat → Bool) (now : Nat) (left ends next : Nat → Nat) (rels : Nat → List Nat) : Prop where
  inv : Inv p.n (bnd p) (dea p.z) run now left ends rels
  sp : ∀ i, i < p.n → Spaced (per p.z i) (rels i)
  nx : ∀ i, i < p.n → ∀ a ∈ rels i, a + per p.z i ≤ next i
/-- at a tick's start -/
def KS (p : Pn) (run : Nat → Bool) (now : Nat) (left ends next : Nat → Nat) : Prop := ∃ rels, KI p run now left ends next rels
theorem ks_start (p : Pn) (run : Nat → Bool) {left ends next : Nat → Nat} (h : ∀ i, i < p.n → left i = 0) : KS p run 0 left ends next :=
  ⟨fun _ => [], inv_start _ _ _ _ h _, fun _ _ => trivial, fun _ _ a ha => by cases ha⟩
/-- nobody is late -/
theorem ks_in_time {p : Pn} (hp : PB p) (hn : 0 < p.n) (hq : Pass [p] 0) {run : Nat → Bool} {K now : Nat} (hr : Runs p.per.toNat p.bud.toNat run K) (hK : now ≤ K * p.per.toNat) {left ends next : Nat → Nat} (h : KS p run now left ends next)
    {k : Nat} (hk : k < p.n) (hl : 0 < left k) (he : ends k ≤ now) : False := by
  obtain ⟨rels, hi, hs, _⟩ := h
  have hg := PB.good hp
  have h1 := hp.p1
  have h2 := hp.b1
  have h3 := hp.b2
  refine in_time (sup := supN p) hi hk hl he (fun i hi => (hg.at' i hi).2.2.1) hs (fun t0 ht => ?_) (fun t _ hpos => ?_)
  · exact sound (by omega) (by omega) hr (by omega)
  · exact plain_sup (l := [p]) (q := 0) (chk_one hp) (Nat.zero_lt_one) hn hq t hpos
/-- a job is released -/
theorem ks_release {p : Pn} (hp : PB p) {run : Nat → Bool} {now : Nat} {left ends next left' ends' next' : Nat → Nat} (h : KS p run now left ends next) {k : Nat} (hk : k < p.n) (hw : next k ≤ now)
    (hl : left' k = bnd p k) (he : ends' k = now + dea p.z k) (hx : now + per p.z k ≤ next' k) (ho : ∀ i, i ≠ k → left' i = left i ∧ ends' i = ends i ∧ next' i = next i) : KS p run now left' ends' next' := by
  obtain ⟨rels, hi, hs, hn⟩ := h
  have hg := (PB.good hp).at' k hk
  refine ⟨fun i => if i = k then rels i ++ [now] else rels i, inv_release hi hk hg.2.2.2.2.1 hl he (by simp) (fun i hne => ⟨(ho i hne).1, (ho i hne).2.1, by simp [hne]⟩), fun i hin => ?_, fun i hin a ha => ?_⟩
  · show Spaced _ (if i = k then rels i ++ [now] else rels i)
    split
    · rename_i e
      subst e
      exact spaced_snoc (hs i hin) (fun a ha => Nat.le_trans (hn i hin a ha) hw)
    · exact hs i hin
  · have ha : a ∈ (if i = k then rels i ++ [now] else rels i) := ha
    by_cases e : i = k
    · subst e
      rw [if_pos rfl, List.mem_append, List.mem_singleton] at ha
      rcases ha with ha | rfl
      · have := hn i hin a ha; omega
      · exact hx
    · rw [if_neg e] at ha
      rw [(ho i e).2.2]
      exact hn i hin a ha
theorem ks_idle {p : Pn} {run : Nat → Bool} {now : Nat} {left ends next : Nat → Nat} (h : KS p run now left ends next) (hr : run now = false) : KS p run (now + 1) left ends next := by
  obtain ⟨rels, hi, hs, hn⟩ := h
  exact ⟨rels, inv_idle hi hr, hs, hn⟩
theorem ks_none {p : Pn} {run : Nat → Bool} {now : Nat} {left ends next : Nat → Nat} (h : KS p run now left ends next) (hz : ∀ i, i < p.n → left i = 0) : KS p run (now + 1) left ends next := by
  obtain ⟨rels, hi, hs, hn⟩ := h
  exact ⟨rels, inv_none hz, hs, hn⟩
theorem ks_run {p : Pn} {run : Nat → Bool} {now : Nat} {left ends next left' : Nat → Nat} (h : KS p run now left ends next) {k : Nat} (hk : k < p.n) (hp : 0 < left k) (hm : ∀ i, i < p.n → 0 < left i → ends k ≤ ends i)
    (hl : left' k = left k - 1) (ho : ∀ i, i ≠ k → left' i = left i) : KS p run (now + 1) left' ends next := by
  obtain ⟨rels, hi, hs, hn⟩ := h
  exact ⟨rels, inv_run hi hk hp hm hl ho, hs, hn⟩
end Go.Proofs.Ytlifkclgflfnlaa.Lo
