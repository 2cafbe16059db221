/- rise and sink. -/
import Derived.Test.YtfjeoefnpcgnnaaRkWalksB
namespace Go.Proofs.Ytfjeoefnpcgnnaa.Rq
open Go.RowKit Rk
set_option linter.unusedVariables false
set_option maxRecDepth 100000

def RiseP (hb g cap n : Nat) (f : Nat → En) (m : Mp) (p : Nat) (w : World) (e : Ending) (w' : World) : Prop :=
  e = .returned (.tuple #[]) ∧ (∃ f' pl', HM w' hb g cap n f' pl' ∧ Rep f' n pl' m ∧ HX f' n p ∧ Up f' n p ∧ (Dn f n p → Heap f' n)) ∧ Only (Two hb g) w w'
/-- at the head of a round -/
def RiseI (hb g cap n : Nat) (f : Nat → En) (m : Mp) (p0 p : Nat) (w wr : World) : Prop :=
  (∃ f' pl', HM wr hb g cap n f' pl' ∧ Rep f' n pl' m ∧ HX f' n p ∧ p < n ∧ ((p = p0 ∧ f' = f) ∨ Dn f' n p)) ∧ Only (Two hb g) w wr
theorem RiseI.start {w : World} {hb g cap n : Nat} {f : Nat → En} {pl : Int → Int} {m : Mp} {p0 : Nat} (h : HM w hb g cap n f pl) (r : Rep f n pl m) (x : HX f n p0) (hp : p0 < n) : Hid (RiseI hb g cap n f m p0 p0 w w) :=
  ⟨⟨f, pl, h, r, x, hp, Or.inl ⟨rfl, rfl⟩⟩, Only.refl _ _⟩
theorem rise_end {hb g cap n : Nat} {f f' : Nat → En} {pl' : Int → Int} {m : Mp} {p0 p : Nat} {w wr : World} (hp0 : p0 < n) (h : HM wr hb g cap n f' pl') (r : Rep f' n pl' m) (x : HX f' n p) (o : (p = p0 ∧ f' = f) ∨ Dn f' n p) (u : Up f' n p) (ho : Only (Two hb g) w wr) :
    RiseP hb g cap n f m p0 w (.returned (.tuple #[])) wr := by
  refine ⟨rfl, ⟨f', pl', h, r, ?_⟩, ho⟩
  rcases o with ⟨rfl, rfl⟩ | d
  · exact ⟨x, u, fun d => heap_of x u d⟩
  · have hh := heap_of x u d
    exact ⟨heap_hx hh hp0, heap_up hh hp0, fun _ => hh⟩

set_option maxHeartbeats 1000000 in
theorem rise_any (w : World) (hb g cap n : Nat) (f : Nat → En) (pl : Int → Int) (m : Mp) (p0 : Nat) (h : HM w hb g cap n f pl) (r : Rep f n pl m) (x : HX f n p0) (hp : p0 < n) :
    Calls Try.prog 63 #[.pointer (some ⟨hb, 0, none⟩), .int .i64 p0] w (RiseP hb g cap n f m p0 w) := by
  have hI := RiseI.start h r x hp
  have hcap : n ≤ 9223372036854775807 := by have := h.le; have := h.max; unfold maxLen at this; omega
  clear h r x
  go_enter Try.func63, Try.ntmps63
  go_wp2_with fail
  go_loopw [1] (fun i wr => ∃ p : Nat, i = .int .i64 p ∧ Hid (RiseI hb g cap n f m p0 p w wr)) (fun i _ => (intOf i).toNat)
  case atStart => exact ⟨p0, rfl, hI⟩
  case round =>
    clear hI
    obtain ⟨p, rfl, HI⟩ := hrel
    obtain ⟨⟨f', pl', hm, hr, hx, hpn, hor⟩, ho⟩ := HI.out
    have HM' := Lib.hid hm
    have HR := Lib.hid hr
    have HX' := Lib.hid hx
    have HO := Lib.hid ho
    have HOr := Lib.hid hor
    clear HI hm hr hx ho hor
    by_cases h0 : 0 < p
    · obtain ⟨q, hq⟩ : ∃ q, q = (p - 1) / 2 := ⟨_, rfl⟩
      have hqn : q < n := by omega
      have hqp : q < p := by omega
      have hqi : ((p : Int) - 1) / 2 = (q : Int) := by omega
      have HQ := Lib.hid hq
      clear hq
      cases hv : decide (lt (f' p) (f' q)) with
      | false =>
        have HV := Lib.hid hv
        clear hv
        go_wp2_with fail
        refine (ahead_any _ _ _ _ _ _ _ _ _ _ HM'.out hpn hqn HV.out).mono ?_
        rintro e w1 ⟨rfl, hb1⟩
        go_wp2_with fail
        go_end0
        exact rise_end hp (HM'.out.below hb1) HR.out HX'.out HOr.out (fun _ => by have := HV.out; rw [HQ.out] at this; exact of_decide_eq_false this) (HO.out.trans (Only.of_below hb1))
      | true =>
        have HV := Lib.hid hv
        clear hv
        go_wp2_with fail
        refine (ahead_any _ _ _ _ _ _ _ _ _ _ HM'.out hpn hqn HV.out).mono ?_
        rintro e w1 ⟨rfl, hb1⟩
        go_wp2_with fail
        refine (swap_rep _ _ _ _ _ _ _ _ _ _ (HM'.out.below hb1) HR.out hpn hqn).mono ?_
        rintro e w2 ⟨rfl, ⟨pl2, hm2, hr2⟩, ho2⟩
        have HF : Hid (RiseI hb g cap n f m p0 q w w2) := by
          have st := rise_step HX'.out h0 hpn (by have := HV.out; rw [HQ.out] at this; simpa using this)
          rw [← HQ.out] at st
          exact ⟨⟨_, pl2, hm2, hr2, st.1, hqn, Or.inr st.2⟩, (HO.out.trans (Only.of_below hb1)).trans ho2⟩
        clear hm2 hr2 ho2
        go_wp2_with fail
        go_roundw
        case rel => exact ⟨q, rfl, HF⟩
        case measure => simp [intOf]; omega
    · obtain rfl : p = 0 := by omega
      go_wp2_with fail
      go_end0
      exact rise_end hp HM'.out HR.out HX'.out HOr.out (fun h => absurd h (by omega)) HO.out

/-- sink: a heap behind it -/
def SinkP (hb g cap n : Nat) (m : Mp) (w : World) (e : Ending) (w' : World) : Prop :=
  e = .returned (.tuple #[]) ∧ (∃ f' pl', HM w' hb g cap n f' pl' ∧ Rep f' n pl' m ∧ Heap f' n) ∧ Only (Two hb g) w w'
def SinkI (hb g cap n : Nat) (m : Mp) (p : Nat) (w wr : World) : Prop :=
  (∃ f' pl', HM wr hb g cap n f' pl' ∧ Rep f' n pl' m ∧ HX f' n p ∧ Up f' n p ∧ p < n) ∧ Only (Two hb g) w wr
theorem SinkI.start {w : World} {hb g cap n : Nat} {f : Nat → En} {pl : Int → Int} {m : Mp} {p0 : Nat} (h : HM w hb g cap n f pl) (r : Rep f n pl m) (x : HX f n p0) (u : Up f n p0) (hp : p0 < n) : Hid (SinkI hb g cap n m p0 w w) :=
  ⟨⟨f, pl, h, r, x, u, hp⟩, Only.refl _ _⟩
/-- the inner round: c comes ahead of all below p that were looked at -/
def Best (f : Nat → En) (n p b c : Nat) : Prop := c < n ∧ (c = p ∨ (0 < c ∧ (c - 1) / 2 = p ∧ lt (f c) (f p))) ∧ ∀ d, 0 < d → d < n → d < b → (d - 1) / 2 = p → le (f c) (f d)
theorem Best.start {f : Nat → En} {n p : Nat} (hp : p < n) : Best f n p (2 * p + 1) p := ⟨hp, Or.inl rfl, fun d h0 _ h1 h2 => by omega⟩
theorem Best.yes {f : Nat → En} {n p b c : Nat} (h : Best f n p b c) (hb : b < n) (h0 : 2 * p + 1 ≤ b) (h1 : b ≤ 2 * p + 2) (hl : lt (f b) (f c)) : Best f n p (b + 1) b := by
  refine ⟨hb, Or.inr ⟨by omega, by omega, ?_⟩, fun d d0 d1 d2 d3 => ?_⟩
  · rcases h.2.1 with rfl | ⟨_, _, h3⟩
    · exact hl
    · exact lt_trans hl h3
  · by_cases e : d = b
    · subst e; exact le_refl _
    · exact le_trans (le_of_lt hl) (h.2.2 d d0 d1 (by omega) d3)
theorem Best.no {f : Nat → En} {n p b c : Nat} (h : Best f n p b c) (hl : ¬ lt (f b) (f c)) : Best f n p (b + 1) c := by
  refine ⟨h.1, h.2.1, fun d d0 d1 d2 d3 => ?_⟩
  by_cases e : d = b
  · subst e; exact hl
  · exact h.2.2 d d0 d1 (by omega) d3
theorem Best.stay {f : Nat → En} {n p b : Nat} (h : Best f n p b p) (hb : ¬ (b ≤ 2 * p + 2 ∧ b < n)) : Dn f n p := fun c c0 c1 c2 => h.2.2 c c0 c1 (by omega) c2
theorem Best.go {f : Nat → En} {n p b c : Nat} (h : Best f n p b c) (hb : ¬ (b ≤ 2 * p + 2 ∧ b < n)) (hc : c ≠ p) (x : HX f n p) (u : Up f n p) : HX (sw f p c) n c ∧ Up (sw f p c) n c := by
  rcases h.2.1 with e | ⟨h0, h1, h2⟩
  · exact (hc e).elim
  · exact sink_step x u h0 h.1 h1 h2 fun d d0 d1 d2 => h.2.2 d d0 d1 (by omega) d2

end Go.Proofs.Ytfjeoefnpcgnnaa.Rq
