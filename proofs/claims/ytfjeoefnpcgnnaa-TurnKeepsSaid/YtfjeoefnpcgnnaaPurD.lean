/- The program's purse: its contracts. -/
import Derived.Test.YtfjeoefnpcgnnaaPurC
namespace Go.Proofs.Ytfjeoefnpcgnnaa.Pw
open Go.RowKit Pu
set_option linter.unusedVariables false
set_option maxRecDepth 100000

/-- what its pointer stands for -/
structure PX (w : World) (x : Option Addr) (s : St) : Prop where
  yes : wts s = true → ∃ nb, x = some ⟨nb, 0, none⟩ ∧ RT w nb s.q (if s.lv = true then 0 else s.r)
  no : wts s = false → x = none
  lq : s.lv = true → s.q = 0
/-- the program's purse s in the block b -/
def PP (w : World) (b : Nat) (s : St) : Prop := ∃ x, RP w b s.p s.b x s.n s.e s.sh s.ov ∧ PX w x s
/-- an answer; the purse behind it -/
def PpP (b : Nat) (r : Value) (s : St) (w : World) (E : Ending) (w' : World) : Prop := E = .returned r ∧ PP w' b s ∧ Only b w w'
section
variable {w w' : World} {b c k : Nat} {s s2 : St} {x : Option Addr}
theorem PX.keep (h : PX w x s) (hk : ∀ nb p q, RT w nb p q → RT w' nb p q) : PX w' x s :=
  ⟨fun e => by obtain ⟨nb, h1, h2⟩ := h.yes e; exact ⟨nb, h1, hk _ _ _ h2⟩, h.no, h.lq⟩
theorem PX.below (h : PX w x s) (q : Below w.heap.size w w') : PX w' x s := h.keep fun _ _ _ t => t.below q
theorem PX.only {p q n e t : Int} {y : Option Addr} {o : Bool} (h : PX w x s) (r : RP w b p q y n e t o) (q : Only b w w') : PX w' x s := h.keep fun nb _ _ t => (q.block nb t.lt (RT.ne r t)).trans t
theorem PP.lt (h : PP w b s) : b < w.heap.size := by obtain ⟨_, h, _⟩ := h; exact h.lt
theorem PP.below (h : PP w b s) (q : Below w.heap.size w w') : PP w' b s := by
  obtain ⟨x, h1, h2⟩ := h
  exact ⟨x, h1.below q, h2.below q⟩
theorem PP.ne (h : PP w b s) (d : DP w c s2) : b ≠ c := by
  rintro rfl; obtain ⟨x, h1, _⟩ := h; have := h1.symm.trans d; simp at this
theorem PP.other (h : PP w b s) (d : DP w c s2) (o : Only c w w') : PP w' b s := by
  have hne := h.ne d
  obtain ⟨x, h1, h2⟩ := h
  refine ⟨x, (o.block b h1.lt hne).trans h1, h2.keep fun nb p q t => ?_⟩
  have hn : nb ≠ c := by rintro rfl; have := t.symm.trans d; simp at this
  exact (o.block nb t.lt hn).trans t
theorem DP.other (d : DP w c s2) (h : PP w b s) (o : Only b w w') : DP w' c s2 := (o.block c d.lt (Ne.symm (h.ne d))).trans d
theorem left_any (h : PP w b s) : Calls Try.prog 48 #[.pointer (some ⟨b, 0, none⟩)] w (VB (.int .i64 s.n) w) := by
  obtain ⟨x, h1, _⟩ := h
  exact left_of (told_cells h1)
theorem ends_any (h : PP w b s) : Calls Try.prog 50 #[.pointer (some ⟨b, 0, none⟩)] w (VB (.int .i64 s.e) w) := by
  obtain ⟨x, h1, _⟩ := h
  exact ends_of (told_cells h1)
theorem waits_any (h : PP w b s) : Calls Try.prog 55 #[.pointer (some ⟨b, 0, none⟩)] w (VB (.bool (wts s)) w) := by
  obtain ⟨x, h1, h2⟩ := h
  cases hw : wts s with
  | true =>
    obtain ⟨nb, rfl, _⟩ := h2.yes hw
    exact waits_some (told_cells h1)
  | false =>
    obtain rfl := h2.no hw
    exact waits_none (told_cells h1)
theorem pwrong_any (h : PP w b s) (ok : Ok k s) : Calls Try.prog 34 #[.pointer (some ⟨b, 0, none⟩)] w (VB (.int .i64 (if s.ov = true then 250 else 0)) w) := by
  obtain ⟨x, h1, _⟩ := h
  exact wrong_any h1 ok.m.1.1
theorem wait_yes (h : PP w b s) (ok : Ok k s) (hb : busy s) : Calls Try.prog 42 #[.pointer (some ⟨b, 0, none⟩)] w (VB (.int .i64 250) w) := by
  have H1 := Lib.hid (waits_any h)
  cases hw : wts s with
  | true =>
    rw [hw] at H1
    clear h ok hb hw
    go_enter Try.func42, Try.ntmps42
    go_wp2_with fail
    refine H1.out.mono ?_
    rintro E w1 ⟨rfl, hq⟩
    have HB := Lib.hid hq
    clear hq H1
    go_wp2_with fail
    go_ret
    exact ⟨rfl, HB.out⟩
  | false =>
    have ho : s.ov = true := by
      rcases busy_cases s with ⟨h1, _⟩ | ⟨h1, h2, _⟩ | ⟨h1, h2, h3, _⟩ | ⟨_, _, _, h3⟩
      · exact h1
      · exfalso; rw [show wts s = true by unfold wts; simp [*]] at hw; cases hw
      · exfalso; rw [show wts s = true by unfold wts; simp [*]] at hw; cases hw
      · exact absurd hb h3
    have H2 : Hid (∀ w1, Below w.heap.size w w1 → Calls Try.prog 34 #[.pointer (some ⟨b, 0, none⟩)] w1 (VB (.int .i64 250) w1)) := Lib.hid (fun w1 hq => by have := pwrong_any (h.below hq) ok; rwa [if_pos ho] at this)
    rw [hw] at H1
    clear h ok hb hw ho
    go_enter Try.func42, Try.ntmps42
    go_wp2_with fail
    refine H1.out.mono ?_
    rintro E w1 ⟨rfl, hq⟩
    have HB := Lib.hid hq
    clear hq H1
    go_wp2_with fail
    refine (H2.out _ HB.out).mono ?_
    rintro E w2 ⟨rfl, hq⟩
    have HC := Lib.hid (HB.out.trans (hq.mono HB.out.size))
    clear hq HB H2
    go_wp2_with fail
    go_ret
    exact ⟨rfl, HC.out⟩
theorem wait_no (h : PP w b s) (ok : Ok k s) (hb : ¬ busy s) : Calls Try.prog 42 #[.pointer (some ⟨b, 0, none⟩)] w (VB (.int .i64 0) w) := by
  have H1 := Lib.hid (waits_any h)
  have ho : wts s = false ∧ s.ov = false := by
    rcases busy_cases s with ⟨_, x⟩ | ⟨_, _, x⟩ | ⟨_, _, _, x⟩ | ⟨h1, h2, h3, _⟩
    · exact absurd x hb
    · exact absurd x hb
    · exact absurd x hb
    · exact ⟨by unfold wts; simp [*], h1⟩
  have H2 : Hid (∀ w1, Below w.heap.size w w1 → Calls Try.prog 34 #[.pointer (some ⟨b, 0, none⟩)] w1 (VB (.int .i64 0) w1)) := Lib.hid (fun w1 hq => by have := pwrong_any (h.below hq) ok; rw [ho.2] at this; exact this)
  rw [ho.1] at H1
  clear h ok hb ho
  go_enter Try.func42, Try.ntmps42
  go_wp2_with fail
  refine H1.out.mono ?_
  rintro E w1 ⟨rfl, hq⟩
  have HB := Lib.hid hq
  clear hq H1
  go_wp2_with fail
  refine (H2.out _ HB.out).mono ?_
  rintro E w2 ⟨rfl, hq⟩
  have HC := Lib.hid (HB.out.trans (hq.mono HB.out.size))
  clear hq HB H2
  go_wp2_with fail
  go_ret
  exact ⟨rfl, HC.out⟩
theorem charge_any (h : PP w b s) (ok : Ok k s) : Calls Try.prog 16 #[.pointer (some ⟨b, 0, none⟩)] w (PpP b (.int .i64 (chE s)) (chS s) w) := by
  have HW := Lib.hid (pwrong_any h ok)
  have HH := Lib.hid h
  have n0 := ok.n0
  have n1 : s.n ≤ 64 := by have := ok.n1; have := ok.m.2.2; have := ok.m.1.2; omega
  rcases ch_cases s with ⟨h1, e1, e2⟩ | ⟨h1, h2, e1, e2⟩ | ⟨h1, h2, e1, e2⟩ <;> rw [e1, e2] <;> clear e1 e2
  · rw [if_pos h1] at HW
    clear h ok
    go_enter Try.func16, Try.ntmps16
    go_wp2_with fail
    refine HW.out.mono ?_
    rintro E w1 ⟨rfl, hq⟩
    have HF := Lib.hid (And.intro (HH.out.below hq) (Only.of_below hq : Only b w w1))
    clear hq
    go_wp2_with fail
    go_ret
    exact ⟨rfl, HF.out⟩
  · rw [h1] at HW
    replace HW : Hid (Calls Try.prog 34 #[.pointer (some ⟨b, 0, none⟩)] w (VB (.int .i64 0) w)) := HW
    have HS : Hid (∀ w, Calls Try.prog 35 #[.int .i64 0, .int .i64 1] w (fun E w' => E = .returned (.tuple #[.int .i64 0, .int .i64 2]) ∧ Below w.heap.size w w')) := Lib.hid (fun w => sub_any 0 1 w)
    clear ok
    go_enter Try.func16, Try.ntmps16
    go_wp2_with fail
    refine HW.out.mono ?_
    rintro E w1 ⟨rfl, hq⟩
    have HF := Lib.hid (And.intro (HH.out.below hq) (Only.of_below hq : Only b w w1))
    obtain ⟨x, r, _⟩ := HF.out.1
    have c3 := r.c3
    rw [h2] at c3
    clear hq r
    go_wp2_with fail
    refine (HS.out _).mono ?_
    rintro E w2 ⟨rfl, hq⟩
    have HG := Lib.hid (And.intro (HF.out.1.below hq) (HF.out.2.trans (Only.of_below hq)))
    clear hq HF
    go_wp2_with fail
    go_ret
    exact ⟨rfl, HG.out⟩
  · rw [h1] at HW
    replace HW : Hid (Calls Try.prog 34 #[.pointer (some ⟨b, 0, none⟩)] w (VB (.int .i64 0) w)) := HW
    have hn : 1 ≤ s.n := by omega
    have HS : Hid (∀ w, Calls Try.prog 35 #[.int .i64 s.n, .int .i64 1] w (fun E w' => E = .returned (.tuple #[.int .i64 (s.n - 1), .int .i64 0]) ∧ Below w.heap.size w w')) := Lib.hid (fun w => by
      have ha := Tk.tk_yes n0 (by omega)
      have hb := Tk.tk_yes (n := 1) (by omega) (by omega)
      have := sub_any s.n 1 w
      rwa [Tk.subN_ok ha hb hn, Tk.subE_ok ha hb hn] at this)
    clear ok
    go_enter Try.func16, Try.ntmps16
    go_wp2_with fail
    refine HW.out.mono ?_
    rintro E w1 ⟨rfl, hq⟩
    have HF := Lib.hid (And.intro (HH.out.below hq) (Only.of_below hq : Only b w w1))
    obtain ⟨x, r, px0⟩ := HF.out.1
    have c3 := r.c3
    clear hq r px0 x
    go_wp2_with fail
    refine (HS.out _).mono ?_
    rintro E w2 ⟨rfl, hq⟩
    obtain ⟨x, r, px⟩ := HF.out.1.below hq
    have ho := Only.set w2 b 3 (.int .i64 (s.n - 1))
    have HG : Hid (PP (w2.setCell ⟨b, 3, none⟩ (.int .i64 (s.n - 1))) b { s with n := s.n - 1 } ∧ Only b w (w2.setCell ⟨b, 3, none⟩ (.int .i64 (s.n - 1)))) := Lib.hid ⟨⟨x, r.set3 _, ⟨(px.only r ho).yes, (px.only r ho).no, px.lq⟩⟩, (HF.out.2.trans (Only.of_below hq)).trans ho⟩
    have c3 := r.c3
    have f3 := r.f3
    clear hq HF r px ho
    go_wp2_with fail
    go_ret
    exact ⟨rfl, HG.out⟩
theorem turn_any (h : PP w b s) (ok : Ok k s) (hk : k ≤ 1000000) (t : Int) : Calls Try.prog 25 #[.pointer (some ⟨b, 0, none⟩), .int .i64 t] w (PpP b (.tuple #[.bool (tuB s t), .int .i64 (tuE s t)]) (tuS s t) w) := by
  have HW := Lib.hid (pwrong_any h ok)
  have HH := Lib.hid h
  clear h
  rcases tu_cases s t with ⟨h1, e1, e2, e3⟩ | ⟨h1, h2, e1, e2, e3⟩ | ⟨h1, h2, e1, e2, e3⟩ | ⟨h1, h2, e1, e2, e3⟩ <;> rw [e1, e2, e3] <;> clear e1 e2 e3
  · rw [if_pos h1] at HW
    clear ok
    go_enter Try.func25, Try.ntmps25
    go_wp2_with fail
    refine HW.out.mono ?_
    rintro E w1 ⟨rfl, hq⟩
    have HF := Lib.hid (And.intro (HH.out.below hq) (Only.of_below hq : Only b w w1))
    clear hq
    go_wp2_with fail
    go_ret2
    exact ⟨rfl, HF.out⟩
  · rw [h1] at HW
    replace HW : Hid (Calls Try.prog 34 #[.pointer (some ⟨b, 0, none⟩)] w (VB (.int .i64 0) w)) := HW
    have d1 : decide (s.e < t) = true := by simpa using h2
    clear ok
    go_enter Try.func25, Try.ntmps25
    go_wp2_with fail
    refine HW.out.mono ?_
    rintro E w1 ⟨rfl, hq⟩
    have HF := Lib.hid (And.intro (HH.out.below hq) (Only.of_below hq : Only b w w1))
    obtain ⟨x, r, _⟩ := HF.out.1
    have c4 := r.c4
    clear hq r
    go_wp2_with fail
    go_ret2
    exact ⟨rfl, HF.out⟩
  · rw [h1] at HW
    replace HW : Hid (Calls Try.prog 34 #[.pointer (some ⟨b, 0, none⟩)] w (VB (.int .i64 0) w)) := HW
    have d1 : decide (s.e < t) = false := by simp; omega
    have d2 : decide (t < s.e) = true := by simpa using h2
    clear ok
    go_enter Try.func25, Try.ntmps25
    go_wp2_with fail
    refine HW.out.mono ?_
    rintro E w1 ⟨rfl, hq⟩
    have HF := Lib.hid (And.intro (HH.out.below hq) (Only.of_below hq : Only b w w1))
    obtain ⟨x, r, _⟩ := HF.out.1
    have c4 := r.c4
    clear hq r
    go_wp2_with fail
    go_ret2
    exact ⟨rfl, HF.out⟩
  · rw [h1] at HW
    replace HW : Hid (Calls Try.prog 34 #[.pointer (some ⟨b, 0, none⟩)] w (VB (.int .i64 0) w)) := HW
    subst h2
    have d1 : decide (s.e < s.e) = false := by simp
    have HE : Hid (∀ w1, PP w1 b s → Calls Try.prog 43 #[.pointer (some ⟨b, 0, none⟩)] w1 (PpP b (.tuple #[]) (ended s s.e) w1)) := Lib.hid (fun w1 h => by
      obtain ⟨x, r, px⟩ := h
      have n0 := ok.n0
      have n1 : s.n ≤ 64 := by have := ok.n1; have := ok.m.2.2; have := ok.m.1.2; omega
      have s0 := ok.s0
      have s1 : s.sh ≤ 1000000000 := by have := ok.s1; omega
      have a1 := ok.e0
      have a2 : s.e ≤ 1125899906842624 := by have := ok.e1; omega
      rcases ended_cases s s.e with ⟨q1, e⟩ | ⟨q1, q2, e⟩ | ⟨q1, q2, e⟩ <;> rw [e] <;> clear e
      · obtain ⟨nb, rfl, ht⟩ := px.yes (by unfold wts; simp [*])
        rw [if_pos q1, px.lq q1] at ht
        refine (end_gone r (Or.inr ⟨nb, rfl, ht⟩) n0 n1 s0 s1 a1 a2).mono ?_
        rintro E w2 ⟨rfl, r2, ho⟩
        exact ⟨rfl, ⟨none, r2, ⟨fun e => absurd e (by simp [wts]), fun _ => rfl, px.lq⟩⟩, ho⟩
      · obtain rfl := px.no (by unfold wts; simp [*])
        refine (end_on r (Or.inl ⟨rfl, rfl, rfl⟩) n0 n1 s0 s1 a1 a2 ok.m.1.1 ok.m.1.2).mono ?_
        rintro E w2 ⟨rfl, r2, ho⟩
        exact ⟨rfl, ⟨none, r2, ⟨fun e => absurd e (by simp [wts, *]), fun _ => rfl, px.lq⟩⟩, ho⟩
      · have hm : may s.q s.r := by rcases ok.q with h | h; exact absurd h q2; exact h
        obtain ⟨nb, rfl, ht⟩ := px.yes (by unfold wts; simp [*])
        rw [if_neg (by rw [q1]; decide)] at ht
        refine (end_on r (Or.inr ⟨nb, rfl, ht⟩) n0 n1 s0 s1 a1 a2 hm.1.1 hm.1.2).mono ?_
        rintro E w2 ⟨rfl, r2, ho⟩
        exact ⟨rfl, ⟨none, r2, ⟨fun e => absurd e (by simp [wts, *]), fun _ => rfl, fun _ => rfl⟩⟩, ho⟩)
    clear ok
    go_enter Try.func25, Try.ntmps25
    go_wp2_with fail
    refine HW.out.mono ?_
    rintro E w1 ⟨rfl, hq⟩
    have HF := Lib.hid (And.intro (HH.out.below hq) (Only.of_below hq : Only b w w1))
    obtain ⟨x, r, _⟩ := HF.out.1
    have c4 := r.c4
    clear hq r
    go_wp2_with fail
    refine (HE.out _ HF.out.1).mono ?_
    rintro E w2 ⟨rfl, hp, ho⟩
    have HG := Lib.hid (And.intro hp (HF.out.2.trans ho))
    clear hp ho HF HE
    go_wp2_with fail
    go_ret2
    exact ⟨rfl, HG.out⟩
theorem leave_any (h : PP w b s) (ok : Ok k s) : Calls Try.prog 24 #[.pointer (some ⟨b, 0, none⟩)] w (PpP b (.int .i64 (leE s)) (leS s) w) := by
  have HH := Lib.hid h
  by_cases hb : busy s
  · rw [(le_busy hb).1, (le_busy hb).2]
    have HW := Lib.hid (wait_yes h ok hb)
    clear h ok hb
    go_enter Try.func24, Try.ntmps24
    go_wp2_with fail
    refine HW.out.mono ?_
    rintro E w1 ⟨rfl, hq⟩
    have HF := Lib.hid (And.intro (HH.out.below hq) (Only.of_below hq : Only b w w1))
    clear hq
    go_wp2_with fail
    go_ret
    exact ⟨rfl, HF.out⟩
  · have HW := Lib.hid (wait_no h ok hb)
    rw [(le_yes hb).1, (le_yes hb).2]
    have hv : s.q = 0 ∧ s.ov = false := by
      rcases busy_cases s with ⟨_, x⟩ | ⟨_, _, x⟩ | ⟨_, _, _, x⟩ | ⟨h1, h2, h3, _⟩
      · exact absurd x hb
      · exact absurd x hb
      · exact absurd x hb
      · exact ⟨h3, h1⟩
    have HX : Hid (∀ w1, Below w.heap.size w w1 → ((w1.alloc (.cells #[.int .i64 0, .int .i64 0] 60)).frozen? ⟨b, 2, none⟩ = false ∧ ∃ x, (w1.alloc (.cells #[.int .i64 0, .int .i64 0] 60)).cell? ⟨b, 2, none⟩ = some (.pointer x)) ∧ PP ((w1.alloc (.cells #[.int .i64 0, .int .i64 0] 60)).setCell ⟨b, 2, none⟩ (.pointer (some ⟨w1.heap.size, 0, none⟩))) b { s with lv := true } ∧ Only b w ((w1.alloc (.cells #[.int .i64 0, .int .i64 0] 60)).setCell ⟨b, 2, none⟩ (.pointer (some ⟨w1.heap.size, 0, none⟩)))) := Lib.hid (fun w1 h1 => by
      have ha := h1.alloc h1.size (.cells #[.int .i64 0, .int .i64 0] 60)
      obtain ⟨x, r, px⟩ := HH.out.below ha
      have ht := RT.new w1 0 0
      have ho := Only.set (w1.alloc (.cells #[.int .i64 0, .int .i64 0] 60)) b 2 (.pointer (some ⟨w1.heap.size, 0, none⟩))
      have ht2 : RT ((w1.alloc (.cells #[.int .i64 0, .int .i64 0] 60)).setCell ⟨b, 2, none⟩ (.pointer (some ⟨w1.heap.size, 0, none⟩))) w1.heap.size 0 0 := (ho.block _ ht.lt (RT.ne r ht)).trans ht
      refine ⟨⟨r.f2, x, r.c2⟩, ⟨_, r.set2 _, ⟨fun _ => ⟨_, rfl, ?_⟩, fun e => absurd e ?_, fun _ => hv.1⟩⟩, (Only.of_below ha).trans ho⟩
      · show RT _ _ s.q 0
        rw [hv.1]; exact ht2
      · simp [wts, hv])
    clear h ok hb hv
    go_enter Try.func24, Try.ntmps24
    go_wp2_with fail
    refine HW.out.mono ?_
    rintro E w1 ⟨rfl, hq⟩
    obtain ⟨⟨f2, x, c2⟩, hr⟩ := HX.out w1 hq
    have HF := Lib.hid hr
    clear hq HW HX hr
    go_wp2_with fail
    go_ret
    exact ⟨rfl, HF.out⟩
end
section
variable (w : World) {p b t : Int}
theorem new_yes (h : nwE p b t = 0) : Calls Try.prog 13 #[.int .i64 p, .int .i64 b, .int .i64 t] w (fun E w' => ∃ g, E = .returned (.tuple #[.pointer (some ⟨g, 0, none⟩), .int .i64 0]) ∧ PP w' g (nwS p b t) ∧ w.heap.size ≤ g ∧ Below w.heap.size w w') := by
  rcases nwE_cases p b t with ⟨_, q⟩ | ⟨_, _, q⟩ | ⟨_, _, q⟩ | ⟨hm, q1, q2, _⟩
  · rw [h] at q; cases q
  · rw [h] at q; cases q
  · rw [h] at q; cases q
  · have HM : Hid (∀ w, Calls Try.prog 31 #[.agg #[.int .i64 p, .int .i64 b]] w (VB (.bool true) w)) := Lib.hid (fun w => by have := may_any p b w; rwa [decide_eq_true hm] at this)
    have p1 := hm.1.1
    have p2 := hm.1.2
    have d1 : decide (t < 0) = false := by simp; omega
    have d2 : decide (1099511627776 < t) = false := by simp; omega
    have HB := Lib.hid (below_al w (.cells #[.int .i64 p, .int .i64 b] 60))
    have t0 := (RT.new w p b).c0
    have t1 := (RT.new w p b).c1
    clear h hm
    go_enter Try.func13, Try.ntmps13
    go_wp2_with fail
    refine (HM.out _).mono ?_
    rintro E w1 ⟨rfl, hq⟩
    have HB1 := Lib.hid (HB.out.trans (hq.mono HB.out.size))
    have u0 := ((RT.new w p b).below hq).c0
    have u1 := ((RT.new w p b).below hq).c1
    have v0 := (((RT.new w p b).below hq).below (below_al w1 (.cells #[.int .i64 0, .int .i64 0, .pointer none, .int .i64 0, .int .i64 t, .int .i64 0, .bool false] 63))).c0
    have v1 := (((RT.new w p b).below hq).below (below_al w1 (.cells #[.int .i64 0, .int .i64 0, .pointer none, .int .i64 0, .int .i64 t, .int .i64 0, .bool false] 63))).c1
    have HR := Lib.hid (show RP (w1.alloc (.cells #[.int .i64 0, .int .i64 0, .pointer none, .int .i64 0, .int .i64 t, .int .i64 0, .bool false] 63)) w1.heap.size 0 0 none 0 t 0 false from heap_alloc_new w1 _)
    have HB2 := Lib.hid (HB1.out.alloc HB1.out.size (.cells #[.int .i64 0, .int .i64 0, .pointer none, .int .i64 0, .int .i64 t, .int .i64 0, .bool false] 63))
    clear hq HB
    go_wp2_with fail
    refine (begin_any HR.out p1 p2 q1 (by omega)).mono ?_
    rintro E w2 ⟨rfl, hr, ho⟩
    have HF : Hid (PP w2 w1.heap.size (nwS p b t) ∧ w.heap.size ≤ w1.heap.size ∧ Below w.heap.size w w2) := Lib.hid ⟨⟨none, hr, ⟨fun e => absurd e (by simp [wts, nwS]), fun _ => rfl, fun e => absurd e (by simp [nwS])⟩⟩, HB1.out.size, HB2.out.trans (ho.below HB2.out.size HB1.out.size)⟩
    clear hr ho HB1 HB2 HR
    go_wp2_with fail
    go_ret2
    exact ⟨_, rfl, HF.out⟩
theorem new_no (h : nwE p b t ≠ 0) : Calls Try.prog 13 #[.int .i64 p, .int .i64 b, .int .i64 t] w (VB (.tuple #[.pointer none, .int .i64 (nwE p b t)]) w) := by
  have HB := Lib.hid (below_al w (.cells #[.int .i64 p, .int .i64 b] 60))
  have t0 := (RT.new w p b).c0
  have t1 := (RT.new w p b).c1
  rcases nwE_cases p b t with ⟨hm, q⟩ | ⟨hm, q1, q⟩ | ⟨hm, q1, q⟩ | ⟨_, _, _, q⟩
  · rw [q]
    have HM : Hid (∀ w, Calls Try.prog 31 #[.agg #[.int .i64 p, .int .i64 b]] w (VB (.bool false) w)) := Lib.hid (fun w => by have := may_any p b w; rwa [decide_eq_false hm] at this)
    clear h hm q
    go_enter Try.func13, Try.ntmps13
    go_wp2_with fail
    refine (HM.out _).mono ?_
    rintro E w1 ⟨rfl, hq⟩
    have HB1 := Lib.hid (HB.out.trans (hq.mono HB.out.size))
    clear hq HB
    go_wp2_with fail
    go_ret2
    exact ⟨rfl, HB1.out⟩
  · rw [q]
    have HM : Hid (∀ w, Calls Try.prog 31 #[.agg #[.int .i64 p, .int .i64 b]] w (VB (.bool true) w)) := Lib.hid (fun w => by have := may_any p b w; rwa [decide_eq_true hm] at this)
    have d0 : decide (t < 0) = true := by simpa using q1
    clear h hm q
    go_enter Try.func13, Try.ntmps13
    go_wp2_with fail
    refine (HM.out _).mono ?_
    rintro E w1 ⟨rfl, hq⟩
    have HB1 := Lib.hid (HB.out.trans (hq.mono HB.out.size))
    clear hq HB
    go_wp2_with fail
    go_ret2
    exact ⟨rfl, HB1.out⟩
  · rw [q]
    have HM : Hid (∀ w, Calls Try.prog 31 #[.agg #[.int .i64 p, .int .i64 b]] w (VB (.bool true) w)) := Lib.hid (fun w => by have := may_any p b w; rwa [decide_eq_true hm] at this)
    have d0 : decide (t < 0) = false := by simp; omega
    have d1 : decide (1099511627776 < t) = true := by simpa using q1
    clear h hm q
    go_enter Try.func13, Try.ntmps13
    go_wp2_with fail
    refine (HM.out _).mono ?_
    rintro E w1 ⟨rfl, hq⟩
    have HB1 := Lib.hid (HB.out.trans (hq.mono HB.out.size))
    clear hq HB
    go_wp2_with fail
    go_ret2
    exact ⟨rfl, HB1.out⟩
  · exact absurd q h
end
end Go.Proofs.Ytfjeoefnpcgnnaa.Pw
