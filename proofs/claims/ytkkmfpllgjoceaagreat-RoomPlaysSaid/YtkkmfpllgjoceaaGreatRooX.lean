/- The chapter's example: works. -/
import Derived.Test.YtkkmfpllgjoceaaGreatRooQ
import Derived.Test.YtkkmfpllgjoceaaGreatZb
import Derived.Test.YtkkmfpllgjoceaaGreatZt
namespace Go.Proofs.YtkkmfpllgjoceaaGreat.Ro
open Go.RowKit Go.Sort Ac Jo
set_option linter.unusedVariables false
set_option maxRecDepth 100000

section
variable {Q : Rprg} {B : Nat} {W w : World} {rb : Nat} {s : Rm} {F : Nat → Prop}
theorem of_did (h : OF Q B W w rb s F) (t : Int) {x : Int} (e : didRE s t = x) : Calls Tryz.prog 20 #[.pointer (some ⟨rb, 0, none⟩), .int .i64 t] w (OFP Q (.int .i64 x) B W rb (didR s t) F w) := by subst e; exact h.wr (h.iv.did t) (fun S j => Q.did j h.iv t)
theorem of_run (h : OF Q B W w rb s F) (t : Int) {x : Int} (e : runRE s t = x) : Calls Tryz.prog 21 #[.pointer (some ⟨rb, 0, none⟩), .int .i64 t] w (OFP Q (.int .i64 x) B W rb (runR s t) F w) := by subst e; exact h.wr (h.iv.run t) (fun S j => Q.run j h.iv t)
theorem of_lock (h : OF Q B W w rb s F) (t r : Int) {x : Int} (e : lockRE s t r = x) : Calls Tryz.prog 22 #[.pointer (some ⟨rb, 0, none⟩), .int .i64 t, .int .i64 r] w (OFP Q (.int .i64 x) B W rb (lockR s t r) F w) := by subst e; exact h.wr (h.iv.lock t r) (fun S j => Q.lock j h.iv t r)
theorem of_unlock (h : OF Q B W w rb s F) (t : Int) {x : Int} (e : unlRE s t = x) : Calls Tryz.prog 23 #[.pointer (some ⟨rb, 0, none⟩), .int .i64 t] w (OFP Q (.int .i64 x) B W rb (unlRm s t) F w) := by subst e; exact h.wr (h.iv.unl t) (fun S j => Q.unlock j h.iv t)
theorem of_ask (h : OF Q B W w rb s F) (t : Int) {x : Int} (e : askRE s t = x) : Calls Tryz.prog 24 #[.pointer (some ⟨rb, 0, none⟩), .int .i64 t] w (OFP Q (.int .i64 x) B W rb (askR s t) F w) := by subst e; exact h.wr (h.iv.ask t) (fun S j => Q.ask j h.iv t)
theorem of_hold (h : OF Q B W w rb s F) (t : Int) {x : Int} (e : holdRE s t = x) : Calls Tryz.prog 25 #[.pointer (some ⟨rb, 0, none⟩), .int .i64 t] w (OFP Q (.int .i64 x) B W rb (holdR s t) F w) := by subst e; exact h.wr (h.iv.hold t) (fun S j => Q.hold j h.iv t)
theorem of_give (h : OF Q B W w rb s F) (t : Int) {x : Int} (e : giveRE s t = x) : Calls Tryz.prog 26 #[.pointer (some ⟨rb, 0, none⟩), .int .i64 t] w (OFP Q (.int .i64 x) B W rb (giveR s t) F w) := by subst e; exact h.wr (h.iv.give t) (fun S j => Q.give j h.iv t)
theorem of_fin (h : OF Q B W w rb s F) (t : Int) {x : Bool} (e : endB s t = x) : Calls Tryz.prog 27 #[.pointer (some ⟨rb, 0, none⟩), .int .i64 t] w (OFP Q (.bool x) B W rb (endR s t) F w) := by subst e; exact h.wr (h.iv.fin t) (fun S j => Q.fin j h.iv t)
theorem of_rel (h : OF Q B W w rb s F) {v : Value} {l : List Ak} (hv : AS w v l) (t now : Int) {x : Int} (e : relE s t l now = x) : Calls Tryz.prog 28 #[.pointer (some ⟨rb, 0, none⟩), .int .i64 t, v, .int .i64 now] w (OFP Q (.int .i64 x) B W rb (relR s t l now) F w) := by subst e; exact h.wr (h.iv.rel t l now) (fun S j => Q.rel j h.iv hv t now)
theorem of_who (h : OF Q B W w rb s F) {v : Value} (e : whoV s = v) : Calls Tryz.prog 19 #[.pointer (some ⟨rb, 0, none⟩)] w (OFP Q v B W rb s F w) := by subst e; exact h.rd (fun S j => Q.who j h.iv)
theorem of_fault (h : OF Q B W w rb s F) (t now : Int) {x : Int} (e : fauR s t now = x) : Calls Tryz.prog 32 #[.pointer (some ⟨rb, 0, none⟩), .int .i64 t, .int .i64 now] w (OFP Q (.int .i64 x) B W rb s F w) := by subst e; exact h.rd (fun S j => Q.fault j h.iv t now)
theorem of_sole (h : OF Q B W w rb s F) {v : Value} (e : soleV s = v) : Calls Tryz.prog 30 #[.pointer (some ⟨rb, 0, none⟩)] w (OFP Q v B W rb s F w) := by subst e; exact h.rd (fun S j => Q.sole j h.iv)
theorem of_dead (h : OF Q B W w rb s F) (t : Int) {v : Value} (e : deadV s t = v) : Calls Tryz.prog 17 #[.pointer (some ⟨rb, 0, none⟩), .int .i64 t] w (OFP Q v B W rb s F w) := by subst e; exact h.rd (fun S j => Q.dead j h.iv t)
theorem of_ear (h : OF Q B W w rb s F) (t : Int) {x : Int} (e : earV s t = x) : Calls Tryz.prog 29 #[.pointer (some ⟨rb, 0, none⟩), .int .i64 t] w (OFP Q (.int .i64 x) B W rb s F w) := by subst e; exact h.rd (fun S j => Q.ear j h.iv t)
/-- a room is made, beside blocks that are there -/
theorem of_new (Q : Rprg) (hb : Below B W w) (hB : B ≤ W.heap.size) (hF : ∀ k, F k → k < w.heap.size) {v : Value} {n : Nat} {z : Nat → Nat → Int} (h : St.TK w v n z) (hn : n ≤ 4) (hz : ∀ i, i < n → Jo.tok (z i) = true) (h7 : ∀ i, i < n → z i 7 ≤ 9223372036854775807) :
    Calls Tryz.prog 7 #[v] w (fun e w' => ∃ rb, e = .returned (.tuple #[.pointer (some ⟨rb, 0, none⟩), .int .i64 0]) ∧ OF Q B W w' rb (noRm n z) F ∧ (∀ k, F k → w'.heap[k]? = w.heap[k]?) ∧ Below w.heap.size w w') := by
  refine (Q.newOk h hn hz).mono ?_
  rintro e w' ⟨rb, S, rfl, j, hS, hb2⟩
  have hs := Nat.le_trans hB hb.size
  exact ⟨rb, rfl, ⟨⟨S, j, fun k hk => Nat.le_trans hs (hS k hk), fun k hk y => by have := hS k y; have := hF k hk; omega⟩, fun k hk => Nat.lt_of_lt_of_le (hF k hk) hb2.size, Rinv.no hn hz h7, hB, hb.trans (hb2.mono hs)⟩, fun k hk => hb2.block k (hF k hk), hb2⟩
/-- who: is it just that task? -/
theorem lawwho_any (h : OF Q B W w rb s F) {x : Int} {b : Bool} (e : whoV s = .tuple #[.int .i64 x, .bool b]) (t : Int) {r : Bool} (hr : (x == t && b) = r) : Calls Tryz.prog 31 #[.pointer (some ⟨rb, 0, none⟩), .int .i64 t] w (OFP Q (.bool r) B W rb s F w) := by
  have HC := Lib.hid (of_who h e)
  subst hr
  clear h e
  by_cases hx : (x == t) = true
  · rw [hx]
    go_enter Tryz.func31, Tryz.ntmps31
    go_wp2_with fail
    refine HC.out.mono ?_
    rintro e w1 ⟨rfl, q1, q2, q3⟩
    have HQ : Hid (OF Q B W w1 rb s F ∧ (∀ k, F k → w1.heap[k]? = w.heap[k]?) ∧ w.heap.size ≤ w1.heap.size) := ⟨q1, q2, q3⟩
    clear q1 q2 q3 HC
    go_wp2_with fail
    go_ret
    exact ⟨rfl, HQ.out⟩
  · have hx : (x == t) = false := by simpa using hx
    rw [hx]
    go_enter Tryz.func31, Tryz.ntmps31
    go_wp2_with fail
    refine HC.out.mono ?_
    rintro e w1 ⟨rfl, q1, q2, q3⟩
    have HQ : Hid (OF Q B W w1 rb s F ∧ (∀ k, F k → w1.heap[k]? = w.heap[k]?) ∧ w.heap.size ≤ w1.heap.size) := ⟨q1, q2, q3⟩
    clear q1 q2 q3 HC
    go_wp2_with fail
    go_ret
    exact ⟨rfl, HQ.out⟩
end
/-- two tasks in a row of the call's own -/
theorem tk_two (w : World) (z : Nat → Nat → Int) {g : Nat} (h : w.heap[g]? = some (.cells (St.tcl z 2).toArray 55 (0, 0))) : St.TK w (.slice (some ⟨g, 0, none⟩) 2 2) 2 z := by
  refine ⟨_, 2, rfl, Nat.le_refl _, by unfold maxLen; omega, (fun e => by cases e), fun _ => ⟨g, 0, rfl, fun i hi j hj => ?_⟩⟩
  rw [cell_of_row _ _ _ _ _ _ h, Nat.zero_add, List.getElem?_toArray]
  exact St.tcl_at z 2 i j hi hj
def zw (i : Nat) (j : Nat) : Int := (if i = 0 then [20, 10, 4, 1, 1, 0, 0, 0] else [30, 20, 6, 1, 3, 0, 0, 0] : List Int).getD j 0
def lw : List Ak := [⟨2, 0, e0⟩, ⟨1, 3, e0⟩, ⟨3, 0, e0⟩, ⟨1, 3, e0⟩]
def rw2 : List Ak := [⟨1, 2, e0⟩]
def W0 : Rm := noRm 2 zw
def W1 : Rm := relR W0 1 lw 0
def W2 : Rm := lockR W1 1 0
def W3 : Rm := didR W2 1
def W4 : Rm := relR W3 0 rw2 1
def W5 : Rm := runR W4 1
def W6 : Rm := runR W5 1
def W7 : Rm := runR W6 1
def W8 : Rm := unlRm W7 1
def W9 : Rm := didR W8 1
def WA : Rm := relR W9 0 rw2 25
def WB : Rm := endR WA 0
def WC : Rm := relR WB 0 rw2 15
def WD : Rm := relR WC 0 rw2 21
/-- the rows of the example stay, whatever the room does -/
structure WK (w : World) (g1 g2 : Nat) : Prop where
  a : AS w (.slice (some ⟨g1, 0, none⟩) 4 4) lw
  b : AS w (.slice (some ⟨g2, 0, none⟩) 1 1) rw2
theorem WK.keep {w w' : World} {g1 g2 : Nat} (h : WK w g1 g2) (q : ∀ k, (k = g1 ∨ k = g2) → w'.heap[k]? = w.heap[k]?) : WK w' g1 g2 :=
  ⟨h.a.keep fun k hk => q k (Or.inl (by injection hk with hk; exact hk.symm)), h.b.keep fun k hk => q k (Or.inr (by injection hk with hk; exact hk.symm))⟩
/-- an answer; the room, the rows -/
def WP (Q : Rprg) (v : Value) (w0 : World) (rb g1 g2 : Nat) (s : Rm) (e : Ending) (w' : World) : Prop := e = .returned v ∧ OF Q w0.heap.size w0 w' rb s (fun k => k = g1 ∨ k = g2) ∧ WK w' g1 g2
section
variable {Q : Rprg} {w0 w : World} {rb g1 g2 : Nat} {s s' : Rm} {v : Value} {f : Nat} {args : Array Value}
theorem WP.of (k : WK w g1 g2) (h : Calls Tryz.prog f args w (OFP Q v w0.heap.size w0 rb s (fun k => k = g1 ∨ k = g2) w)) : Calls Tryz.prog f args w (WP Q v w0 rb g1 g2 s) := h.mono fun e w' ⟨h1, h2, h3, _⟩ => ⟨h1, h2, k.keep h3⟩
end
set_option maxHeartbeats 8000000 in
theorem works_any (Q : Rprg) (w : World) : Calls Tryz.prog 13 #[] w (TrueB w) := by
  have hb1 := below_al w (.cells (St.tcl zw 2).toArray 55)
  have HB1 := Lib.hid hb1
  have htk := tk_two _ zw (heap_alloc_new w (.cells (St.tcl zw 2).toArray 55))
  have HN := Lib.hid (of_new (F := fun _ => False) Q hb1 (Nat.le_refl _) (fun k hk => hk.elim) htk (by decide) (fun i hi => by rcases (show i = 0 ∨ i = 1 by omega) with rfl | rfl <;> decide) (fun i hi => by rcases (show i = 0 ∨ i = 1 by omega) with rfl | rfl <;> decide))
  have HN : Hid (Calls Tryz.prog 7 #[.slice (some ⟨w.heap.size, 0, none⟩) 2 2] (w.alloc (.cells #[.int .i64 20, .int .i64 10, .int .i64 4, .int .i64 1, .int .i64 1, .int .i64 0, .int .i64 0, .int .i64 0, .int .i64 30, .int .i64 20, .int .i64 6, .int .i64 1, .int .i64 3, .int .i64 0, .int .i64 0, .int .i64 0] 55)) (fun e w' => ∃ rb, e = .returned (.tuple #[.pointer (some ⟨rb, 0, none⟩), .int .i64 0]) ∧ OF Q w.heap.size w w' rb W0 (fun _ => False))) := HN.out.mono fun e w' ⟨rb, h1, h2, _⟩ => ⟨rb, h1, h2⟩
  clear hb1 htk HB1
  go_enter Tryz.func13, Tryz.ntmps13
  go_wp2_with fail
  refine HN.out.mono ?_
  rintro e w1 ⟨rb, rfl, hof⟩
  -- the rows
  have hA1 := below_al w1 (.cells (acells lw).toArray 57)
  have hA2 := hA1.alloc hA1.size (.cells (acells rw2).toArray 57)
  have hg1 := heap_alloc_new w1 (.cells (acells lw).toArray 57)
  have hw1 := as_lit (l := lw) hg1 (by decide)
  have hw2 := as_lit (l := rw2) (heap_alloc_new (w1.alloc (.cells (acells lw).toArray 57)) (.cells (acells rw2).toArray 57)) (by decide)
  have HWK : Hid (WK ((w1.alloc (.cells (acells lw).toArray 57)).alloc (.cells (acells rw2).toArray 57)) w1.heap.size (w1.heap.size + 1)) := by
    rw [World.size_alloc] at hw2
    exact ⟨hw1.below (below_al _ _), hw2⟩
  have HOF : Hid (OF Q w.heap.size w ((w1.alloc (.cells (acells lw).toArray 57)).alloc (.cells (acells rw2).toArray 57)) rb W0 (fun k => k = w1.heap.size ∨ k = w1.heap.size + 1)) :=
    hof.to (Only.of_below hA2) (fun k hk => hk.elim) (fun k hk => Or.inr (by rw [World.size_alloc, World.size_alloc]; omega))
  obtain ⟨X2, hX2⟩ : ∃ X2, X2 = ((w1.alloc (.cells (acells lw).toArray 57)).alloc (.cells (acells rw2).toArray 57)) := ⟨_, rfl⟩
  rw [← hX2] at HWK HOF
  have HX2 : Hid (X2 = ((w1.alloc (.cells #[.int .i64 2, .int .i64 0, .string ⟨#[]⟩, .int .i64 1, .int .i64 3, .string ⟨#[]⟩, .int .i64 3, .int .i64 0, .string ⟨#[]⟩, .int .i64 1, .int .i64 3, .string ⟨#[]⟩] 57)).alloc (.cells #[.int .i64 1, .int .i64 2, .string ⟨#[]⟩] 57))) := hX2
  clear hX2 hw1 hw2 hg1 hA1 hA2 hof HN
  go_wp2_with fail
  rw [← HX2.out]
  clear HX2
  generalize w1.heap.size = g1 at *
  refine (WP.of (s := W1) HWK.out (of_rel HOF.out HWK.out.a 1 0 (x := 0) (by decide))).mono ?_
  rintro e w2 ⟨rfl, hof, hwk⟩
  clear HOF HWK
  have HOF := Lib.hid hof
  have HWK := Lib.hid hwk
  clear hof hwk
  go_wp2_with fail
  refine (WP.of (s := W1) HWK.out (lawwho_any HOF.out (x := 1) (b := true) rfl 1 (r := true) rfl)).mono ?_
  rintro e w2 ⟨rfl, hof, hwk⟩
  clear HOF HWK
  have HOF := Lib.hid hof
  have HWK := Lib.hid hwk
  clear hof hwk
  go_wp2_with fail
  refine (WP.of (s := W2) HWK.out (of_lock HOF.out 1 0 (x := 0) (by decide))).mono ?_
  rintro e w2 ⟨rfl, hof, hwk⟩
  clear HOF HWK
  have HOF := Lib.hid hof
  have HWK := Lib.hid hwk
  clear hof hwk
  go_wp2_with fail
  refine (WP.of (s := W3) HWK.out (of_did HOF.out 1 (x := 0) (by decide))).mono ?_
  rintro e w2 ⟨rfl, hof, hwk⟩
  clear HOF HWK
  have HOF := Lib.hid hof
  have HWK := Lib.hid hwk
  clear hof hwk
  go_wp2_with fail
  refine (WP.of (s := W4) HWK.out (of_rel HOF.out HWK.out.b 0 1 (x := 0) (by decide))).mono ?_
  rintro e w2 ⟨rfl, hof, hwk⟩
  clear HOF HWK
  have HOF := Lib.hid hof
  have HWK := Lib.hid hwk
  clear hof hwk
  go_wp2_with fail
  refine (WP.of (s := W4) HWK.out (lawwho_any HOF.out (x := 1) (b := true) rfl 1 (r := true) rfl)).mono ?_
  rintro e w2 ⟨rfl, hof, hwk⟩
  clear HOF HWK
  have HOF := Lib.hid hof
  have HWK := Lib.hid hwk
  clear hof hwk
  go_wp2_with fail
  refine (WP.of (s := W5) HWK.out (of_run HOF.out 1 (x := 0) (by decide))).mono ?_
  rintro e w2 ⟨rfl, hof, hwk⟩
  clear HOF HWK
  have HOF := Lib.hid hof
  have HWK := Lib.hid hwk
  clear hof hwk
  go_wp2_with fail
  refine (WP.of (s := W6) HWK.out (of_run HOF.out 1 (x := 0) (by decide))).mono ?_
  rintro e w2 ⟨rfl, hof, hwk⟩
  clear HOF HWK
  have HOF := Lib.hid hof
  have HWK := Lib.hid hwk
  clear hof hwk
  go_wp2_with fail
  refine (WP.of (s := W7) HWK.out (of_run HOF.out 1 (x := 0) (by decide))).mono ?_
  rintro e w2 ⟨rfl, hof, hwk⟩
  clear HOF HWK
  have HOF := Lib.hid hof
  have HWK := Lib.hid hwk
  clear hof hwk
  go_wp2_with fail
  refine (WP.of (s := W8) HWK.out (of_unlock HOF.out 1 (x := 0) (by decide))).mono ?_
  rintro e w2 ⟨rfl, hof, hwk⟩
  clear HOF HWK
  have HOF := Lib.hid hof
  have HWK := Lib.hid hwk
  clear hof hwk
  go_wp2_with fail
  refine (WP.of (s := W9) HWK.out (of_did HOF.out 1 (x := 0) (by decide))).mono ?_
  rintro e w2 ⟨rfl, hof, hwk⟩
  clear HOF HWK
  have HOF := Lib.hid hof
  have HWK := Lib.hid hwk
  clear hof hwk
  go_wp2_with fail
  refine (WP.of (s := W9) HWK.out (lawwho_any HOF.out (x := 0) (b := true) rfl 0 (r := true) rfl)).mono ?_
  rintro e w2 ⟨rfl, hof, hwk⟩
  clear HOF HWK
  have HOF := Lib.hid hof
  have HWK := Lib.hid hwk
  clear hof hwk
  go_wp2_with fail
  refine (WP.of (s := WA) HWK.out (of_rel HOF.out HWK.out.b 0 25 (x := 141) (by decide))).mono ?_
  rintro e w2 ⟨rfl, hof, hwk⟩
  clear HOF HWK
  have HOF := Lib.hid hof
  have HWK := Lib.hid hwk
  clear hof hwk
  go_wp2_with fail
  refine (WP.of (s := WB) HWK.out (of_fin HOF.out 0 (x := true) (by decide))).mono ?_
  rintro e w2 ⟨rfl, hof, hwk⟩
  clear HOF HWK
  have HOF := Lib.hid hof
  have HWK := Lib.hid hwk
  clear hof hwk
  go_wp2_with fail
  refine (WP.of (s := WC) HWK.out (of_rel HOF.out HWK.out.b 0 15 (x := 140) (by decide))).mono ?_
  rintro e w2 ⟨rfl, hof, hwk⟩
  clear HOF HWK
  have HOF := Lib.hid hof
  have HWK := Lib.hid hwk
  clear hof hwk
  go_wp2_with fail
  refine (WP.of (s := WD) HWK.out (of_rel HOF.out HWK.out.b 0 21 (x := 0) (by decide))).mono ?_
  rintro e w2 ⟨rfl, hof, hwk⟩
  clear HOF HWK
  have HOF := Lib.hid hof
  have HWK := Lib.hid hwk
  clear hof hwk
  go_wp2_with fail
  go_ret
  exact ⟨rfl, HOF.out.bel⟩
end Go.Proofs.YtkkmfpllgjoceaaGreat.Ro
