/- JobNames: both ends, jobs that are none. -/
import Derived.Test.YtoggnofdgmhbmaaJobN
import Derived.Test.YtoggnofdgmhbmaaJobW
import Derived.Test.YtoggnofdgmhbmaaJobM
import Derived.Test.YtoggnofdgmhbmaaJobZ
import Derived.Deep.CutRange
namespace Go.Proofs.Ytoggnofdgmhbmaa
open Go.RowKit Go.Sort Ac Jo
set_option linter.unusedVariables false

def T5 (i : Nat) : Int := [5, 5, 2, 0, 0, 0, 0, 0].getD i 0
def TZ (i : Nat) : Int := 0
def zq : List Ak := List.replicate 33 o0
theorem zq_len : zq.length = 33 := by simp [zq]
theorem make_33 (w : World) : (Instr.makeSlice 24 (.int .i64 33) (.int .i64 33)).run Try.prog w = .ok (.slice (some ⟨w.heap.size, 0, none⟩) 33 33) (w.alloc (.cells (acells zq).toArray 49)) := by kernel_rfl
/-- two jobs of the program's, apart -/
structure KJ (B : Nat) (W w : World) (kb : Nat) (R : Nat → Prop) (u : Jb) (jb : Nat) (S : Nat → Prop) (s : Jb) : Prop where
  k : OJ Q0 B W w kb R u
  j : OJ Q0 B W w jb S s
  ap : ∀ i, S i → R i → False
def KV (v : Value) (B : Nat) (W : World) (kb : Nat) (R : Nat → Prop) (u : Jb) (jb : Nat) (S : Nat → Prop) (s : Jb) (e : Ending) (w' : World) : Prop := e = .returned v ∧ KJ B W w' kb R u jb S s
section
variable {B : Nat} {W w w' : World} {kb : Nat} {R : Nat → Prop} {u : Jb} {jb : Nat} {S : Nat → Prop} {s s' : Jb} {v : Value} {f : Nat} {args : Array Value}
theorem KJ.below (h : KJ B W w kb R u jb S s) (q : Below w.heap.size w w') : KJ B W w' kb R u jb S s := ⟨h.k.below q, h.j.below q, h.ap⟩
theorem KJ.wr (h : KJ B W w kb R u jb S s) (c : Calls Try.prog f args w (OQ Q0 v B W jb S s' w)) : Calls Try.prog f args w (KV v B W kb R u jb S s') :=
  c.mono fun e w' ⟨e1, e2, e3⟩ => ⟨e1, h.k.far e3 h.j.b (fun i r q => h.ap i q r), e2, h.ap⟩
theorem KJ.rd (h : KJ B W w kb R u jb S s) (c : Calls Try.prog f args w (VB v w)) : Calls Try.prog f args w (KV v B W kb R u jb S s) :=
  c.mono fun e w' ⟨e1, e2⟩ => ⟨e1, h.below e2⟩
theorem KJ.ov (h : KJ B W w kb R u jb S s) (c : Calls Try.prog f args w (OV Q0 v B W jb S s w)) : Calls Try.prog f args w (KV v B W kb R u jb S s) :=
  c.mono fun e w' ⟨e1, _, e2⟩ => ⟨e1, h.below e2⟩
end
theorem rn3 : Gd ([⟨1, 3, e0⟩] : List Ak) := ⟨by decide, fun x hx => by simp at hx; subst hx; exact (show mayB _ = true by decide)⟩
theorem gd_nil : Gd ([] : List Ak) := ⟨by decide, fun x hx => by cases hx⟩
set_option maxRecDepth 100000 in
set_option maxHeartbeats 16000000 in
theorem names_law (w : World) : Calls Try.prog 5 #[] w (TrueB w) := by
  have N1 : Hid (∀ W : World, Calls Try.prog 6 #[.agg #[.int .i64 0, .int .i64 0, .int .i64 0, .int .i64 0, .int .i64 0, .int .i64 0, .int .i64 0, .int .i64 0], .slice none 0 0, .int .i64 0] W (NoP 2 W)) := fun W => pn_task TZ 0 (AS.nil W) (by decide)
  have N2 : Hid (∀ W : World, Calls Try.prog 6 #[.agg #[.int .i64 5, .int .i64 5, .int .i64 2, .int .i64 0, .int .i64 0, .int .i64 0, .int .i64 0, .int .i64 0], .slice none 0 0, .int .i64 (-1)] W (NoP 2 W)) := fun W => pn_neg T5 (-1) (AS.nil W) (by decide) (by decide)
  have N3 : Hid (∀ W : World, Calls Try.prog 6 #[.agg #[.int .i64 5, .int .i64 5, .int .i64 2, .int .i64 0, .int .i64 0, .int .i64 0, .int .i64 0, .int .i64 0], .slice none 0 0, .int .i64 1099511627777] W (NoP 10 W)) := fun W => pn_over T5 1099511627777 (AS.nil W) (by decide) (by decide) (by decide)
  have N4 : Hid (∀ W : World, Calls Try.prog 6 #[.agg #[.int .i64 5, .int .i64 5, .int .i64 2, .int .i64 0, .int .i64 0, .int .i64 0, .int .i64 0, .int .i64 0], .slice (some ⟨W.heap.size, 0, none⟩) 1 1, .int .i64 0] (W.alloc (.cells #[.int .i64 0, .int .i64 0, .string ⟨#[]⟩] 49)) (NoP 2 (W.alloc (.cells #[.int .i64 0, .int .i64 0, .string ⟨#[]⟩] 49)))) := fun W =>
    pn_err T5 0 (as_lit (l := [o0]) (heap_alloc_new W _) (show 1 ≤ maxLen by decide)) (by decide) (by decide) (by decide) (by decide) (fun X v q => new_no q (by decide) (fun hh => absurd (show mayB o0 = true from hh o0 (List.mem_cons_self ..)) (by decide)))
  have N5 : Hid (∀ W : World, Calls Try.prog 6 #[.agg #[.int .i64 5, .int .i64 5, .int .i64 2, .int .i64 0, .int .i64 0, .int .i64 0, .int .i64 0, .int .i64 0], .slice (some ⟨W.heap.size, 0, none⟩) 33 33, .int .i64 0] (W.alloc (.cells (acells zq).toArray 49)).drew (NoP 5 (W.alloc (.cells (acells zq).toArray 49)).drew)) := fun W => by
    have q : AS (W.alloc (.cells (acells zq).toArray 49)).drew (.slice (some ⟨W.heap.size, 0, none⟩) zq.length zq.length) zq := as_lit (l := zq) (heap_alloc_new W _) (by rw [zq_len]; decide)
    rw [zq_len] at q
    exact pn_err T5 0 q (by decide) (by decide) (by decide) (by decide) (fun X v q => new_lim q (by rw [zq_len]; decide))
  have N6 : Hid (∀ W : World, Calls Try.prog 6 #[.agg #[.int .i64 5, .int .i64 5, .int .i64 2, .int .i64 0, .int .i64 0, .int .i64 0, .int .i64 0, .int .i64 0], .slice none 0 0, .int .i64 1099511627776] W (MkJ Q0 W.heap.size W (fresh T5 1099511627781 []) W)) := fun W => oj_new Q0 (Below.refl W.heap.size W) (Nat.le_refl _) T5 1099511627776 (AS.nil W) (by decide) (by decide) (by decide) gd_nil (by decide) (by decide)
  have N7 : Hid (∀ (B : Nat) (W X : World), Below B W X → B ≤ W.heap.size → Calls Try.prog 6 #[.agg #[.int .i64 5, .int .i64 5, .int .i64 2, .int .i64 0, .int .i64 0, .int .i64 0, .int .i64 0, .int .i64 0], .slice (some ⟨X.heap.size, 0, none⟩) 1 1, .int .i64 0] (X.alloc (.cells #[.int .i64 1, .int .i64 3, .string ⟨#[]⟩] 49)) (MkJ Q0 B W (fresh T5 5 [⟨1, 3, e0⟩]) (X.alloc (.cells #[.int .i64 1, .int .i64 3, .string ⟨#[]⟩] 49)))) := fun B W X hb hB =>
    oj_new Q0 (hb.alloc (Nat.le_trans hB hb.size) _) hB T5 0 (as_lit (l := [⟨1, 3, e0⟩]) (heap_alloc_new X _) (show 1 ≤ maxLen by decide)) (by decide) (by decide) (by decide) rn3 (by decide) (by decide)
  have NW := Lib.hid (fun W => jworks_any Q0 W)
  have HT := Lib.hid (T8.new w 5 5 2 0 0 0 0 0)
  have HB := Lib.hid (below_al w (.cells #[.int .i64 5, .int .i64 5, .int .i64 2, .int .i64 0, .int .i64 0, .int .i64 0, .int .i64 0, .int .i64 0] 23))
  go_enter Try.func5, Try.ntmps5
  go_wp2_with fail
  generalize w.alloc (.cells #[.int .i64 5, .int .i64 5, .int .i64 2, .int .i64 0, .int .i64 0, .int .i64 0, .int .i64 0, .int .i64 0] 23) = w0 at *
  obtain ⟨g, hg⟩ : ∃ g, g = w.heap.size := ⟨_, rfl⟩
  have HG := Lib.hid hg
  rw [← hg] at HT ⊢
  clear hg
  refine (N1.out _).mono ?_
  rintro e w1 ⟨rfl, hb⟩
  have HT2 := Lib.hid (HT.out.keep ((hb).block g HT.out.lt))
  have HB2 := Lib.hid (chn HB.out (hb))
  clear hb HT HB N1
  have HT := HT2; have HB := HB2
  clear HT2 HB2
  have y0 := HT.out.c0; have y1 := HT.out.c1; have y2 := HT.out.c2; have y3 := HT.out.c3; have y4 := HT.out.c4; have y5 := HT.out.c5; have y6 := HT.out.c6; have y7 := HT.out.c7
  go_wp2_with fail
  clear y0 y1 y2 y3 y4 y5 y6 y7
  refine (N2.out _).mono ?_
  rintro e w2 ⟨rfl, hb⟩
  have HT2 := Lib.hid (HT.out.keep ((hb).block g HT.out.lt))
  have HB2 := Lib.hid (chn HB.out (hb))
  clear hb HT HB N2
  have HT := HT2; have HB := HB2
  clear HT2 HB2
  have y0 := HT.out.c0; have y1 := HT.out.c1; have y2 := HT.out.c2; have y3 := HT.out.c3; have y4 := HT.out.c4; have y5 := HT.out.c5; have y6 := HT.out.c6; have y7 := HT.out.c7
  go_wp2_with fail
  clear y0 y1 y2 y3 y4 y5 y6 y7
  refine (N3.out _).mono ?_
  rintro e w3 ⟨rfl, hb⟩
  have HT2 := Lib.hid (HT.out.keep ((hb).block g HT.out.lt))
  have HB2 := Lib.hid (chn HB.out (hb))
  clear hb HT HB N3
  have HT := HT2; have HB := HB2
  clear HT2 HB2
  have y0 := HT.out.c0; have y1 := HT.out.c1; have y2 := HT.out.c2; have y3 := HT.out.c3; have y4 := HT.out.c4; have y5 := HT.out.c5; have y6 := HT.out.c6; have y7 := HT.out.c7
  go_wp2_with fail
  clear y0 y1 y2 y3 y4 y5 y6 y7
  refine (N4.out w3).mono ?_
  rintro e w4 ⟨rfl, hb⟩
  have hb2 := (below_al w3 (.cells #[.int .i64 0, .int .i64 0, .string ⟨#[]⟩] 49)).trans (hb.mono (by simp))
  have HT2 := Lib.hid (HT.out.keep (hb2.block g HT.out.lt))
  have HB2 := Lib.hid (chn HB.out hb2)
  clear hb hb2 HT HB N4
  have HT := HT2; have HB := HB2
  clear HT2 HB2
  go_upto_region 6 with (fail)
  go_cut [10, 11] from 47 to 52 (fun x y wc => y = .int .i64 5 ∧ Below w4.heap.size w4 wc)
  case first =>
    have hmk := make_33
    have y0 := HT.out.c0; have y1 := HT.out.c1; have y2 := HT.out.c2; have y3 := HT.out.c3; have y4 := HT.out.c4; have y5 := HT.out.c5; have y6 := HT.out.c6; have y7 := HT.out.c7
    have z0 : ∀ o, (w4.alloc o).cell? ⟨g, 0, none⟩ = some (.int .i64 5) := fun o => (World.cell?_alloc_lt w4 o _ (lt_of_cell y0)).trans y0
    have z1 : ∀ o, (w4.alloc o).cell? ⟨g, 1, none⟩ = some (.int .i64 5) := fun o => (World.cell?_alloc_lt w4 o _ (lt_of_cell y1)).trans y1
    have z2 : ∀ o, (w4.alloc o).cell? ⟨g, 2, none⟩ = some (.int .i64 2) := fun o => (World.cell?_alloc_lt w4 o _ (lt_of_cell y2)).trans y2
    have z3 : ∀ o, (w4.alloc o).cell? ⟨g, 3, none⟩ = some (.int .i64 0) := fun o => (World.cell?_alloc_lt w4 o _ (lt_of_cell y3)).trans y3
    have z4 : ∀ o, (w4.alloc o).cell? ⟨g, 4, none⟩ = some (.int .i64 0) := fun o => (World.cell?_alloc_lt w4 o _ (lt_of_cell y4)).trans y4
    have z5 : ∀ o, (w4.alloc o).cell? ⟨g, 5, none⟩ = some (.int .i64 0) := fun o => (World.cell?_alloc_lt w4 o _ (lt_of_cell y5)).trans y5
    have z6 : ∀ o, (w4.alloc o).cell? ⟨g, 6, none⟩ = some (.int .i64 0) := fun o => (World.cell?_alloc_lt w4 o _ (lt_of_cell y6)).trans y6
    have z7 : ∀ o, (w4.alloc o).cell? ⟨g, 7, none⟩ = some (.int .i64 0) := fun o => (World.cell?_alloc_lt w4 o _ (lt_of_cell y7)).trans y7
    go_region_with (go_at_call 6; refine (N5.out w4).mono ?_; rintro e wn ⟨rfl, hb⟩)
    all_goals
      have hb2 : Below w4.heap.size w4 wn := (below_drew (below_al w4 (.cells (acells zq).toArray 49))).trans (hb.mono (by simp))
      go_wp2_with fail
      go_meet
      case rel => exact ⟨rfl, hb2⟩
  case rest =>
    obtain ⟨rfl, hbc⟩ := hcut
    have HT2 := Lib.hid (HT.out.keep (hbc.block g HT.out.lt))
    have HB2 := Lib.hid (chn HB.out hbc)
    clear hbc HT HB N5
    have HT := HT2; have HB := HB2
    clear HT2 HB2
    have y0 := HT.out.c0; have y1 := HT.out.c1; have y2 := HT.out.c2; have y3 := HT.out.c3; have y4 := HT.out.c4; have y5 := HT.out.c5; have y6 := HT.out.c6; have y7 := HT.out.c7
    go_wp2_with fail
    clear y0 y1 y2 y3 y4 y5 y6 y7
    refine (N6.out _).mono ?_
    rintro e w6 ⟨kb, R, rfl, hk, _, hb⟩
    have HK := Lib.hid hk
    have HT2 := Lib.hid (HT.out.keep (hb.block g HT.out.lt))
    have HB2 := Lib.hid (chn HB.out hb)
    clear hb hk HT N6
    have HT := HT2
    clear HT2 HB2
    go_upto_region 8 with (fail)
    have y0 := HT.out.c0; have y1 := HT.out.c1; have y2 := HT.out.c2; have y3 := HT.out.c3; have y4 := HT.out.c4; have y5 := HT.out.c5; have y6 := HT.out.c6; have y7 := HT.out.c7
    go_wp2_with fail
    clear y0 y1 y2 y3 y4 y5 y6 y7
    refine (N7.out wc.heap.size wc w6 HK.out.bel (Nat.le_refl _)).mono ?_
    rintro e w7 ⟨jb, S, rfl, hj, hS, hb⟩
    have hb2 := (below_al w6 (.cells #[.int .i64 1, .int .i64 3, .string ⟨#[]⟩] 49)).trans (hb.mono (by simp))
    have HJ := Lib.hid (show KJ wc.heap.size wc w7 kb R (fresh T5 1099511627781 []) jb S (fresh T5 5 [⟨1, 3, e0⟩]) from ⟨HK.out.below hb2, hj, fun i h1 h2 => by
      have q1 := hS i h1
      have q2 := Q0.lt HK.out.j i h2
      rw [World.size_alloc] at q1
      omega⟩)
    clear hb hb2 hj hS N7 HK HT
    go_wp2_with fail
    refine (HJ.out.wr (oj_enter' HJ.out.j 0 (x := 2) (s' := ⟨T5, 5, 0, 0, 0, 0, false, [⟨1, 3, e0⟩]⟩) rfl rfl)).mono ?_
    rintro e x0 ⟨rfl, hj⟩
    have HJ2 := Lib.hid hj
    clear hj HJ
    have HJ := HJ2
    clear HJ2
    go_wp2_with fail
    refine (HJ.out.wr (oj_enter' HJ.out.j 4 (x := 2) (s' := ⟨T5, 5, 0, 0, 0, 0, false, [⟨1, 3, e0⟩]⟩) rfl rfl)).mono ?_
    rintro e x1 ⟨rfl, hj⟩
    have HJ2 := Lib.hid hj
    clear hj HJ
    have HJ := HJ2
    clear HJ2
    go_wp2_with fail
    refine (HJ.out.wr (oj_enter' HJ.out.j 2 (x := 170) (s' := ⟨T5, 5, 0, 0, 0, 0, false, [⟨1, 3, e0⟩]⟩) rfl rfl)).mono ?_
    rintro e x2 ⟨rfl, hj⟩
    have HJ2 := Lib.hid hj
    clear hj HJ
    have HJ := HJ2
    clear HJ2
    go_wp2_with fail
    refine (HJ.out.wr (oj_leave' HJ.out.j (x := 132) (s' := ⟨T5, 5, 0, 0, 0, 0, false, [⟨1, 3, e0⟩]⟩) rfl rfl)).mono ?_
    rintro e x3 ⟨rfl, hj⟩
    have HJ2 := Lib.hid hj
    clear hj HJ
    have HJ := HJ2
    clear HJ2
    go_wp2_with fail
    refine (HJ.out.wr (oj_did' HJ.out.j (x := 250) (s' := ⟨T5, 5, 0, 0, 0, 0, false, [⟨1, 3, e0⟩]⟩) rfl rfl)).mono ?_
    rintro e x4 ⟨rfl, hj⟩
    have HJ2 := Lib.hid hj
    clear hj HJ
    have HJ := HJ2
    clear HJ2
    go_wp2_with fail
    refine (HJ.out.rd (Q0.begun HJ.out.j.j HJ.out.j.iv)).mono ?_
    rintro e x5 ⟨rfl, hj⟩
    have HJ2 := Lib.hid hj
    clear hj HJ
    have HJ := HJ2
    clear HJ2
    go_wp2_with fail
    refine (HJ.out.wr (oj_enter' HJ.out.j 1 (x := 0) (s' := ⟨T5, 5, 0, 1, 0, 0, false, [⟨1, 3, e0⟩]⟩) rfl rfl)).mono ?_
    rintro e x6 ⟨rfl, hj⟩
    have HJ2 := Lib.hid hj
    clear hj HJ
    have HJ := HJ2
    clear HJ2
    go_wp2_with fail
    refine (HJ.out.wr (oj_enter' HJ.out.j 1 (x := 130) (s' := ⟨T5, 5, 0, 1, 0, 0, false, [⟨1, 3, e0⟩]⟩) rfl rfl)).mono ?_
    rintro e x7 ⟨rfl, hj⟩
    have HJ2 := Lib.hid hj
    clear hj HJ
    have HJ := HJ2
    clear HJ2
    go_wp2_with fail
    refine (HJ.out.ov (oj_fault' HJ.out.j 0 (x := 2) rfl)).mono ?_
    rintro e x8 ⟨rfl, hj⟩
    have HJ2 := Lib.hid hj
    clear hj HJ
    have HJ := HJ2
    clear HJ2
    go_wp2_with fail
    refine (HJ.out.wr (oj_leave' HJ.out.j (x := 0) (s' := ⟨T5, 5, 0, 0, 0, 0, false, [⟨1, 3, e0⟩]⟩) rfl rfl)).mono ?_
    rintro e x9 ⟨rfl, hj⟩
    have HJ2 := Lib.hid hj
    clear hj HJ
    have HJ := HJ2
    clear HJ2
    go_wp2_with fail
    refine (HJ.out.wr (oj_run' HJ.out.j (x := 0) (s' := ⟨T5, 5, 1, 0, 1, 0, true, [⟨1, 2, e0⟩]⟩) rfl rfl)).mono ?_
    rintro e x10 ⟨rfl, hj⟩
    have HJ2 := Lib.hid hj
    clear hj HJ
    have HJ := HJ2
    clear HJ2
    go_wp2_with fail
    refine (HJ.out.rd (Q0.begun HJ.out.j.j HJ.out.j.iv)).mono ?_
    rintro e x11 ⟨rfl, hj⟩
    have HJ2 := Lib.hid hj
    clear hj HJ
    have HJ := HJ2
    clear HJ2
    go_wp2_with fail
    refine (HJ.out.ov (oj_fault' HJ.out.j 1 (x := 0) rfl)).mono ?_
    rintro e x12 ⟨rfl, hj⟩
    have HJ2 := Lib.hid hj
    clear hj HJ
    have HJ := HJ2
    clear HJ2
    go_wp2_with fail
    refine (HJ.out.wr (oj_run' HJ.out.j (x := 0) (s' := ⟨T5, 5, 2, 0, 2, 0, true, [⟨1, 1, e0⟩]⟩) rfl rfl)).mono ?_
    rintro e x13 ⟨rfl, hj⟩
    have HJ2 := Lib.hid hj
    clear hj HJ
    have HJ := HJ2
    clear HJ2
    go_wp2_with fail
    refine (HJ.out.ov (oj_fault' HJ.out.j 2 (x := 1) rfl)).mono ?_
    rintro e x14 ⟨rfl, hj⟩
    have HJ2 := Lib.hid hj
    clear hj HJ
    have HJ := HJ2
    clear HJ2
    go_wp2_with fail
    refine (HJ.out.ov (oj_fault' HJ.out.j 5 (x := 3) rfl)).mono ?_
    rintro e x15 ⟨rfl, hj⟩
    have HJ2 := Lib.hid hj
    clear hj HJ
    have HJ := HJ2
    clear HJ2
    go_wp2_with fail
    go_loopw [18, 19] (fun nn i wr => ∃ k : Nat, k ≤ 2 ∧ i = .int .i64 k ∧ Hid (NoneJ wr nn) ∧ Hid (KJ wc.heap.size wc wr kb R (fresh T5 1099511627781 []) jb S ⟨T5, 5, 2, 0, 2, 0, true, [⟨1, 1, e0⟩]⟩)) (fun _ i _ => 2 - (intOf i).toNat)
    case atStart => exact ⟨0, by omega, rfl, Or.inl rfl, HJ⟩
    case round =>
      rename_i nn _
      clear HJ
      obtain ⟨k, hk, rfl, HN, HJ⟩ := hrel
      by_cases hk2 : k < 2
      · have hkd : decide ((k : Int) < 2) = true := by simp; omega
        have hkI : (k : Int) < 2 := by omega
        go_wp2_with fail
        refine (zn_next HN.out).mono ?_
        rintro e z0 ⟨rfl, hb⟩
        have hb2 := hb.alloc hb.size (.cells #[.int .i64 0, .int .i64 0, .string ⟨#[]⟩] 49)
        have HN2 := Lib.hid (HN.out.below hb2)
        have HJ2 := Lib.hid (HJ.out.below hb2)
        clear hb hb2 HN HJ
        have HN := HN2; have HJ := HJ2
        clear HN2 HJ2
        go_wp2_with fail
        refine (zn_into HN.out).mono ?_
        rintro e z1 ⟨rfl, hb⟩
        have hb2 := hb
        have HN2 := Lib.hid (HN.out.below hb2)
        have HJ2 := Lib.hid (HJ.out.below hb2)
        clear hb hb2 HN HJ
        have HN := HN2; have HJ := HJ2
        clear HN2 HJ2
        go_wp2_with fail
        refine (zn_did HN.out).mono ?_
        rintro e z2 ⟨rfl, hb⟩
        have hb2 := hb
        have HN2 := Lib.hid (HN.out.below hb2)
        have HJ2 := Lib.hid (HJ.out.below hb2)
        clear hb hb2 HN HJ
        have HN := HN2; have HJ := HJ2
        clear HN2 HJ2
        go_wp2_with fail
        refine (zn_run HN.out).mono ?_
        rintro e z3 ⟨rfl, hb⟩
        have hb2 := hb
        have HN2 := Lib.hid (HN.out.below hb2)
        have HJ2 := Lib.hid (HJ.out.below hb2)
        clear hb hb2 HN HJ
        have HN := HN2; have HJ := HJ2
        clear HN2 HJ2
        go_wp2_with fail
        refine (zn_enter HN.out 1).mono ?_
        rintro e z4 ⟨rfl, hb⟩
        have hb2 := hb
        have HN2 := Lib.hid (HN.out.below hb2)
        have HJ2 := Lib.hid (HJ.out.below hb2)
        clear hb hb2 HN HJ
        have HN := HN2; have HJ := HJ2
        clear HN2 HJ2
        go_wp2_with fail
        refine (zn_leave HN.out).mono ?_
        rintro e z5 ⟨rfl, hb⟩
        have hb2 := hb
        have HN2 := Lib.hid (HN.out.below hb2)
        have HJ2 := Lib.hid (HJ.out.below hb2)
        clear hb hb2 HN HJ
        have HN := HN2; have HJ := HJ2
        clear HN2 HJ2
        go_wp2_with fail
        refine (zn_fault HN.out 0).mono ?_
        rintro e z6 ⟨rfl, hb⟩
        have hb2 := hb
        have HN2 := Lib.hid (HN.out.below hb2)
        have HJ2 := Lib.hid (HJ.out.below hb2)
        clear hb hb2 HN HJ
        have HN := HN2; have HJ := HJ2
        clear HN2 HJ2
        go_wp2_with fail
        refine (zn_dead HN.out).mono ?_
        rintro e z7 ⟨rfl, hb⟩
        have hb2 := hb
        have HN2 := Lib.hid (HN.out.below hb2)
        have HJ2 := Lib.hid (HJ.out.below hb2)
        clear hb hb2 HN HJ
        have HN := HN2; have HJ := HJ2
        clear HN2 HJ2
        go_wp2_with fail
        refine (zn_ran HN.out).mono ?_
        rintro e z8 ⟨rfl, hb⟩
        have hb2 := hb
        have HN2 := Lib.hid (HN.out.below hb2)
        have HJ2 := Lib.hid (HJ.out.below hb2)
        clear hb hb2 HN HJ
        have HN := HN2; have HJ := HJ2
        clear HN2 HJ2
        go_wp2_with fail
        refine (zn_takes HN.out).mono ?_
        rintro e z9 ⟨rfl, hb⟩
        have hb2 := hb
        have HN2 := Lib.hid (HN.out.below hb2)
        have HJ2 := Lib.hid (HJ.out.below hb2)
        clear hb hb2 HN HJ
        have HN := HN2; have HJ := HJ2
        clear HN2 HJ2
        go_wp2_with fail
        refine (zn_begun HN.out).mono ?_
        rintro e z10 ⟨rfl, hb⟩
        have hb2 := hb
        have HN2 := Lib.hid (HN.out.below hb2)
        have HJ2 := Lib.hid (HJ.out.below hb2)
        clear hb hb2 HN HJ
        have HN := HN2; have HJ := HJ2
        clear HN2 HJ2
        go_wp2_with fail
        refine (zn_done HN.out).mono ?_
        rintro e z11 ⟨rfl, hb⟩
        have hb2 := hb
        have HN2 := Lib.hid (HN.out.below hb2)
        have HJ2 := Lib.hid (HJ.out.below hb2)
        clear hb hb2 HN HJ
        have HN := HN2; have HJ := HJ2
        clear HN2 HJ2
        go_wp2_with fail
        go_roundw
        case rel => exact ⟨k + 1, by omega, by go_num, Or.inr ⟨_, rfl, heap_alloc_new z11 _⟩, HJ.out.below (below_al z11 _)⟩
        case measure => simp [intOf]; omega
      · have hkd : decide ((k : Int) < 2) = false := by simp; omega
        have hkI : ¬ (k : Int) < 2 := by omega
        go_wp2_with fail
        refine (NW.out _).mono ?_
        rintro e v1 ⟨rfl, hb⟩
        have HJ2 := Lib.hid (HJ.out.below hb)
        clear hb HJ HN
        have HJ := HJ2
        clear HJ2
        go_wp2_with fail
        refine (oj_done' HJ.out.k (b := true) rfl).mono ?_
        rintro e v2 ⟨rfl, hj, _⟩
        have HK := Lib.hid hj
        clear hj HJ
        go_wp2_with fail
        refine (oj_dead' HK.out (x := 1099511627781) rfl).mono ?_
        rintro e v3 ⟨rfl, hj, _⟩
        have HK2 := Lib.hid hj
        clear hj HK
        go_wp2_with fail
        go_ret
        exact ⟨rfl, HB.out.trans (HK2.out.bel.mono HB.out.size)⟩
end Go.Proofs.Ytoggnofdgmhbmaa
