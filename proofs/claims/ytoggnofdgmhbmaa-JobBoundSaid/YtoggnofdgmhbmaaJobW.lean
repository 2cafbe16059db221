/- The chapter's job: works. -/
import Derived.Test.YtoggnofdgmhbmaaJobC
import Derived.Test.YtoggnofdgmhbmaaActW
namespace Go.Proofs.Ytoggnofdgmhbmaa
open Go.RowKit Ac Jo
set_option linter.unusedVariables false

/-- an answer; the job as it was -/
def OV (Q : Prg) (v : Value) (B : Nat) (W : World) (jb : Nat) (S : Nat → Prop) (s : Jb) (w : World) (e : Ending) (w' : World) : Prop := e = .returned v ∧ OJ Q B W w' jb S s ∧ Below w.heap.size w w'
section
variable {Q : Prg} {B : Nat} {W w : World} {jb : Nat} {S : Nat → Prop} {s : Jb}
theorem oj_did' (h : OJ Q B W w jb S s) {x : Int} {s' : Jb} (h1 : didE s.l = x) (h2 : didJ s = s') : Calls Try.prog 10 #[.pointer (some ⟨jb, 0, none⟩)] w (OQ Q (.int .i64 x) B W jb S s' w) := by subst h1; subst h2; exact oj_did h
theorem oj_run' (h : OJ Q B W w jb S s) {x : Int} {s' : Jb} (h1 : runE s = x) (h2 : runJ s = s') : Calls Try.prog 12 #[.pointer (some ⟨jb, 0, none⟩)] w (OQ Q (.int .i64 x) B W jb S s' w) := by subst h1; subst h2; exact oj_run h
theorem oj_enter' (h : OJ Q B W w jb S s) (a : Int) {x : Int} {s' : Jb} (h1 : entE s a = x) (h2 : entJ s a = s') : Calls Try.prog 14 #[.pointer (some ⟨jb, 0, none⟩), .int .i64 a] w (OQ Q (.int .i64 x) B W jb S s' w) := by subst h1; subst h2; exact oj_enter h a
theorem oj_leave' (h : OJ Q B W w jb S s) {x : Int} {s' : Jb} (h1 : leaE s = x) (h2 : leaJ s = s') : Calls Try.prog 16 #[.pointer (some ⟨jb, 0, none⟩)] w (OQ Q (.int .i64 x) B W jb S s' w) := by subst h1; subst h2; exact oj_leave h
theorem OJ.ov {v : Value} {f : Nat} {args : Array Value} (h : OJ Q B W w jb S s) (hc : Calls Try.prog f args w (VB v w)) : Calls Try.prog f args w (OV Q v B W jb S s w) := hc.mono fun e w' ⟨e1, e2⟩ => ⟨e1, h.below e2, e2⟩
theorem oj_fault' (h : OJ Q B W w jb S s) (now : Int) {x : Int} (h1 : fau s now = x) : Calls Try.prog 24 #[.pointer (some ⟨jb, 0, none⟩), .int .i64 now] w (OV Q (.int .i64 x) B W jb S s w) := by subst h1; exact h.ov (Q.fault h.j h.iv now)
theorem oj_next' (h : OJ Q B W w jb S s) {k n : Int} {t : ByteArray} {b : Bool} (h1 : nv s.l = .tuple #[.agg #[.int .i64 k, .int .i64 n, .string t], .bool b]) : Calls Try.prog 26 #[.pointer (some ⟨jb, 0, none⟩)] w (OV Q (.tuple #[.agg #[.int .i64 k, .int .i64 n, .string t], .bool b]) B W jb S s w) := by rw [← h1]; exact h.ov (Q.next h.j h.iv)
theorem oj_done' (h : OJ Q B W w jb S s) {b : Bool} (h1 : s.l.isEmpty = b) : Calls Try.prog 23 #[.pointer (some ⟨jb, 0, none⟩)] w (OV Q (.bool b) B W jb S s w) := by subst h1; exact h.ov (Q.done h.j h.iv)
theorem oj_dead' (h : OJ Q B W w jb S s) {x : Int} (h1 : s.e = x) : Calls Try.prog 27 #[.pointer (some ⟨jb, 0, none⟩)] w (OV Q (.int .i64 x) B W jb S s w) := by subst h1; exact h.ov (Q.deadline h.j h.iv)
/-- a job, made -/
def MkJ (Q : Prg) (B : Nat) (W : World) (s : Jb) (w : World) (e : Ending) (w' : World) : Prop := ∃ jb S, e = .returned (.tuple #[.pointer (some ⟨jb, 0, none⟩), .int .i64 0]) ∧ OJ Q B W w' jb S s ∧ (∀ k, S k → w.heap.size ≤ k) ∧ Below w.heap.size w w'
theorem oj_new (Q : Prg) (hb : Below B W w) (hB : B ≤ W.heap.size) {v : Value} {l : List Ak} (t : Nat → Int) (now : Int) (hv : AS w v l) (h1 : tok t = true) (h2 : 0 ≤ now) (h3 : now ≤ 1099511627776) (hg : Gd l) (ht : t 7 ≤ 9223372036854775807) {e : Int} (he : now + t 1 = e) :
    Calls Try.prog 6 #[tv t, v, .int .i64 now] w (MkJ Q B W (fresh t e l) w) := by
  subst he
  exact (Q.newOk t now hv h1 h2 h3 hg).mono fun e w' ⟨jb, S, e1, e2, e3, e4⟩ => by
    have hs := Nat.le_trans hB hb.size
    exact ⟨jb, S, e1, ⟨e2, inv_fresh hg ht, fun k hk => Nat.le_trans hs (e3 k hk), hB, hb.trans (e4.mono hs)⟩, e3, e4⟩
end
def tw (i : Nat) : Int := [10, 8, 3, 0, 1, 1, 2, 1].getD i 0
def ow : List Ak := [⟨2, 0, e0⟩, ⟨1, 2, e0⟩, ⟨3, 0, e0⟩, ⟨4, 0, e0⟩, ⟨1, 1, e0⟩]
theorem gd_ow : Gd ow := ⟨by decide, fun x hx => by simp [ow] at hx; rcases hx with rfl | rfl | rfl | rfl | rfl <;> exact (show mayB _ = true by decide)⟩
set_option maxRecDepth 100000 in
set_option maxHeartbeats 8000000 in
theorem jworks_any (Q : Prg) (w : World) : Calls Try.prog 18 #[] w (TrueB w) := by
  have s1 := Try.eqGuardType49
  have s2 := Try.stoodInHeld49
  have hb0 := (below_al w (.cells #[.int .i64 10, .int .i64 8, .int .i64 3, .int .i64 0, .int .i64 1, .int .i64 1, .int .i64 2, .int .i64 1] 23)).alloc (by simp) (.cells #[.int .i64 2, .int .i64 0, .string ⟨#[]⟩, .int .i64 1, .int .i64 2, .string ⟨#[]⟩, .int .i64 3, .int .i64 0, .string ⟨#[]⟩, .int .i64 4, .int .i64 0, .string ⟨#[]⟩, .int .i64 1, .int .i64 1, .string ⟨#[]⟩] 49)
  have HB0 := Lib.hid hb0
  have hs0 := as_lit (l := ow) (heap_alloc_new (w.alloc (.cells #[.int .i64 10, .int .i64 8, .int .i64 3, .int .i64 0, .int .i64 1, .int .i64 1, .int .i64 2, .int .i64 1] 23)) _) (by decide)
  rw [World.size_alloc] at hs0
  have HN : Hid (Calls Try.prog 6 #[.agg #[.int .i64 10, .int .i64 8, .int .i64 3, .int .i64 0, .int .i64 1, .int .i64 1, .int .i64 2, .int .i64 1], .slice (some ⟨w.heap.size + 1, 0, none⟩) 5 5, .int .i64 5] _ (MkJ Q w.heap.size w (fresh tw 13 ow) _)) := oj_new Q HB0.out (Nat.le_refl _) tw 5 hs0 (by decide) (by decide) (by decide) gd_ow (by decide) (by decide)
  clear hb0 hs0
  go_enter Try.func18, Try.ntmps18
  go_wp2_with fail
  refine HN.out.mono ?_
  rintro e w1 ⟨jb, S, rfl, hj, _⟩
  have H1 := Lib.hid hj
  clear hj HN HB0
  go_wp2_with fail
  refine (oj_next' H1.out (k := 2) (n := 0) (t := ⟨#[]⟩) (b := true) rfl).mono ?_
  rintro e w2 ⟨rfl, hj, _⟩
  have H2 := Lib.hid (hj.below (below_al w2 (.cells #[.int .i64 2, .int .i64 0, .string ⟨#[]⟩] 49)))
  have HV := Lib.hid (AB.new w2 2 0 ⟨#[]⟩)
  clear hj H1
  go_wp2_with fail
  refine (oj_dead' H2.out (x := 13) rfl).mono ?_
  rintro e w3 ⟨rfl, hj, hb⟩
  have H3 := Lib.hid hj
  obtain ⟨v0, v1, v2⟩ := (HV.out.below hb).cells
  clear hj hb H2 HV
  generalize w2.heap.size = vb at *
  go_wp2_with fail
  clear v0 v1 v2
  refine (oj_fault' H3.out 5 (x := 0) rfl).mono ?_
  rintro e w4 ⟨rfl, hj, _⟩
  have H4 := Lib.hid hj
  clear hj H3
  go_wp2_with fail
  refine (oj_did' H4.out (x := 0) (s' := ⟨tw, 13, 0, 0, 0, 0, true, [⟨1, 2, e0⟩, ⟨3, 0, e0⟩, ⟨4, 0, e0⟩, ⟨1, 1, e0⟩]⟩) rfl rfl).mono ?_
  rintro e w5 ⟨rfl, hj, _⟩
  have H5 := Lib.hid hj
  clear hj H4
  go_wp2_with fail
  refine (oj_enter' H5.out 1 (x := 0) (s' := ⟨tw, 13, 0, 1, 0, 0, true, [⟨1, 2, e0⟩, ⟨3, 0, e0⟩, ⟨4, 0, e0⟩, ⟨1, 1, e0⟩]⟩) rfl rfl).mono ?_
  rintro e w6 ⟨rfl, hj, _⟩
  have H6 := Lib.hid hj
  clear hj H5
  go_wp2_with fail
  refine (oj_run' H6.out (x := 0) (s' := ⟨tw, 13, 1, 1, 1, 0, true, [⟨1, 1, e0⟩, ⟨3, 0, e0⟩, ⟨4, 0, e0⟩, ⟨1, 1, e0⟩]⟩) rfl rfl).mono ?_
  rintro e w7 ⟨rfl, hj, _⟩
  have H7 := Lib.hid hj
  clear hj H6
  go_wp2_with fail
  refine (oj_fault' H7.out 6 (x := 2) rfl).mono ?_
  rintro e w8 ⟨rfl, hj, _⟩
  have H8 := Lib.hid hj
  clear hj H7
  go_wp2_with fail
  refine (oj_leave' H8.out (x := 0) (s' := ⟨tw, 13, 1, 0, 0, 0, true, [⟨1, 1, e0⟩, ⟨3, 0, e0⟩, ⟨4, 0, e0⟩, ⟨1, 1, e0⟩]⟩) rfl rfl).mono ?_
  rintro e w9 ⟨rfl, hj, _⟩
  have H9 := Lib.hid hj
  clear hj H8
  go_wp2_with fail
  refine (oj_run' H9.out (x := 0) (s' := ⟨tw, 13, 2, 0, 1, 0, true, [⟨3, 0, e0⟩, ⟨4, 0, e0⟩, ⟨1, 1, e0⟩]⟩) rfl rfl).mono ?_
  rintro e wa ⟨rfl, hj, _⟩
  have Ha := Lib.hid hj
  clear hj H9
  go_wp2_with fail
  refine (oj_did' Ha.out (x := 0) (s' := ⟨tw, 13, 2, 0, 1, 0, true, [⟨4, 0, e0⟩, ⟨1, 1, e0⟩]⟩) rfl rfl).mono ?_
  rintro e wb ⟨rfl, hj, _⟩
  have Hb := Lib.hid hj
  clear hj Ha
  go_wp2_with fail
  refine (oj_next' Hb.out (k := 4) (n := 0) (t := ⟨#[]⟩) (b := true) rfl).mono ?_
  rintro e wc ⟨rfl, hj, _⟩
  have Hc := Lib.hid (hj.below (below_al wc (.cells #[.int .i64 4, .int .i64 0, .string ⟨#[]⟩] 49)))
  obtain ⟨v0, v1, v2⟩ := (AB.new wc 4 0 ⟨#[]⟩).cells
  clear hj Hb
  go_wp2_with fail
  clear v0 v1 v2
  refine (oj_enter' Hc.out 3 (x := 0) (s' := ⟨tw, 13, 2, 3, 0, 1, true, [⟨4, 0, e0⟩, ⟨1, 1, e0⟩]⟩) rfl rfl).mono ?_
  rintro e wd ⟨rfl, hj, _⟩
  have Hd := Lib.hid hj
  clear hj Hc
  go_wp2_with fail
  refine (oj_enter' Hd.out 2 (x := 0) (s' := ⟨tw, 13, 2, 2, 0, 1, true, [⟨4, 0, e0⟩, ⟨1, 1, e0⟩]⟩) rfl rfl).mono ?_
  rintro e we ⟨rfl, hj, _⟩
  have He := Lib.hid hj
  clear hj Hd
  go_wp2_with fail
  refine (oj_did' He.out (x := 0) (s' := ⟨tw, 13, 2, 2, 0, 1, true, [⟨1, 1, e0⟩]⟩) rfl rfl).mono ?_
  rintro e wf ⟨rfl, hj, _⟩
  have Hf := Lib.hid hj
  clear hj He
  go_wp2_with fail
  refine (oj_run' Hf.out (x := 0) (s' := ⟨tw, 13, 3, 2, 1, 1, true, []⟩) rfl rfl).mono ?_
  rintro e wg ⟨rfl, hj, _⟩
  have Hg := Lib.hid hj
  clear hj Hf
  go_wp2_with fail
  refine (oj_done' Hg.out (b := true) rfl).mono ?_
  rintro e wh ⟨rfl, hj, _⟩
  have Hh := Lib.hid hj
  clear hj Hg
  go_wp2_with fail
  refine (oj_fault' Hh.out 20 (x := 0) rfl).mono ?_
  rintro e wi ⟨rfl, hj, _⟩
  have Hi := Lib.hid hj
  clear hj Hh
  go_wp2_with fail
  go_ret
  exact ⟨rfl, Hi.out.bel⟩
end Go.Proofs.Ytoggnofdgmhbmaa
