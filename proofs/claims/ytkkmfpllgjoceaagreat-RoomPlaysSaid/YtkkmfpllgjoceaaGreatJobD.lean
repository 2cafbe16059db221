/- The document's job: Next, Did, Run, Enter, Leave. -/
import Derived.Test.YtkkmfpllgjoceaaGreatZb
import Derived.Test.YtkkmfpllgjoceaaGreatZj
namespace Go.Proofs.YtkkmfpllgjoceaaGreat
open Go.RowKit Ac Jo
set_option linter.unusedVariables false
set_option maxRecDepth 100000

/-- two cells of its own are written -/
theorem JW.set2 {T TR : TypeId} {cf : Jb → Nat → Array Value} {w : World} {jb rb g : Nat} {s s' : Jb} (h : JW T TR cf w jb rb g s) (i : Nat) (v : Value) (j : Nat) (u : Value) (hc : ((cf s rb).setIfInBounds i v).setIfInBounds j u = cf s' rb) (hl : s'.l = s.l) : JW T TR cf ((w.setCell ⟨jb, i, none⟩ v).setCell ⟨jb, j, none⟩ u) jb rb g s' ∧ Only (Tri jb rb g) w ((w.setCell ⟨jb, i, none⟩ v).setCell ⟨jb, j, none⟩ u) := by
  have hs := heap_setCell_same _ jb j _ _ u (heap_setCell_same w jb i _ _ v h.ob)
  rw [hc] at hs
  have e1 : ∀ k, k ≠ jb → ((w.setCell ⟨jb, i, none⟩ v).setCell ⟨jb, j, none⟩ u).heap[k]? = w.heap[k]? := fun k hk => (Below.heap_setCell _ _ _ _ hk).trans (Below.heap_setCell _ _ _ _ hk)
  refine ⟨⟨hs, ?_, by simpa [World.setCell] using h.gl, h.n1, h.n2⟩, (Only.set w i v (Or.inl rfl)).trans (Only.set _ j u (Or.inl rfl))⟩
  rw [hl]
  exact h.rw.keep (e1 rb (fun e => h.n1 e.symm)) (fun _ => e1 g (fun e => h.n2 e.symm))
/-- the cells of the document's job; in none it counts no ticks -/
def dcl (s : Jb) (rb : Nat) : Array Value := #[.int .i64 (s.t 0), .int .i64 (s.t 1), .int .i64 (s.t 2), .int .i64 (s.t 3), .int .i64 (s.t 4), .int .i64 (s.t 5), .int .i64 (s.t 6), .int .i64 (s.t 7), .pointer (some ⟨rb, 0, none⟩), .int .i64 s.e, .int .i64 s.n, .int .i64 s.c, .int .i64 (dk s), .int .i64 s.x, .bool s.b]
abbrev DJ (w : World) (jb rb g : Nat) (s : Jb) : Prop := JW 96 211 dcl w jb rb g s
abbrev DP (v : Value) (jb rb g : Nat) (s : Jb) (w : World) (e : Ending) (w' : World) : Prop := JP 96 211 dcl v jb rb g s w e w'
section
variable {w : World} {jb rb g : Nat} {s : Jb}
set_option maxHeartbeats 1000000 in
theorem rjnext_any (h : DJ w jb rb g s) : Calls Tryz.prog 117 #[.pointer (some ⟨jb, 0, none⟩)] w (VB (nv s.l) w) := by
  have h' := h.below (below_al w (.cells #[.int .i64 0, .int .i64 0, .string ⟨#[]⟩] 57))
  have c8 : (w.alloc (.cells #[.int .i64 0, .int .i64 0, .string ⟨#[]⟩] 57)).cell? ⟨jb, 8, none⟩ = some (.pointer (some ⟨rb, 0, none⟩)) := h'.cell 8
  obtain ⟨k, n, t, b, hx⟩ : ∃ (k n : Int) (t : ByteArray) (b : Bool), nv s.l = .tuple #[.agg #[.int .i64 k, .int .i64 n, .string t], .bool b] := ⟨_, _, _, _, rfl⟩
  have HN := rnext_any h'.rw
  rw [hx] at HN ⊢
  have HN := Lib.hid HN
  have HV := Lib.hid (AB.new w 0 0 ⟨#[]⟩)
  clear hx h h'
  go_enter Tryz.func117, Tryz.ntmps117
  go_wp2_with fail
  refine HN.out.mono ?_
  rintro e w1 ⟨rfl, hb⟩
  have hv := HV.out.below hb
  obtain ⟨v0, v1, v2⟩ := hv.cells
  obtain ⟨f0, f1, f2⟩ := hv.free
  obtain ⟨e0, e1, e2⟩ := (hv.set k n t).cells
  have HB : Hid (Below w.heap.size w (((w1.setCell ⟨w.heap.size, 0, none⟩ (.int .i64 k)).setCell ⟨w.heap.size, 1, none⟩ (.int .i64 n)).setCell ⟨w.heap.size, 2, none⟩ (.string t))) :=
    ((((below_al w _).trans (hb.mono (by simp))).setCell (p := ⟨w.heap.size, 0, none⟩) (Nat.le_refl _) _).setCell (p := ⟨w.heap.size, 1, none⟩) (Nat.le_refl _) _).setCell (p := ⟨w.heap.size, 2, none⟩) (Nat.le_refl _) _
  clear hb hv HN HV c8
  go_wp2_with fail
  refine bodyPost_ret (v := .tuple #[.agg #[.int .i64 k, .int .i64 n, .string t], .bool b]) (by simp [results, Tryz.results117, go_sem, e0, e1, e2]) rfl ?_
  exact ⟨rfl, HB.out⟩
set_option maxHeartbeats 1000000 in
theorem rjdid_any (h : DJ w jb rb g s) (hi : Inv s) : Calls Tryz.prog 107 #[.pointer (some ⟨jb, 0, none⟩)] w (DP (.int .i64 (didE s.l)) jb rb g (didJ s) w) := by
  have c8 : w.cell? ⟨jb, 8, none⟩ = some (.pointer (some ⟨rb, 0, none⟩)) := h.cell 8
  have HC := Lib.hid (rdid_any h.rw hi.gd.len)
  have H := Lib.hid h
  clear h hi
  rcases didE_or s.l with hr | hr
  · have HR := Lib.hid hr
    rw [hr] at HC ⊢
    clear hr
    go_enter Tryz.func107, Tryz.ntmps107
    go_wp2_with fail
    refine HC.out.mono ?_
    rintro e w1 ⟨rfl, h1, h2⟩
    obtain ⟨hj, ho⟩ := H.out.row (s' := ⟨s.t, s.e, s.n, s.c, s.k, s.x, s.b, didL s.l⟩) h1 h2 rfl
    obtain ⟨hj2, ho2⟩ := hj.set (s' := ⟨s.t, s.e, s.n, s.c, s.k, s.x, true, didL s.l⟩) 14 (.bool true) rfl rfl
    have HF := Lib.hid (show DP (.int .i64 0) jb rb g (didJ s) w (.returned (.int .i64 0)) (w1.setCell ⟨jb, 14, none⟩ (.bool true)) from ⟨rfl, by unfold didJ; rw [if_pos HR.out]; exact hj2, ho.trans ho2⟩)
    have f := hj.free 14
    have cc : w1.cell? ⟨jb, 14, none⟩ = some (.bool s.b) := hj.cell 14
    clear h1 h2 hj ho hj2 ho2
    go_wp2_with fail
    go_ret
    exact HF.out
  · have HR := Lib.hid hr
    rw [hr] at HC ⊢
    clear hr
    go_enter Tryz.func107, Tryz.ntmps107
    go_wp2_with fail
    refine HC.out.mono ?_
    rintro e w1 ⟨rfl, h1, h2⟩
    have HF := Lib.hid (show DP (.int .i64 250) jb rb g (didJ s) w (.returned (.int .i64 250)) w1 from by
      have hl := did_same HR.out
      rw [hl] at h1
      obtain ⟨hj, ho⟩ := H.out.row (s' := s) h1 h2 rfl
      exact ⟨rfl, by unfold didJ; rw [if_neg (by rw [HR.out]; decide)]; exact hj, ho⟩)
    clear h1 h2
    go_wp2_with fail
    go_ret
    exact HF.out
set_option maxHeartbeats 2000000 in
theorem rjrun_any (h : DJ w jb rb g s) (hi : Inv s) : Calls Tryz.prog 108 #[.pointer (some ⟨jb, 0, none⟩)] w (DP (.int .i64 (runE s)) jb rb g (runJ s) w) := by
  have c8 : w.cell? ⟨jb, 8, none⟩ = some (.pointer (some ⟨rb, 0, none⟩)) := h.cell 8
  have c11 : w.cell? ⟨jb, 11, none⟩ = some (.int .i64 s.c) := h.cell 11
  have HC := Lib.hid (rran_any h.rw hi.gd)
  have H := Lib.hid h
  have hn0 := hi.n0
  have hk0 := hi.k0
  have hkn := hi.kn
  have hnl : s.n ≤ 2048 := by have := hi.nl; have := left_bd hi.gd.all; omega
  clear h hi
  by_cases h3 : s.c = 3
  · have HF := Lib.hid (show DP (.int .i64 (runE s)) jb rb g (runJ s) w (.returned (.int .i64 250)) w from ⟨by unfold runE; rw [if_pos h3], by unfold runJ; rw [if_pos h3]; exact H.out, Only.refl _ _⟩)
    rw [h3] at c11
    clear H HC
    go_enter Tryz.func108, Tryz.ntmps108
    go_wp2_with fail
    go_ret
    exact HF.out
  · have hd3 : (s.c == 3) = false := by simpa using h3
    rcases ranE_or s.l with hr | hr
    · have HR := Lib.hid hr
      have hre : runE s = 0 := by unfold runE; rw [if_neg h3]; exact hr
      have hrj : runJ s = ⟨s.t, s.e, s.n + 1, s.c, s.k + 1, s.x, true, ranL s.l⟩ := by unfold runJ; rw [if_neg h3, if_pos hr]
      rw [hr] at HC
      rw [hre, hrj]
      clear hr hre hrj
      by_cases h0 : s.c = 0
      · have HC0 := Lib.hid h0
        go_enter Tryz.func108, Tryz.ntmps108
        go_wp2_with fail
        refine HC.out.mono ?_
        rintro e w1 ⟨rfl, h1, h2⟩
        obtain ⟨hj, ho⟩ := H.out.row (s' := ⟨s.t, s.e, s.n, s.c, s.k, s.x, s.b, ranL s.l⟩) h1 h2 rfl
        obtain ⟨hj2, ho2⟩ := hj.set (s' := ⟨s.t, s.e, s.n, s.c, s.k, s.x, true, ranL s.l⟩) 14 (.bool true) rfl rfl
        obtain ⟨hj3, ho3⟩ := hj2.set (s' := ⟨s.t, s.e, s.n + 1, s.c, s.k + 1, s.x, true, ranL s.l⟩) 10 (.int .i64 (s.n + 1)) (by simp [dcl, dk, h0]) rfl
        have HF := Lib.hid (show DP (.int .i64 0) jb rb g ⟨s.t, s.e, s.n + 1, s.c, s.k + 1, s.x, true, ranL s.l⟩ w (.returned (.int .i64 0)) _ from ⟨rfl, hj3, (ho.trans ho2).trans ho3⟩)
        have f14 := hj.free 14
        have f10 := hj2.free 10
        have e14 : w1.cell? ⟨jb, 14, none⟩ = some (.bool s.b) := hj.cell 14
        have e10 := hj2.cell 10
        have e11 := hj3.cell 11
        simp only [dcl, List.getElem?_toArray] at e10 e11
        have e10' : (w1.setCell ⟨jb, 14, none⟩ (.bool true)).cell? ⟨jb, 10, none⟩ = some (.int .i64 s.n) := e10
        have e11' : ((w1.setCell ⟨jb, 14, none⟩ (.bool true)).setCell ⟨jb, 10, none⟩ (.int .i64 (s.n + 1))).cell? ⟨jb, 11, none⟩ = some (.int .i64 0) := by rw [← h0]; exact e11
        clear h1 h2 hj ho hj2 ho2 hj3 ho3 e10 e11 c11 c8
        go_wp2_with fail
        go_ret
        exact HF.out
      · have hk0' : dk s = s.k := if_neg h0
        have hd0 : (s.c == 0) = false := by simpa using h0
        have hd0' : (s.c != 0) = true := by simpa using h0
        have HK := Lib.hid hk0'
        have HC0 := Lib.hid h0
        clear h0 hk0'
        go_enter Tryz.func108, Tryz.ntmps108
        go_wp2_with fail
        refine HC.out.mono ?_
        rintro e w1 ⟨rfl, h1, h2⟩
        obtain ⟨hj, ho⟩ := H.out.row (s' := ⟨s.t, s.e, s.n, s.c, s.k, s.x, s.b, ranL s.l⟩) h1 h2 rfl
        obtain ⟨hj2, ho2⟩ := hj.set (s' := ⟨s.t, s.e, s.n, s.c, s.k, s.x, true, ranL s.l⟩) 14 (.bool true) rfl rfl
        obtain ⟨hj3, ho3⟩ := hj2.set (s' := ⟨s.t, s.e, s.n + 1, s.c, s.k, s.x, true, ranL s.l⟩) 10 (.int .i64 (s.n + 1)) rfl rfl
        obtain ⟨hj4, ho4⟩ := hj3.set (s' := ⟨s.t, s.e, s.n + 1, s.c, s.k + 1, s.x, true, ranL s.l⟩) 12 (.int .i64 (s.k + 1)) (by have := HC0.out; simp [dcl, dk, this]) rfl
        have HF := Lib.hid (show DP (.int .i64 0) jb rb g ⟨s.t, s.e, s.n + 1, s.c, s.k + 1, s.x, true, ranL s.l⟩ w (.returned (.int .i64 0)) _ from ⟨rfl, hj4, ((ho.trans ho2).trans ho3).trans ho4⟩)
        have f14 := hj.free 14
        have f10 := hj2.free 10
        have f12 := hj3.free 12
        have e14 : w1.cell? ⟨jb, 14, none⟩ = some (.bool s.b) := hj.cell 14
        have e10' : (w1.setCell ⟨jb, 14, none⟩ (.bool true)).cell? ⟨jb, 10, none⟩ = some (.int .i64 s.n) := hj2.cell 10
        have e11' : ((w1.setCell ⟨jb, 14, none⟩ (.bool true)).setCell ⟨jb, 10, none⟩ (.int .i64 (s.n + 1))).cell? ⟨jb, 11, none⟩ = some (.int .i64 s.c) := hj3.cell 11
        have e12' : ((w1.setCell ⟨jb, 14, none⟩ (.bool true)).setCell ⟨jb, 10, none⟩ (.int .i64 (s.n + 1))).cell? ⟨jb, 12, none⟩ = some (.int .i64 s.k) := (hj3.cell 12).trans (by have := HC0.out; simp [dcl, dk, this])
        clear h1 h2 hj ho hj2 ho2 hj3 ho3 hj4 ho4 c11 c8
        go_wp2_with fail
        go_ret
        exact HF.out
    · have HR := Lib.hid hr
      have hre : runE s = 250 := by unfold runE; rw [if_neg h3]; exact hr
      have hrj : runJ s = s := by unfold runJ; rw [if_neg h3, if_neg (by rw [hr]; decide)]
      rw [hr] at HC
      rw [hre, hrj]
      clear hr hre hrj
      go_enter Tryz.func108, Tryz.ntmps108
      go_wp2_with fail
      refine HC.out.mono ?_
      rintro e w1 ⟨rfl, h1, h2⟩
      have HF := Lib.hid (show DP (.int .i64 250) jb rb g s w (.returned (.int .i64 250)) w1 from by
        have hl := ran_same HR.out
        rw [hl] at h1
        obtain ⟨hj, ho⟩ := H.out.row (s' := s) h1 h2 rfl
        exact ⟨rfl, hj, ho⟩)
      clear h1 h2
      go_wp2_with fail
      go_ret
      exact HF.out
set_option maxHeartbeats 2000000 in
theorem rjleave_any (h : DJ w jb rb g s) (hi : Inv s) : Calls Tryz.prog 113 #[.pointer (some ⟨jb, 0, none⟩)] w (DP (.int .i64 (leaE s)) jb rb g (leaJ s) w) := by
  have c11 : w.cell? ⟨jb, 11, none⟩ = some (.int .i64 s.c) := h.cell 11
  by_cases h0 : s.c = 0
  · have HF := Lib.hid (show DP (.int .i64 (leaE s)) jb rb g (leaJ s) w (.returned (.int .i64 132)) w from ⟨by unfold leaE; rw [if_pos h0], by rw [lea_same h0]; exact h, Only.refl _ _⟩)
    rw [h0] at c11
    clear h h0 hi
    go_enter Tryz.func113, Tryz.ntmps113
    go_wp2_with fail
    go_ret
    exact HF.out
  · have hd0 : (s.c == 0) = false := by simpa using h0
    obtain ⟨hj3, ho3⟩ := h.set2 (s' := ⟨s.t, s.e, s.n, 0, 0, s.x, s.b, s.l⟩) 11 (.int .i64 0) 12 (.int .i64 0) (by simp [dcl, dk]) rfl
    have HF := Lib.hid (show DP (.int .i64 (leaE s)) jb rb g (leaJ s) w (.returned (.int .i64 0)) _ from ⟨by unfold leaE; rw [if_neg h0], by rw [lea_out h0]; exact hj3, ho3⟩)
    have f11 := h.free 11
    have f12 : (w.setCell ⟨jb, 11, none⟩ (.int .i64 0)).frozen? ⟨jb, 12, none⟩ = false := frozen_of_row _ _ 12 _ _ (heap_setCell_same w jb 11 _ _ (.int .i64 0) h.ob)
    have e12 : (w.setCell ⟨jb, 11, none⟩ (.int .i64 0)).cell? ⟨jb, 12, none⟩ = some (.int .i64 (dk s)) := cell_of_row _ _ 12 _ _ _ (heap_setCell_same w jb 11 _ _ (.int .i64 0) h.ob)
    generalize dk s = dks at *
    clear h h0 hi hj3 ho3
    go_enter Tryz.func113, Tryz.ntmps113
    go_wp2_with fail
    go_ret
    exact HF.out
set_option maxHeartbeats 4000000 in
theorem rjenter_any (h : DJ w jb rb g s) (hi : Inv s) (a : Int) : Calls Tryz.prog 110 #[.pointer (some ⟨jb, 0, none⟩), .int .i64 a] w (DP (.int .i64 (entE s a)) jb rb g (entJ s a) w) := by
  have c7 : w.cell? ⟨jb, 7, none⟩ = some (.int .i64 (s.t 7)) := h.cell 7
  have c11 : w.cell? ⟨jb, 11, none⟩ = some (.int .i64 s.c) := h.cell 11
  have c12 : w.cell? ⟨jb, 12, none⟩ = some (.int .i64 (dk s)) := h.cell 12
  have c13 : w.cell? ⟨jb, 13, none⟩ = some (.int .i64 s.x) := h.cell 13
  have f11 := h.free 11
  have same : ∀ x : Int, entE s a = x → x ≠ 0 → DP (.int .i64 (entE s a)) jb rb g (entJ s a) w (.returned (.int .i64 x)) w := fun x hx h0 => ⟨by rw [hx], by unfold entJ; rw [if_neg (by rw [hx]; exact h0)]; exact h, Only.refl _ _⟩
  by_cases h1 : a < 1
  · have HF := Lib.hid (same 2 (by unfold entE; rw [if_pos (Or.inl h1)]) (by decide))
    have d1 : decide (a < 1) = true := by simpa using h1
    clear same h
    go_enter Tryz.func110, Tryz.ntmps110
    go_wp2_with fail
    go_ret
    exact HF.out
  have d1 : decide (a < 1) = false := by simpa using h1
  by_cases h2 : 3 < a
  · have HF := Lib.hid (same 2 (by unfold entE; rw [if_pos (Or.inr h2)]) (by decide))
    have d2 : decide (3 < a) = true := by simpa using h2
    clear same h
    go_enter Tryz.func110, Tryz.ntmps110
    go_wp2_with fail
    go_ret
    exact HF.out
  have d2 : decide (3 < a) = false := by simpa using h2
  have hne : ¬ (a < 1 ∨ 3 < a) := by omega
  by_cases h3 : s.c = 3 ∧ a = 2
  · obtain ⟨hc, rfl⟩ := h3
    obtain ⟨he, hj⟩ := ent_wait hc
    obtain ⟨hj2, ho2⟩ := h.set (s' := ⟨s.t, s.e, s.n, 2, 0, s.x, s.b, s.l⟩) 11 (.int .i64 2) (by simp [dcl, dk, hc, hi.kz hc]) rfl
    have HF := Lib.hid (show DP (.int .i64 (entE s 2)) jb rb g (entJ s 2) w (.returned (.int .i64 0)) _ from ⟨by rw [he], by rw [hj]; exact hj2, ho2⟩)
    clear he hj
    rw [hc] at c11
    clear same h hj2 ho2
    go_enter Tryz.func110, Tryz.ntmps110
    go_wp2_with fail
    go_ret
    exact HF.out
  by_cases h4 : s.c = 0
  · by_cases h5 : a = 1
    · subst h5
      have he : entE s 1 = 0 := by unfold entE; rw [if_neg hne, if_neg h3, if_neg (by omega), if_neg (by omega)]
      obtain ⟨hj2, ho2⟩ := h.set (s' := ⟨s.t, s.e, s.n, 1, 0, s.x, s.b, s.l⟩) 11 (.int .i64 1) (by simp [dcl, dk, h4]) rfl
      obtain ⟨hj3, ho3⟩ := hj2.set (s' := ⟨s.t, s.e, s.n, 1, 0, s.x, s.b, s.l⟩) 12 (.int .i64 0) (by simp [dcl, dk]) rfl
      have HF := Lib.hid (show DP (.int .i64 (entE s 1)) jb rb g (entJ s 1) w (.returned (.int .i64 0)) _ from ⟨by rw [he], by unfold entJ; rw [if_pos he, if_neg (by omega)]; exact hj3, ho2.trans ho3⟩)
      have f12 := hj2.free 12
      have e12 : (w.setCell ⟨jb, 11, none⟩ (.int .i64 1)).cell? ⟨jb, 12, none⟩ = some (.int .i64 0) := hj2.cell 12
      rw [h4] at c11
      clear same h he hj2 hj3 ho2 ho3
      go_enter Tryz.func110, Tryz.ntmps110
      go_wp2_with fail
      go_ret
      exact HF.out
    · have d5 : (a != 1) = true := by simpa using h5
      have d5' : (a == 1) = false := by simpa using h5
      by_cases h6 : s.t 7 ≤ s.x
      · have HF := Lib.hid (same 170 (by unfold entE; rw [if_neg hne, if_neg h3, if_neg (by omega), if_pos ⟨h5, h6⟩]) (by decide))
        have d6 : decide (s.t 7 ≤ s.x) = true := by simpa using h6
        rw [h4] at c11
        clear same h
        generalize s.t 7 = t7 at *
        go_enter Tryz.func110, Tryz.ntmps110
        go_wp2_with fail
        go_quiet (fail)
        go_wp2_with fail
        go_ret
        exact ⟨HF.out.1, HF.out.2.1.drewN _, HF.out.2.2.drewN _⟩
      · have d6 : decide (s.t 7 ≤ s.x) = false := by simpa using h6
        have he : entE s a = 0 := by unfold entE; rw [if_neg hne, if_neg h3, if_neg (by omega), if_neg (by omega)]
        have hx0 := hi.x0
        have hxm : s.x ≤ 9223372036854775806 := by have := hi.tm; omega
        obtain ⟨hj1, ho1⟩ := h.set (s' := ⟨s.t, s.e, s.n, s.c, s.k, s.x + 1, s.b, s.l⟩) 13 (.int .i64 (s.x + 1)) rfl rfl
        obtain ⟨hj2, ho2⟩ := hj1.set (s' := ⟨s.t, s.e, s.n, a, 0, s.x + 1, s.b, s.l⟩) 11 (.int .i64 a) (by simp [dcl, dk, h4]) rfl
        obtain ⟨hj3, ho3⟩ := hj2.set (s' := ⟨s.t, s.e, s.n, a, 0, s.x + 1, s.b, s.l⟩) 12 (.int .i64 0) (by simp [dcl, dk]) rfl
        have HF := Lib.hid (show DP (.int .i64 (entE s a)) jb rb g (entJ s a) w (.returned (.int .i64 0)) _ from ⟨by rw [he], by unfold entJ; rw [if_pos he, if_pos ⟨h4, h5⟩]; exact hj3, (ho1.trans ho2).trans ho3⟩)
        have f13 := h.free 13
        have f12 := h.free 12
        have g11 := hj1.free 11
        have g12 := hj2.free 12
        have e11 : (w.setCell ⟨jb, 13, none⟩ (.int .i64 (s.x + 1))).cell? ⟨jb, 11, none⟩ = some (.int .i64 s.c) := hj1.cell 11
        have e12 : ((w.setCell ⟨jb, 13, none⟩ (.int .i64 (s.x + 1))).setCell ⟨jb, 11, none⟩ (.int .i64 a)).cell? ⟨jb, 12, none⟩ = some (.int .i64 0) := (hj2.cell 12).trans (by simp [dcl, dk])
        rw [h4] at c11
        clear same h hj1 hj2 hj3 ho1 ho2 ho3 he
        generalize s.t 7 = t7 at *
        go_enter Tryz.func110, Tryz.ntmps110
        go_wp2_with fail
        go_quiet (fail)
        go_wp2_with fail
        go_ret
        exact ⟨HF.out.1, HF.out.2.1.drewN _, HF.out.2.2.drewN _⟩
  · have HF := Lib.hid (same 130 (by unfold entE; rw [if_neg hne, if_neg h3, if_pos h4]) (by decide))
    have d4 : (s.c != 0) = true := by simpa using h4
    clear same h
    by_cases h5 : s.c = 3
    · have d5 : (a == 2) = false := by simp; intro e; exact h3 ⟨h5, e⟩
      rw [h5] at c11
      go_enter Tryz.func110, Tryz.ntmps110
      go_wp2_with fail
      go_ret
      exact HF.out
    · have d5 : (s.c == 3) = false := by simpa using h5
      go_enter Tryz.func110, Tryz.ntmps110
      go_wp2_with fail
      go_ret
      exact HF.out
end
end Go.Proofs.YtkkmfpllgjoceaaGreat
