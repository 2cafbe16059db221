/- The document's room: Lock, Unlock, End. -/
import Derived.Test.YtkkmfpllgjoceaaGreatRooRc
import Derived.Test.YtkkmfpllgjoceaaGreatRooF
namespace Go.Proofs.YtkkmfpllgjoceaaGreat.Ro.Dr
open Go.RowKit Go.Sort Ac Jo Ro
set_option linter.unusedVariables false
set_option maxRecDepth 100000

section
variable {m m' : Mm} {w w' : World} {rb : Nat} {s s' : Rm}
/-- the stack has turned; the jobs stand where they stood -/
theorem Stp.stack {E' : List St.Sk.En} {v : Value} {e : Ending} (h : PRM m w rb s) (q : St.StP w m.sb s.n s.z m.sv m.lv v E' e w') : e = .returned v ∧ ∃ m', Stp m w rb m' w' { s with E := E' } ∧ m'.p = m.p := by
  obtain ⟨rfl, lv', q1, q2, q3⟩ := q
  obtain ⟨⟨m', h1, h2, _, _, _, h3⟩, h4⟩ := h.stack q1 q2 q3
  exact ⟨rfl, m', ⟨h1, h3, h4⟩, h2⟩
theorem setJ_sameE (s : Rm) (E : List St.Sk.En) (i : Nat) : setJ { s with E := E } i (s.J i) = { s with E := E } := setJ_same { s with E := E } i
theorem jp_E (E' : List St.Sk.En) {m1 : Mm} (hp : Jp m s) (q : m1.p = m.p) : Jp m1 { s with E := E' } := fun k hk => by rw [q]; exact hp k hk
set_option maxHeartbeats 2000000 in
theorem lock_any {S : Nat → Prop} (h : PRM m w rb s) (hp : Jp m s) (hS : ∀ k, S k ↔ m.lab k ≠ 0) (hi : Rinv s) (t r : Int) : Calls Tryz.prog 52 #[.pointer (some ⟨rb, 0, none⟩), .int .i64 t, .int .i64 r] w (RP JJ (.int .i64 (lockRE s t r)) rb S (lockR s t r) w) := by
  have HA := Lib.hid (asked_any h hp t)
  by_cases ha : asked s t ≠ 0
  · have e1 : lockRE s t r = asked s t := by unfold lockRE; rw [if_pos ha]
    have e2 : lockR s t r = s := by unfold lockR; rw [if_neg (by rw [e1]; exact ha)]
    rw [e1, e2]
    have hx : (asked s t != 0) = true := by simpa using ha
    have HF : Hid (∀ w', Below w.heap.size w w' → RP JJ (.int .i64 (asked s t)) rb S s w (.returned (.int .i64 (asked s t))) w') := fun w' q => (Stp.refl h q).rp hp hS
    generalize asked s t = x at *
    clear h hp hS hi ha e1 e2
    go_enter Tryz.func52, Tryz.ntmps52
    go_wp2_with fail
    refine HA.out.mono ?_
    rintro e w1 ⟨rfl, rfl⟩
    have HE := Lib.hid (HF.out _ (Below.refl _ _))
    clear HF HA
    go_wp2_with fail
    go_ret
    exact HE.out
  · have ha : asked s t = 0 := Decidable.not_not.1 ha
    rw [ha] at HA
    have HI := jinv h hi ha
    obtain ⟨a1, a2, a3⟩ := asked_in ha
    obtain ⟨i, rfl, hin, hpi, hjp, hsj⟩ := asked_p hp ha
    rw [hsj] at HI
    have hl : s.E.length ≤ 900 := by have := hi.ok.len; omega
    have hn1 : s.n ≤ 1000 := by have := hi.n4; omega
    obtain ⟨c0, c1, c2, c3, c4⟩ := h.cells
    obtain ⟨cj, d9, d11, d14⟩ := h.jf hin hpi
    have k0 := HI.c0
    have k3 := HI.c3
    by_cases hc : 2 ≤ (s.J i).c
    · have e1 : lockRE s i r = 130 := by unfold lockRE; rw [if_neg (by rw [ha]; decide), if_pos (by rw [hsj]; exact hc)]
      have e2 : lockR s i r = s := by unfold lockR; rw [if_neg (by rw [e1]; decide)]
      rw [e1, e2]
      have HE : Hid (RP JJ (.int .i64 130) rb S s w (.returned (.int .i64 130)) w) := (Stp.refl h (Below.refl _ _)).rp hp hS
      have hx : decide ((2 : Int) ≤ (s.J i).c) = true := decide_eq_true hc
      generalize (s.J i).c = y at *
      clear h hp hS hi ha e1 e2 c0 c1 c2 c3 d9 d14 hjp hsj HI hpi hc a1 a2 a3 hl hn1 k0 k3
      generalize s.n = n at *
      generalize m.jv = jv at *
      generalize m.ja i = jb at *
      go_enter Tryz.func52, Tryz.ntmps52
      go_wp2_with fail
      refine HA.out.mono ?_
      rintro e w1 ⟨rfl, rfl⟩
      go_wp2_with fail
      go_ret
      exact HE.out
    · have hx : decide ((2 : Int) ≤ (s.J i).c) = false := decide_eq_false hc
      have eL := lock_or (r := r) ha (show ¬ 2 ≤ (s.j i).c by rw [hsj]; exact hc)
      have HST : Hid (Calls Tryz.prog 109 #[.pointer (some ⟨m.sb, 0, none⟩), .int .i64 i, .int .i64 r] w (St.StP w m.sb s.n s.z m.sv m.lv (.int .i64 (lockRE s i r)) (St.Sk.lockL s.n (s.us i r) s.E i r))) := by
        rw [eL]; exact Lib.hid (St.rlock_any h.so hl hn1 i r)
      by_cases hz : lockRE s i r = 0
      · have eE : St.Sk.lockL s.n (s.us i r) s.E i r = s.E ++ [((i : Int), r)] := by unfold St.Sk.lockL; rw [if_pos (by rw [← eL]; exact hz)]
        rw [eE, hz] at HST
        have HQ : Hid (∀ e w2, St.StP w m.sb s.n s.z m.sv m.lv (.int .i64 0) (s.E ++ [((i : Int), r)]) e w2 → e = .returned (.int .i64 0) ∧ ∃ m1, Stp m w rb m1 w2 { s with E := s.E ++ [((i : Int), r)] } ∧ m1.p = m.p) := fun e w2 q => Stp.stack h q
        by_cases hc0 : (s.J i).c = 0
        · have e2 : lockR s i r = setJ { s with E := s.E ++ [((i : Int), r)] } i (entJ (s.J i) 1) := by unfold lockR; rw [if_pos hz, if_pos (by rw [hsj]; exact hc0), hsj]
          have e3 : entE (s.J i) 1 = 0 := by unfold entE; rw [if_neg (by decide), if_neg (by omega), if_neg (by omega), if_neg (by omega)]
          rw [hz, e2]
          have HEN : Hid (∀ m1 w1, Stp m w rb m1 w1 { s with E := s.E ++ [((i : Int), r)] } → m1.p = m.p → w1.cell? ⟨rb, 0 + 4, none⟩ = some (.slice (some ⟨m1.jv, 0, none⟩) s.n s.n) ∧ w1.cell? ⟨m1.jv, i, none⟩ = some (.pointer (some ⟨m1.ja i, 0, none⟩)) ∧ w1.cell? ⟨m1.ja i, 0 + 11, none⟩ = some (.int .i64 0) ∧
              Calls Tryz.prog 110 #[.pointer (some ⟨m1.ja i, 0, none⟩), .int .i64 1] w1 (fun e w' => e = .returned (.int .i64 0) ∧ RP JJ (.int .i64 0) rb S (setJ { s with E := s.E ++ [((i : Int), r)] } i (entJ (s.J i) 1)) w (.returned (.int .i64 0)) w')) := Lib.hid (fun m1 w1 q1 q2 => by
            have hp1 : m1.p i = true := by rw [q2]; exact hpi
            obtain ⟨f1, _, f3, _⟩ := q1.pr.jf hin hp1
            refine ⟨q1.pr.cells.2.2.2.2, f1, by rw [← hc0]; exact f3, ?_⟩
            have h1 := rjenter_any (q1.pr.jb i hin hp1) HI 1
            rw [show ({ s with E := s.E ++ [((i : Int), r)] } : Rm).J i = s.J i from rfl, e3] at h1
            refine h1.mono ?_
            rintro e w' ⟨rfl, q4, q5⟩
            exact ⟨rfl, (q1.trans (Stp.job q1.pr hin hp1 q4 q5)).rp (jp_E (s.E ++ [((i : Int), r)]) hp q2) hS⟩)
          rw [hc0] at hx d11
          generalize m.sb = sb at *
          generalize m.jv = jv at *
          generalize m.ja i = jb at *
          clear h hp hS hi ha e2 e3 c0 c1 c2 d9 d14 hjp hsj HI hpi hc a1 a2 a3 hl hn1 k0 k3 hz eE eL hc0
          generalize s.n = n at *
          go_enter Tryz.func52, Tryz.ntmps52
          go_wp2_with fail
          refine HA.out.mono ?_
          rintro e w1 ⟨rfl, rfl⟩
          go_wp2_with fail
          refine HST.out.mono ?_
          intro e w2 hq
          obtain ⟨rfl, m1, q1, q2⟩ := HQ.out _ _ hq
          obtain ⟨f4, fj, f11, hen⟩ := HEN.out _ _ q1 q2
          have HE := Lib.hid hen
          clear hq q1 q2 HST HQ HEN c3 c4 cj d11 hen
          generalize m1.jv = jv1 at *
          generalize m1.ja i = jb1 at *
          go_wp2_with fail
          refine HE.out.mono ?_
          rintro e w3 ⟨rfl, hr⟩
          have HR := Lib.hid hr
          clear hr HE
          go_wp2_with fail
          go_ret
          exact HR.out
        · have e2 : lockR s i r = { s with E := s.E ++ [((i : Int), r)] } := by unfold lockR; rw [if_pos hz, if_neg (by rw [hsj]; exact hc0), hsj]; exact setJ_sameE s _ i
          rw [hz, e2]
          have hx0 : ((s.J i).c == 0) = false := by simpa using hc0
          have HEN : Hid (∀ m1 w1, Stp m w rb m1 w1 { s with E := s.E ++ [((i : Int), r)] } → m1.p = m.p → w1.cell? ⟨rb, 0 + 4, none⟩ = some (.slice (some ⟨m1.jv, 0, none⟩) s.n s.n) ∧ w1.cell? ⟨m1.jv, i, none⟩ = some (.pointer (some ⟨m1.ja i, 0, none⟩)) ∧ w1.cell? ⟨m1.ja i, 0 + 11, none⟩ = some (.int .i64 (s.J i).c) ∧
              RP JJ (.int .i64 0) rb S { s with E := s.E ++ [((i : Int), r)] } w (.returned (.int .i64 0)) w1) := Lib.hid (fun m1 w1 q1 q2 => by
            have hp1 : m1.p i = true := by rw [q2]; exact hpi
            obtain ⟨f1, _, f3, _⟩ := q1.pr.jf hin hp1
            exact ⟨q1.pr.cells.2.2.2.2, f1, f3, q1.rp (jp_E _ hp q2) hS⟩)
          generalize (s.J i).c = y at *
          generalize m.sb = sb at *
          generalize m.jv = jv at *
          generalize m.ja i = jb at *
          clear h hp hS hi ha e2 c0 c1 c2 d9 d14 hjp hsj HI hpi hc a1 a2 a3 hl hn1 k0 k3 hz eE eL hc0
          generalize s.n = n at *
          go_enter Tryz.func52, Tryz.ntmps52
          go_wp2_with fail
          refine HA.out.mono ?_
          rintro e w1 ⟨rfl, rfl⟩
          go_wp2_with fail
          refine HST.out.mono ?_
          intro e w2 hq
          obtain ⟨rfl, m1, q1, q2⟩ := HQ.out _ _ hq
          obtain ⟨f4, fj, f11, hen⟩ := HEN.out _ _ q1 q2
          have HE := Lib.hid hen
          clear hq q1 q2 HST HQ HEN c3 c4 cj d11 hen
          generalize m1.jv = jv1 at *
          generalize m1.ja i = jb1 at *
          go_wp2_with fail
          go_ret
          exact HE.out
      · have eE : St.Sk.lockL s.n (s.us i r) s.E i r = s.E := by unfold St.Sk.lockL; rw [if_neg (by rw [← eL]; exact hz)]
        have e2 : lockR s i r = s := by unfold lockR; rw [if_neg hz]
        rw [e2]
        rw [eE] at HST
        have hxz : (lockRE s i r == 0) = false := by simpa using hz
        have HF : Hid (∀ e w', St.StP w m.sb s.n s.z m.sv m.lv (.int .i64 (lockRE s i r)) s.E e w' → e = .returned (.int .i64 (lockRE s i r)) ∧ RP JJ (.int .i64 (lockRE s i r)) rb S s w e w') := fun e w' q => by
          obtain ⟨rfl, m1, q1, q2⟩ := Stp.stack h q
          exact ⟨rfl, q1.rp (jp_E _ hp q2) hS⟩
        generalize m.sb = sb at *
        generalize lockRE s i r = x at *
        generalize (s.J i).c = y at *
        generalize m.jv = jv at *
        generalize m.ja i = jb at *
        clear h hp hS hi ha e2 c0 c1 c2 d9 d14 hjp hsj HI hpi hc a1 a2 a3 hl hn1 k0 k3 hz eE eL
        generalize s.n = n at *
        go_enter Tryz.func52, Tryz.ntmps52
        go_wp2_with fail
        refine HA.out.mono ?_
        rintro e w1 ⟨rfl, rfl⟩
        go_wp2_with fail
        refine HST.out.mono ?_
        intro e w2 hq
        obtain ⟨rfl, q1⟩ := HF.out _ _ hq
        have HE := Lib.hid q1
        clear hq q1 HST HF c3 c4 cj d11
        go_wp2_with fail
        go_ret
        exact HE.out
set_option maxHeartbeats 2000000 in
theorem unl_any {S : Nat → Prop} (h : PRM m w rb s) (hp : Jp m s) (hS : ∀ k, S k ↔ m.lab k ≠ 0) (hi : Rinv s) (t : Int) : Calls Tryz.prog 53 #[.pointer (some ⟨rb, 0, none⟩), .int .i64 t] w (RP JJ (.int .i64 (unlRE s t)) rb S (unlRm s t) w) := by
  have HA := Lib.hid (asked_any h hp t)
  by_cases ha : asked s t ≠ 0
  · have e1 : unlRE s t = asked s t := by unfold unlRE; rw [if_pos ha]
    have e2 : unlRm s t = s := by unfold unlRm; rw [if_neg (by rw [e1]; exact ha)]
    rw [e1, e2]
    have hx : (asked s t != 0) = true := by simpa using ha
    have HF : Hid (∀ w', Below w.heap.size w w' → RP JJ (.int .i64 (asked s t)) rb S s w (.returned (.int .i64 (asked s t))) w') := fun w' q => (Stp.refl h q).rp hp hS
    generalize asked s t = x at *
    clear h hp hS hi ha e1 e2
    go_enter Tryz.func53, Tryz.ntmps53
    go_wp2_with fail
    refine HA.out.mono ?_
    rintro e w1 ⟨rfl, rfl⟩
    have HE := Lib.hid (HF.out _ (Below.refl _ _))
    clear HF HA
    go_wp2_with fail
    go_ret
    exact HE.out
  · have ha : asked s t = 0 := Decidable.not_not.1 ha
    rw [ha] at HA
    have HI := jinv h hi ha
    obtain ⟨a1, a2, a3⟩ := asked_in ha
    obtain ⟨i, rfl, hin, hpi, hjp, hsj⟩ := asked_p hp ha
    rw [hsj] at HI
    have hl : s.E.length ≤ 900 := by have := hi.ok.len; omega
    have hn1 : s.n ≤ 1000 := by have := hi.n4; omega
    obtain ⟨c0, c1, c2, c3, c4⟩ := h.cells
    obtain ⟨cj, d9, d11, d14⟩ := h.jf hin hpi
    have eU : unlRE s i = St.Sk.unlE s.n s.E i := by unfold unlRE; rw [if_neg (by rw [ha]; decide)]
    have eN : St.unlN s.n s.E i = St.Sk.unlL s.E i := by unfold St.unlN; rw [if_pos ⟨a1, a2⟩]
    obtain ⟨res, hV⟩ : ∃ res, St.unlV s.n s.E i = .tuple #[.int .i64 res, .int .i64 (unlRE s i)] := ⟨_, by rw [eU]; rfl⟩
    have HST : Hid (Calls Tryz.prog 111 #[.pointer (some ⟨m.sb, 0, none⟩), .int .i64 i] w (St.StP w m.sb s.n s.z m.sv m.lv (.tuple #[.int .i64 res, .int .i64 (unlRE s i)]) (St.Sk.unlL s.E i))) := by
      have := St.runl_any h.so hl hn1 i
      rw [hV, eN] at this
      exact Lib.hid this
    by_cases hz : unlRE s i = 0
    · rw [hz] at HST
      have hlen2 : (St.Sk.unlL s.E i).length ≤ 1000 := Nat.le_trans (unlL_sub s.E i).length_le (by omega)
      have HQ : Hid (∀ e w2, St.StP w m.sb s.n s.z m.sv m.lv (.tuple #[.int .i64 res, .int .i64 0]) (St.Sk.unlL s.E i) e w2 → e = .returned (.tuple #[.int .i64 res, .int .i64 0]) ∧ ∃ m1, Stp m w rb m1 w2 { s with E := St.Sk.unlL s.E i } ∧ m1.p = m.p ∧ w2.cell? ⟨rb, 0 + 3, none⟩ = some (.pointer (some ⟨m1.sb, 0, none⟩)) ∧ Calls Tryz.prog 112 #[.pointer (some ⟨m1.sb, 0, none⟩), .int .i64 i] w2 (NumP w2 (St.Sk.held (St.Sk.unlL s.E i) i))) := Lib.hid (fun e w2 q => by
        obtain ⟨rfl, m1, q1, q2⟩ := Stp.stack h q
        exact ⟨rfl, m1, q1, q2, q1.pr.cells.2.2.2.1, St.rheld_any q1.pr.so.rs hlen2 i⟩)
      by_cases hh : St.Sk.held (St.Sk.unlL s.E i) i = []
      · have e2 : unlRm s i = setJ { s with E := St.Sk.unlL s.E i } i (leaJ (s.J i)) := by unfold unlRm; rw [if_pos hz, if_pos hh, hsj]
        have HLE : Hid (∀ m1 w1 w2, Stp m w rb m1 w1 { s with E := St.Sk.unlL s.E i } → m1.p = m.p → Below w1.heap.size w1 w2 → w2.cell? ⟨rb, 0 + 4, none⟩ = some (.slice (some ⟨m1.jv, 0, none⟩) s.n s.n) ∧ w2.cell? ⟨m1.jv, i, none⟩ = some (.pointer (some ⟨m1.ja i, 0, none⟩)) ∧
            Calls Tryz.prog 113 #[.pointer (some ⟨m1.ja i, 0, none⟩)] w2 (fun e w' => (∃ x, e = .returned (.int .i64 x)) ∧ RP JJ (.int .i64 0) rb S (setJ { s with E := St.Sk.unlL s.E i } i (leaJ (s.J i))) w (.returned (.int .i64 0)) w')) := Lib.hid (fun m1 w1 w2 q1 q2 hb => by
          have hp1 : m1.p i = true := by rw [q2]; exact hpi
          have q3 := q1.below hb
          obtain ⟨f1, _, f3, _⟩ := q3.pr.jf hin hp1
          refine ⟨q3.pr.cells.2.2.2.2, f1, ?_⟩
          refine (rjleave_any (q3.pr.jb i hin hp1) HI).mono ?_
          rintro e w' ⟨rfl, q4, q5⟩
          exact ⟨⟨_, rfl⟩, (q3.trans (Stp.job q3.pr hin hp1 q4 q5)).rp (jp_E (St.Sk.unlL s.E i) hp q2) hS⟩)
        rw [hz, e2]
        rw [hh] at HQ
        generalize m.sb = sb at *
        clear h hp hS hi ha e2 c0 c1 c2 d9 d11 d14 hjp hsj HI hpi a1 a2 a3 hl hn1 hz eU eN hh hV c4 cj hlen2
        generalize s.n = n at *
        go_enter Tryz.func53, Tryz.ntmps53
        go_wp2_with fail
        refine HA.out.mono ?_
        rintro e w1 ⟨rfl, rfl⟩
        go_wp2_with fail
        refine HST.out.mono ?_
        intro e w2 hq
        obtain ⟨rfl, m1, q1, q2, f3, hhd⟩ := HQ.out _ _ hq
        have HLE2 := Lib.hid (fun w3 hb => HLE.out m1 w2 w3 q1 q2 hb)
        have HHD := Lib.hid hhd
        clear hq q1 q2 HST HQ HLE c3 hhd
        generalize m1.sb = sb1 at *
        go_wp2_with fail
        refine HHD.out.mono ?_
        rintro e w3 ⟨x, rfl, hnr, hb⟩
        obtain ⟨xa, xc, rfl⟩ := hnr.is_form
        obtain ⟨f4, fj, hle⟩ := HLE2.out _ hb
        have HE := Lib.hid hle
        clear hnr hb HHD hle HLE2 f3
        generalize m1.jv = jv1 at *
        generalize m1.ja i = jb1 at *
        go_wp2_with fail
        refine HE.out.mono ?_
        rintro e w4 ⟨⟨x, rfl⟩, hr⟩
        have HR := Lib.hid hr
        clear hr HE
        go_wp2_with fail
        go_ret
        exact HR.out
      · have e2 : unlRm s i = { s with E := St.Sk.unlL s.E i } := by unfold unlRm; rw [if_pos hz, if_neg hh, hsj]; exact setJ_sameE s _ i
        rw [hz, e2]
        have hlpos : 0 < (St.Sk.held (St.Sk.unlL s.E i) i).length := List.length_pos_iff.2 hh
        have HF : Hid (∀ m1 w1 w2, Stp m w rb m1 w1 { s with E := St.Sk.unlL s.E i } → m1.p = m.p → Below w1.heap.size w1 w2 → RP JJ (.int .i64 0) rb S { s with E := St.Sk.unlL s.E i } w (.returned (.int .i64 0)) w2) := Lib.hid (fun m1 w1 w2 q1 q2 hb => (q1.below hb).rp (jp_E _ hp q2) hS)
        generalize St.Sk.held (St.Sk.unlL s.E i) i = hel at *
        generalize m.sb = sb at *
        clear h hp hS hi ha e2 c0 c1 c2 d9 d11 d14 hjp hsj HI hpi a1 a2 a3 hl hn1 hz eU eN hh hV c4 cj hlen2 hin
        go_enter Tryz.func53, Tryz.ntmps53
        go_wp2_with fail
        refine HA.out.mono ?_
        rintro e w1 ⟨rfl, rfl⟩
        go_wp2_with fail
        refine HST.out.mono ?_
        intro e w2 hq
        obtain ⟨rfl, m1, q1, q2, f3, hhd⟩ := HQ.out _ _ hq
        have HF2 := Lib.hid (fun w3 hb => HF.out m1 w2 w3 q1 q2 hb)
        have HHD := Lib.hid hhd
        clear hq q1 q2 HST HQ HF c3 hhd
        generalize m1.sb = sb1 at *
        go_wp2_with fail
        refine HHD.out.mono ?_
        rintro e w3 ⟨x, rfl, hnr, hb⟩
        obtain ⟨xa, xc, rfl⟩ := hnr.is_form
        have HR := Lib.hid (HF2.out _ hb)
        clear hnr hb HHD HF2 f3
        generalize hel.length = hn at *
        have hn0 : ((hn : Int) == 0) = false := by simp; omega
        go_wp2_with fail
        go_ret
        exact HR.out
    · have eE : St.Sk.unlL s.E i = s.E := by
        rw [eU] at hz
        unfold St.Sk.unlE at hz
        rw [if_pos ⟨a1, a2⟩] at hz
        unfold St.Sk.unlL
        cases hu : St.Sk.unl s.E i s.E.length with
        | some k => rw [hu] at hz; exact absurd rfl hz
        | none => rfl
      have e2 : unlRm s i = s := by unfold unlRm; rw [if_neg hz]
      rw [e2]
      rw [eE] at HST
      have hxz : (unlRE s i == 0) = false := by simpa using hz
      have HF : Hid (∀ e w', St.StP w m.sb s.n s.z m.sv m.lv (.tuple #[.int .i64 res, .int .i64 (unlRE s i)]) s.E e w' → e = .returned (.tuple #[.int .i64 res, .int .i64 (unlRE s i)]) ∧ RP JJ (.int .i64 (unlRE s i)) rb S s w (.returned (.int .i64 (unlRE s i))) w') := fun e w' q => by
        obtain ⟨rfl, m1, q1, q2⟩ := Stp.stack h q
        exact ⟨rfl, q1.rp (jp_E _ hp q2) hS⟩
      generalize m.sb = sb at *
      generalize unlRE s i = x at *
      clear h hp hS hi ha e2 c0 c1 c2 d9 d11 d14 hjp hsj HI hpi a1 a2 a3 hl hn1 hz eU eN eE hV c4 cj hin
      go_enter Tryz.func53, Tryz.ntmps53
      go_wp2_with fail
      refine HA.out.mono ?_
      rintro e w1 ⟨rfl, rfl⟩
      go_wp2_with fail
      refine HST.out.mono ?_
      intro e w2 hq
      obtain ⟨rfl, q1⟩ := HF.out _ _ hq
      have HE := Lib.hid q1
      clear hq q1 HST HF c3
      go_wp2_with fail
      go_ret
      exact HE.out
set_option maxHeartbeats 2000000 in
theorem fin_any {S : Nat → Prop} (h : PRM m w rb s) (hp : Jp m s) (hS : ∀ k, S k ↔ m.lab k ≠ 0) (hi : Rinv s) (t : Int) : Calls Tryz.prog 57 #[.pointer (some ⟨rb, 0, none⟩), .int .i64 t] w (RP JJ (.bool (endB s t)) rb S (endR s t) w) := by
  have HA := Lib.hid (asked_any h hp t)
  by_cases ha : asked s t ≠ 0
  · have e1 : endB s t = false := by unfold endB; simpa using ha
    have e2 : endR s t = s := by unfold endR; rw [if_neg ha]
    rw [e1, e2]
    have hx : (asked s t != 0) = true := by simpa using ha
    have HF : Hid (RP JJ (.bool false) rb S s w (.returned (.bool false)) w) := (Stp.refl h (Below.refl _ _)).rp hp hS
    generalize asked s t = x at *
    clear h hp hS hi ha e1 e2
    go_enter Tryz.func57, Tryz.ntmps57
    go_wp2_with fail
    refine HA.out.mono ?_
    rintro e w1 ⟨rfl, rfl⟩
    go_wp2_with fail
    go_ret
    exact HF.out
  · have ha : asked s t = 0 := Decidable.not_not.1 ha
    rw [ha] at HA
    have e1 : endB s t = true := by unfold endB; simpa using ha
    have e2 : endR s t = { s with L := Rq.Rd.rmL s.L t, E := St.Sk.drp s.E t } := by unfold endR; rw [if_pos ha]
    rw [e1, e2]
    obtain ⟨a1, a2, a3⟩ := asked_in ha
    obtain ⟨i, rfl, hin, hpi, hjp, hsj⟩ := asked_p hp ha
    have hn1 : s.n ≤ 1000 := by have := hi.n4; omega
    obtain ⟨c0, c1, c2, c3, c4⟩ := h.cells
    have cj := h.jcell hin
    have fj := frozen_of_row _ _ i _ _ h.jo
    obtain ⟨⟨m1, p1, p2, p3⟩, p4⟩ := h.drop (t := i) hin
    have HQU : Hid (∀ (w1 : World) (m1 : Mm), PRM m1 w1 rb s → Calls Tryz.prog 114 #[.pointer (some ⟨m1.qb, 0, none⟩), .int .i64 i] w1 (fun e w2 => e = .returned (.bool true) ∧ PRM m1 w2 rb { s with L := Rq.Rd.rmL s.L i } ∧ Only (fun k => m1.lab k ≠ 0) w1 w2)) := Lib.hid (fun w1 m1 h1 => by
      refine (Rq.rrem_any h1.qs hi.gd i).mono ?_
      rintro e w2 ⟨rfl, q1, q2⟩
      obtain ⟨h2, h3⟩ := h1.queue q1 q2
      exact ⟨by rw [show decide (0 ≤ Rq.Rd.dl s.L (i : Int)) = true from decide_eq_true a3], h2, h3⟩)
    have HST : Hid (∀ (w1 : World) (m1 : Mm), PRM m1 w1 rb { s with L := Rq.Rd.rmL s.L i } → Calls Tryz.prog 115 #[.pointer (some ⟨m1.sb, 0, none⟩), .int .i64 i] w1 (fun e w2 => (∃ r, e = .returned r) ∧ ∃ m2, Stp m1 w1 rb m2 w2 { s with L := Rq.Rd.rmL s.L i, E := St.Sk.drp s.E i } ∧ m2.p = m1.p)) := Lib.hid (fun w1 m1 h1 => by
      refine (St.rdrop_any h1.so hi.ok hn1 i).mono ?_
      rintro e w2 ⟨r, rfl, _, lv', q1, q2, q3⟩
      obtain ⟨⟨m', h1, h2, _, _, _, h3⟩, h4⟩ := h1.stack q1 q2 q3
      exact ⟨⟨r, rfl⟩, m', ⟨h1, h3, h4⟩, h2⟩)
    have HF : Hid (∀ (w2 w3 : World) (m2 : Mm), PRM m1 w2 rb { s with L := Rq.Rd.rmL s.L i } → Only (fun k => m1.lab k ≠ 0) (w.setCell ⟨m.jv, i, none⟩ (.pointer none)) w2 → Stp m1 w2 rb m2 w3 { s with L := Rq.Rd.rmL s.L i, E := St.Sk.drp s.E i } → m2.p = m1.p → RP JJ (.bool true) rb S { s with L := Rq.Rd.rmL s.L i, E := St.Sk.drp s.E i } w (.returned (.bool true)) w3) := Lib.hid (fun w2 w3 m2 q1 q2 q3 q4 => by
      have st1 : Stp m w rb m1 (w.setCell ⟨m.jv, i, none⟩ (.pointer none)) s := ⟨p1, fun k hk => Or.inl (by rw [p3] at hk; exact hk), p4⟩
      have st2 : Stp m1 (w.setCell ⟨m.jv, i, none⟩ (.pointer none)) rb m1 w2 { s with L := Rq.Rd.rmL s.L i } := ⟨q1, fun k hk => Or.inl hk, q2⟩
      refine ((st1.trans st2).trans q3).rp ?_ hS
      intro k hk
      show m2.p k = decide (0 ≤ Rq.Rd.dl (Rq.Rd.rmL s.L i) (k : Int))
      rw [q4, p2]
      show (if k = i then false else m.p k) = _
      by_cases e : k = i
      · subst e
        have : Rq.Rd.dl (Rq.Rd.rmL s.L (k : Int)) (k : Int) = -1 := by
          unfold Rq.Rd.rmL
          rw [if_pos (show 0 ≤ Rq.Rd.dl s.L (k : Int) from a3), Rq.Rd.dl_set a1 (by rw [hi.len]; exact a2), if_pos rfl]
        rw [this]
        simp
      · rw [if_neg e, rm_other (show (k : Int) ≠ (i : Int) by omega)]
        exact hp k hk)
    have HC : Hid (∀ (w1 : World) (m1 : Mm) (s1 : Rm), PRM m1 w1 rb s1 → w1.cell? ⟨rb, 0 + 2, none⟩ = some (.pointer (some ⟨m1.qb, 0, none⟩)) ∧ w1.cell? ⟨rb, 0 + 3, none⟩ = some (.pointer (some ⟨m1.sb, 0, none⟩))) := Lib.hid (fun w1 m1 s1 h1 => ⟨h1.cells.2.2.1, h1.cells.2.2.2.1⟩)
    have HQ1 := Lib.hid (HQU.out _ m1 p1)
    have g2 := (HC.out _ _ _ p1).1
    generalize m.jp i = jv0 at *
    clear h hp hS hi ha e1 e2 hpi hjp hsj a1 a2 a3 p1 p2 p3 p4 hn1 c0 c1 c2 c3 HQU
    generalize m.jv = jv at *
    generalize s.n = n at *
    go_enter Tryz.func57, Tryz.ntmps57
    go_wp2_with fail
    refine HA.out.mono ?_
    rintro e w1 ⟨rfl, rfl⟩
    go_wp2_with fail
    refine HQ1.out.mono ?_
    rintro e w2 ⟨rfl, q1, q2⟩
    have g3 := (HC.out _ _ _ q1).2
    have HS1 := Lib.hid (HST.out _ _ q1)
    have HF1 := Lib.hid (fun w3 m2 a b => HF.out w2 w3 m2 q1 q2 a b)
    clear q1 q2 HQ1 HF HST g2 c4 cj fj HC
    generalize m1.sb = sb1 at *
    go_wp2_with fail
    refine HS1.out.mono ?_
    rintro e w3 ⟨⟨r, rfl⟩, m2, q3, q4⟩
    have HE := Lib.hid (HF1.out _ _ q3 q4)
    clear q3 q4 HF1 HS1
    go_wp2_with fail
    go_ret
    exact HE.out
end
end Go.Proofs.YtkkmfpllgjoceaaGreat.Ro.Dr
