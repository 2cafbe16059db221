/- The program's room, written: Lock, Unlock, End. -/
import Derived.Test.YtkkmfpllgjoceaaGreatRooD
namespace Go.Proofs.YtkkmfpllgjoceaaGreat.Ro
open Go.RowKit Go.Sort Ac Jo
set_option linter.unusedVariables false
set_option maxRecDepth 100000

section
variable {m m' : Mm} {w w' : World} {rb : Nat} {s s' : Rm}
theorem Stp.stack {E' : List St.Sk.En} {v : Value} {e : Ending} (h : PRM m w rb s) (q : St.StQ w m.sb s.n s.z m.sv m.lv v E' e w') : e = .returned v ∧ ∃ m', Stp m w rb m' w' { s with E := E' } ∧ m'.p = m.p := by
  obtain ⟨rfl, lv', q1, q2, q3⟩ := q
  obtain ⟨⟨m', h1, h2, _, _, _, h3⟩, h4⟩ := h.stack q1 q2 q3
  exact ⟨rfl, m', ⟨h1, h3, h4⟩, h2⟩
theorem lock_or {s : Rm} {t r : Int} (ha : asked s t = 0) (hc : ¬ 2 ≤ (s.j t).c) : lockRE s t r = St.Sk.lockE s.n (s.us t r) s.E t r := by unfold lockRE; rw [if_neg (by rw [ha]; decide), if_neg hc]
set_option maxHeartbeats 2000000 in
theorem lock_any {S : Nat → Prop} (h : PRM m w rb s) (hp : Jp m s) (hS : ∀ k, S k ↔ m.lab k ≠ 0) (hi : Rinv s) (t r : Int) : Calls Tryz.prog 22 #[.pointer (some ⟨rb, 0, none⟩), .int .i64 t, .int .i64 r] w (RP JJ (.int .i64 (lockRE s t r)) rb S (lockR s t r) w) := by
  by_cases ha : asked s t ≠ 0
  · have HSEC := Lib.hid (sec_any h hp t)
    have e1 : lockRE s t r = asked s t := by unfold lockRE; rw [if_pos ha]
    have e2 : lockR s t r = s := by unfold lockR; rw [if_neg (by rw [e1]; exact ha)]
    rw [e1, e2]
    have hx : (asked s t != 0) = true := by simpa using ha
    have HF : Hid (∀ w', Below w.heap.size w w' → RP JJ (.int .i64 (asked s t)) rb S s w (.returned (.int .i64 (asked s t))) w') := fun w' q => (Stp.refl h q).rp hp hS
    generalize asked s t = x at *
    generalize secN s t = y at *
    clear h hp hS hi ha e1 e2
    go_enter Tryz.func22, Tryz.ntmps22
    go_wp2_with fail
    refine HSEC.out.mono ?_
    rintro e w1 ⟨rfl, hb⟩
    have HE := Lib.hid (HF.out _ hb)
    clear HF HSEC hb
    go_wp2_with fail
    go_ret
    exact HE.out
  · have ha : asked s t = 0 := Decidable.not_not.1 ha
    have HI := jinv h hi ha
    have c0 : 0 ≤ (s.j t).c := HI.c0
    have c3 : (s.j t).c ≤ 3 := HI.c3
    have HSEC := sec_any h hp t
    have es : secN s t = (s.j t).c := if_pos ha
    rw [es, ha] at HSEC
    have HSEC := Lib.hid HSEC
    by_cases hc : 2 ≤ (s.j t).c
    · have e1 : lockRE s t r = 130 := by unfold lockRE; rw [if_neg (by rw [ha]; decide), if_pos hc]
      have e2 : lockR s t r = s := by unfold lockR; rw [if_neg (by rw [e1]; decide)]
      rw [e1, e2]
      have HF : Hid (∀ w', Below w.heap.size w w' → RP JJ (.int .i64 130) rb S s w (.returned (.int .i64 130)) w') := fun w' q => (Stp.refl h q).rp hp hS
      have HSH := Lib.hid (fun W => shared_any (s.j t).c W)
      rw [show decide ((s.j t).c = 2 ∨ (s.j t).c = 3) = true by simp; omega] at HSH
      generalize (s.j t).c = y at *
      clear h hp hS hi ha e1 e2 HI es hc c0 c3
      go_enter Tryz.func22, Tryz.ntmps22
      go_wp2_with fail
      refine HSEC.out.mono ?_
      rintro e w1 ⟨rfl, hb⟩
      have HE := Lib.hid (HF.out _ hb)
      clear HSEC hb HF
      go_wp2_with fail
      refine (HSH.out _).mono ?_
      rintro e w2 ⟨rfl, rfl⟩
      go_wp2_with fail
      go_ret
      exact HE.out
    · have HSH := Lib.hid (fun W => shared_any (s.j t).c W)
      rw [show decide ((s.j t).c = 2 ∨ (s.j t).c = 3) = false by simp; omega] at HSH
      have eL := lock_or (r := r) ha hc
      have hl : s.E.length ≤ 900 := by have := hi.ok.len; omega
      obtain ⟨i, rfl, hin, hpi, hjp, hsj⟩ := asked_p hp ha
      obtain ⟨c0r, _, _, _, _⟩ := h.cells
      have HST : Hid (∀ w1, Below w.heap.size w w1 → Calls Tryz.prog 82 #[.pointer (some ⟨m.sb, 0, none⟩), .int .i64 i, .int .i64 r] w1 (St.StQ w1 m.sb s.n s.z m.sv m.lv (.int .i64 (lockRE s i r)) (St.Sk.lockL s.n (s.us i r) s.E i r))) := fun w1 hb => by
        rw [eL]; exact St.lock_any (h.below hb).so hl hi.h4 i r
      by_cases hz : lockRE s i r = 0
      · have eE : St.Sk.lockL s.n (s.us i r) s.E i r = s.E ++ [((i : Int), r)] := by unfold St.Sk.lockL; rw [if_pos (by rw [← eL]; exact hz)]
        rw [eE, hz] at HST
        by_cases hc0 : (s.j i).c = 0
        · have e2 : lockR s i r = setJ { s with E := s.E ++ [((i : Int), r)] } i (entJ (s.J i) 1) := by unfold lockR; rw [if_pos hz, if_pos hc0, hsj]
          have e3 : entE (s.J i) 1 = 0 := by rw [hsj] at hc0; unfold entE; rw [if_neg (by decide), if_neg (by omega), if_neg (by omega), if_neg (by omega)]
          rw [hz, e2]
          rw [hc0] at HSEC HSH
          have HEN : Hid (∀ w1 m1, Jp m1 { s with E := s.E ++ [((i : Int), r)] } → m1.p i = true → PRM m1 w1 rb { s with E := s.E ++ [((i : Int), r)] } → Calls Tryz.prog 83 #[.pointer (some ⟨rb, 0, none⟩), .int .i64 i, .int .i64 1] w1 (JQ m1 i 0 (entJ (s.J i) 1) w1)) := fun w1 m1 hp1 hpi1 h1 => by
            have := ent_any' h1 hp1 hin hpi1 ha (by rw [hsj] at HI; exact HI) 1
            rw [e3] at this
            exact this
          have HF : Hid (∀ w1 w2 m1 e w', Below w.heap.size w w1 → Stp m w1 rb m1 w2 { s with E := s.E ++ [((i : Int), r)] } → m1.p = m.p → JQ m1 i 0 (entJ (s.J i) 1) w2 e w' → RP JJ (.int .i64 0) rb S (setJ { s with E := s.E ++ [((i : Int), r)] } i (entJ (s.J i) 1)) w e w') := fun w1 w2 m1 e w' hb q1 q2 q3 => by
            obtain ⟨rfl, q4, q5⟩ := q3
            refine (((Stp.refl h hb).trans q1).trans (Stp.job q1.pr hin (by rw [q2]; exact hpi) q4 q5)).rp ?_ hS
            show Jp m1 _
            intro k hk
            rw [q2]; exact hp k hk
          have HJP : Hid (∀ m1 : Mm, m1.p = m.p → Jp m1 { s with E := s.E ++ [((i : Int), r)] } ∧ m1.p i = true) := fun m1 q => ⟨fun k hk => by rw [q]; exact hp k hk, by rw [q]; exact hpi⟩
          have HST2 : Hid (∀ w1 e w2, Below w.heap.size w w1 → St.StQ w1 m.sb s.n s.z m.sv m.lv (.int .i64 0) (s.E ++ [((i : Int), r)]) e w2 → e = .returned (.int .i64 0) ∧ ∃ m', Stp m w1 rb m' w2 { s with E := s.E ++ [((i : Int), r)] } ∧ m'.p = m.p) := fun w1 e w2 hb q => Stp.stack (h.below hb) q
          generalize m.sb = sb at *
          clear h hp hS hi ha e2 e3 HI es hc c0 c3 hpi hjp hsj hz eE eL hl hc0
          go_enter Tryz.func22, Tryz.ntmps22
          go_wp2_with fail
          refine HSEC.out.mono ?_
          rintro e w1 ⟨rfl, hb⟩
          have d0 := (hb.cell (lt_of_cell c0r)).trans c0r
          have HB := Lib.hid hb
          clear HSEC hb c0r
          go_wp2_with fail
          refine (HSH.out _).mono ?_
          rintro e w2 ⟨rfl, rfl⟩
          go_wp2_with fail
          refine (HST.out _ HB.out).mono ?_
          intro e w2 hq
          obtain ⟨rfl, m1, q1, q2⟩ := HST2.out _ _ _ HB.out hq
          have HQ1 := Lib.hid q1
          have HQ2 := Lib.hid q2
          clear hq q1 q2 HST HST2 d0
          go_wp2_with fail
          refine (HEN.out _ m1 (HJP.out m1 HQ2.out).1 (HJP.out m1 HQ2.out).2 HQ1.out.pr).mono ?_
          rintro e w3 hq
          have HE := Lib.hid (HF.out _ _ _ _ _ HB.out HQ1.out HQ2.out hq)
          obtain ⟨rfl, _⟩ := hq
          clear HEN HF HB HQ1 HQ2 HJP
          go_wp2_with fail
          go_ret
          exact HE.out
        · have e2 : lockR s i r = setJ { s with E := s.E ++ [((i : Int), r)] } i (s.J i) := by unfold lockR; rw [if_pos hz, if_neg hc0, hsj]
          have e4 : setJ { s with E := s.E ++ [((i : Int), r)] } i (s.J i) = { s with E := s.E ++ [((i : Int), r)] } := by
            unfold setJ
            have : (fun k => if k = (i : Int).toNat then s.J i else s.J k) = s.J := by
              funext k
              by_cases e : k = (i : Int).toNat
              · rw [if_pos e, e]; rfl
              · rw [if_neg e]
            rw [this]
          rw [hz, e2, e4]
          have hx : ((s.j i).c != 0) = true := by simpa using hc0
          have HF : Hid (∀ w1 e w', Below w.heap.size w w1 → St.StQ w1 m.sb s.n s.z m.sv m.lv (.int .i64 0) (s.E ++ [((i : Int), r)]) e w' → e = .returned (.int .i64 0) ∧ RP JJ (.int .i64 0) rb S { s with E := s.E ++ [((i : Int), r)] } w e w') := fun w1 e w' hb q => by
            obtain ⟨rfl, m1, q1, q2⟩ := Stp.stack (h.below hb) q
            refine ⟨rfl, ((Stp.refl h hb).trans q1).rp ?_ hS⟩
            show Jp m1 _
            intro k hk
            rw [q2]; exact hp k hk
          generalize m.sb = sb at *
          generalize (s.j i).c = y at *
          clear h hp hS hi ha e2 e4 HI es hc c0 c3 hpi hjp hsj hz eE eL hl hc0
          go_enter Tryz.func22, Tryz.ntmps22
          go_wp2_with fail
          refine HSEC.out.mono ?_
          rintro e w1 ⟨rfl, hb⟩
          have d0 := (hb.cell (lt_of_cell c0r)).trans c0r
          have HB := Lib.hid hb
          clear HSEC hb c0r
          go_wp2_with fail
          refine (HSH.out _).mono ?_
          rintro e w2 ⟨rfl, rfl⟩
          go_wp2_with fail
          refine (HST.out _ HB.out).mono ?_
          intro e w2 hq
          obtain ⟨rfl, q1⟩ := HF.out _ _ _ HB.out hq
          have HE := Lib.hid q1
          clear hq q1 HST HF d0 HB
          go_wp2_with fail
          go_ret
          exact HE.out
      · have eE : St.Sk.lockL s.n (s.us i r) s.E i r = s.E := by unfold St.Sk.lockL; rw [if_neg (by rw [← eL]; exact hz)]
        have e2 : lockR s i r = s := by unfold lockR; rw [if_neg hz]
        rw [e2]
        rw [eE] at HST
        have hx : (lockRE s i r != 0) = true := by simpa using hz
        have HF : Hid (∀ w1 e w', Below w.heap.size w w1 → St.StQ w1 m.sb s.n s.z m.sv m.lv (.int .i64 (lockRE s i r)) s.E e w' → e = .returned (.int .i64 (lockRE s i r)) ∧ RP JJ (.int .i64 (lockRE s i r)) rb S s w e w') := fun w1 e w' hb q => by
          obtain ⟨rfl, m1, q1, q2⟩ := Stp.stack (h.below hb) q
          refine ⟨rfl, ((Stp.refl h hb).trans q1).rp ?_ hS⟩
          show Jp m1 _
          intro k hk
          rw [q2]; exact hp k hk
        generalize m.sb = sb at *
        generalize lockRE s i r = x at *
        generalize (s.j i).c = y at *
        clear h hp hS hi ha e2 HI es hc c0 c3 hpi hjp hsj hz eE eL hl
        go_enter Tryz.func22, Tryz.ntmps22
        go_wp2_with fail
        refine HSEC.out.mono ?_
        rintro e w1 ⟨rfl, hb⟩
        have d0 := (hb.cell (lt_of_cell c0r)).trans c0r
        have HB := Lib.hid hb
        clear HSEC hb c0r
        go_wp2_with fail
        refine (HSH.out _).mono ?_
        rintro e w2 ⟨rfl, rfl⟩
        go_wp2_with fail
        refine (HST.out _ HB.out).mono ?_
        intro e w2 hq
        obtain ⟨rfl, q1⟩ := HF.out _ _ _ HB.out hq
        have HE := Lib.hid q1
        clear hq q1 HST HF d0 HB
        go_wp2_with fail
        go_ret
        exact HE.out
set_option maxHeartbeats 2000000 in
theorem unl_any {S : Nat → Prop} (h : PRM m w rb s) (hp : Jp m s) (hS : ∀ k, S k ↔ m.lab k ≠ 0) (hi : Rinv s) (t : Int) : Calls Tryz.prog 23 #[.pointer (some ⟨rb, 0, none⟩), .int .i64 t] w (RP JJ (.int .i64 (unlRE s t)) rb S (unlRm s t) w) := by
  have HJ := Lib.hid (lj_any h hp t)
  by_cases ha : asked s t ≠ 0
  · have e1 : unlRE s t = asked s t := by unfold unlRE; rw [if_pos ha]
    have e2 : unlRm s t = s := by unfold unlRm; rw [if_neg (by rw [e1]; exact ha)]
    rw [e1, e2]
    have hx : (asked s t != 0) = true := by simpa using ha
    have HF : Hid (∀ w', Below w.heap.size w w' → RP JJ (.int .i64 (asked s t)) rb S s w (.returned (.int .i64 (asked s t))) w') := fun w' q => (Stp.refl h q).rp hp hS
    generalize asked s t = x at *
    clear h hp hS hi ha e1 e2
    go_enter Tryz.func23, Tryz.ntmps23
    go_wp2_with fail
    refine HJ.out.mono ?_
    rintro e w1 ⟨rfl, rfl⟩
    have HE := Lib.hid (HF.out _ (Below.refl _ _))
    clear HF HJ
    go_wp2_with fail
    go_ret
    exact HE.out
  · have ha : asked s t = 0 := Decidable.not_not.1 ha
    rw [ha] at HJ
    have HI := jinv h hi ha
    have hl : s.E.length ≤ 900 := by have := hi.ok.len; omega
    have eU : unlRE s t = St.Sk.unlE s.n s.E t := by unfold unlRE; rw [if_neg (by rw [ha]; decide)]
    obtain ⟨a1, a2, a3⟩ := asked_in ha
    obtain ⟨i, rfl, hin, hpi, hjp, hsj⟩ := asked_p hp ha
    obtain ⟨c0r, _, _, _, _⟩ := h.cells
    have eN : St.unlN s.n s.E i = St.Sk.unlL s.E i := by unfold St.unlN; rw [if_pos ⟨a1, a2⟩]
    obtain ⟨res, hV⟩ : ∃ res, St.unlV s.n s.E i = .tuple #[.int .i64 res, .int .i64 (unlRE s i)] := ⟨_, by rw [eU]; rfl⟩
    have HST : Hid (Calls Tryz.prog 84 #[.pointer (some ⟨m.sb, 0, none⟩), .int .i64 i] w (St.StQ w m.sb s.n s.z m.sv m.lv (.tuple #[.int .i64 res, .int .i64 (unlRE s i)]) (St.Sk.unlL s.E i))) := by
      have := St.unl_any h.so hl i
      rw [hV, eN] at this
      exact this
    by_cases hz : unlRE s i = 0
    · have hRi : Rinv { s with E := St.Sk.unlL s.E i } := hi.subE (unlL_sub s.E i)
      have hv : heldV { s with E := St.Sk.unlL s.E i } i = St.Sk.held (St.Sk.unlL s.E i) i := by unfold heldV; rw [if_pos (show asked { s with E := St.Sk.unlL s.E i } i = 0 from ha)]
      rw [hz] at HST
      have HHD : Hid (∀ w1 m1, m1.p = m.p → PRM m1 w1 rb { s with E := St.Sk.unlL s.E i } → Calls Tryz.prog 18 #[.pointer (some ⟨rb, 0, none⟩), .int .i64 i] w1 (NumP w1 (St.Sk.held (St.Sk.unlL s.E i) i))) := fun w1 m1 q h1 => by
        have := held_any h1 (show Jp m1 _ from fun k hk => by rw [q]; exact hp k hk) hRi i
        rw [hv] at this
        exact this
      have HST2 : Hid (∀ e w2, St.StQ w m.sb s.n s.z m.sv m.lv (.tuple #[.int .i64 res, .int .i64 0]) (St.Sk.unlL s.E i) e w2 → e = .returned (.tuple #[.int .i64 res, .int .i64 0]) ∧ ∃ m', Stp m w rb m' w2 { s with E := St.Sk.unlL s.E i } ∧ m'.p = m.p) := fun e w2 q => Stp.stack h q
      by_cases hh : St.Sk.held (St.Sk.unlL s.E i) i = []
      · have e2 : unlRm s i = setJ { s with E := St.Sk.unlL s.E i } i (leaJ (s.J i)) := by unfold unlRm; rw [if_pos hz, if_pos hh, hsj]
        have hc1 : (s.J i).c = 1 := by
          have hsome : ∃ k, St.Sk.unl s.E i s.E.length = some k := by
            rw [eU] at hz
            unfold St.Sk.unlE at hz
            rw [if_pos ⟨a1, a2⟩] at hz
            cases hu : St.Sk.unl s.E i s.E.length with
            | some k => exact ⟨k, rfl⟩
            | none => rw [hu] at hz; cases hz
          obtain ⟨k, hk⟩ := hsome
          obtain ⟨k1, k2, _⟩ := St.Sk.unl_some hk
          rw [← hsj]
          exact hi.c1 ⟨s.E.getD k St.Sk.e0, by rw [List.getD_eq_getElem?_getD, List.getElem?_eq_getElem k1]; exact List.getElem_mem _, k2⟩
        have e3 : leaE (s.J i) = 0 := by unfold leaE; rw [if_neg (by omega)]
        rw [hz, e2]
        rw [hh] at HHD
        have HLE : Hid (∀ w1 m1, m1.p = m.p → PRM m1 w1 rb { s with E := St.Sk.unlL s.E i } → Calls Tryz.prog 85 #[.pointer (some ⟨rb, 0, none⟩), .int .i64 i] w1 (JQ m1 i 0 (leaJ (s.J i)) w1)) := fun w1 m1 q h1 => by
          have := lea_any h1 (show Jp m1 _ from fun k hk => by rw [q]; exact hp k hk) hin (by rw [q]; exact hpi) ha
          rw [show ({ s with E := St.Sk.unlL s.E i } : Rm).J i = s.J i from rfl, e3] at this
          exact this
        have HF : Hid (∀ w1 w2 m1 e w', Stp m w rb m1 w1 { s with E := St.Sk.unlL s.E i } → m1.p = m.p → Below w1.heap.size w1 w2 → JQ m1 i 0 (leaJ (s.J i)) w2 e w' → RP JJ (.int .i64 0) rb S (setJ { s with E := St.Sk.unlL s.E i } i (leaJ (s.J i))) w e w') := fun w1 w2 m1 e w' q1 q2 hb q3 => by
          obtain ⟨rfl, q4, q5⟩ := q3
          refine ((q1.below hb).trans (Stp.job (q1.pr.below hb) hin (by rw [q2]; exact hpi) q4 q5)).rp ?_ hS
          show Jp m1 _
          intro k hk
          rw [q2]; exact hp k hk
        generalize m.sb = sb at *
        clear h hp hS hi ha e2 e3 HI hpi hjp hsj hz eU eN hl hRi hv hh hc1 hV a1 a2 a3
        go_enter Tryz.func23, Tryz.ntmps23
        go_wp2_with fail
        refine HJ.out.mono ?_
        rintro e w1 ⟨rfl, rfl⟩
        go_wp2_with fail
        refine HST.out.mono ?_
        intro e w2 hq
        obtain ⟨rfl, m1, q1, q2⟩ := HST2.out _ _ hq
        have HQ1 := Lib.hid q1
        have HQ2 := Lib.hid q2
        clear hq q1 q2 HST HST2 c0r
        go_wp2_with fail
        refine (HHD.out _ m1 HQ2.out HQ1.out.pr).mono ?_
        rintro e w3 ⟨x, rfl, hnr, hb⟩
        obtain ⟨xa, xc, rfl⟩ := hnr.is_form
        have HB := Lib.hid hb
        have HP3 := Lib.hid (HQ1.out.pr.below hb)
        clear hnr hb HHD
        go_wp2_with fail
        refine (HLE.out _ m1 HQ2.out HP3.out).mono ?_
        rintro e w4 hq
        have HE := Lib.hid (HF.out _ _ _ _ _ HQ1.out HQ2.out HB.out hq)
        obtain ⟨rfl, _⟩ := hq
        clear HLE HF HB HQ1 HQ2 HP3
        go_wp2_with fail
        go_ret
        exact HE.out
      · have e2 : unlRm s i = setJ { s with E := St.Sk.unlL s.E i } i (s.J i) := by unfold unlRm; rw [if_pos hz, if_neg hh, hsj]
        have e4 : setJ { s with E := St.Sk.unlL s.E i } i (s.J i) = { s with E := St.Sk.unlL s.E i } := by
          unfold setJ
          have : (fun k => if k = (i : Int).toNat then s.J i else s.J k) = s.J := by
            funext k
            by_cases e : k = (i : Int).toNat
            · rw [if_pos e, e]; rfl
            · rw [if_neg e]
          rw [this]
        rw [hz, e2, e4]
        have HF : Hid (∀ w1 w2 m1, Stp m w rb m1 w1 { s with E := St.Sk.unlL s.E i } → m1.p = m.p → Below w1.heap.size w1 w2 → RP JJ (.int .i64 0) rb S { s with E := St.Sk.unlL s.E i } w (.returned (.int .i64 0)) w2) := fun w1 w2 m1 q1 q2 hb => by
          refine (q1.below hb).rp ?_ hS
          show Jp m1 _
          intro k hk
          rw [q2]; exact hp k hk
        obtain ⟨y, ys, hys⟩ : ∃ y ys, St.Sk.held (St.Sk.unlL s.E i) i = y :: ys := List.exists_cons_of_ne_nil hh
        rw [hys] at HHD
        generalize m.sb = sb at *
        clear h hp hS hi ha e2 e4 HI hpi hjp hsj hz eU eN hl hRi hv hh hV a1 a2 a3 hys
        obtain ⟨k, hk⟩ : ∃ k, k = (y :: ys).length := ⟨_, rfl⟩
        have HK := Lib.hid hk
        have hk0 : 0 < k := by rw [hk]; exact Nat.succ_pos _
        have hd : decide ((0 : Int) < (k : Int)) = true := by simpa using hk0
        have hd2 : decide (0 < k) = true := by simpa using hk0
        clear hk
        go_enter Tryz.func23, Tryz.ntmps23
        go_wp2_with fail
        refine HJ.out.mono ?_
        rintro e w1 ⟨rfl, rfl⟩
        go_wp2_with fail
        refine HST.out.mono ?_
        intro e w2 hq
        obtain ⟨rfl, m1, q1, q2⟩ := HST2.out _ _ hq
        have HQ1 := Lib.hid q1
        have HQ2 := Lib.hid q2
        clear hq q1 q2 HST HST2 c0r
        go_wp2_with fail
        refine (HHD.out _ m1 HQ2.out HQ1.out.pr).mono ?_
        rintro e w3 ⟨x, rfl, hnr, hb⟩
        obtain ⟨xa, xc, rfl⟩ := hnr.is_form
        rw [← HK.out]
        have HE := Lib.hid (HF.out _ _ _ HQ1.out HQ2.out hb)
        clear hnr hb HHD HF HQ1 HQ2
        go_wp2_with fail
        go_ret
        exact HE.out
    · have e2 : unlRm s i = s := by unfold unlRm; rw [if_neg hz]
      have eL : St.Sk.unlL s.E i = s.E := by
        rw [eU] at hz
        unfold St.Sk.unlE at hz
        rw [if_pos ⟨a1, a2⟩] at hz
        unfold St.Sk.unlL
        cases hu : St.Sk.unl s.E i s.E.length with
        | some k => rw [hu] at hz; exact absurd rfl hz
        | none => rfl
      rw [e2]
      rw [eL] at HST
      have hx : (unlRE s i != 0) = true := by simpa using hz
      have HF : Hid (∀ e w', St.StQ w m.sb s.n s.z m.sv m.lv (.tuple #[.int .i64 res, .int .i64 (unlRE s i)]) s.E e w' → e = .returned (.tuple #[.int .i64 res, .int .i64 (unlRE s i)]) ∧ RP JJ (.int .i64 (unlRE s i)) rb S s w (.returned (.int .i64 (unlRE s i))) w') := fun e w' q => by
        obtain ⟨rfl, m1, q1, q2⟩ := Stp.stack h q
        refine ⟨rfl, q1.rp ?_ hS⟩
        show Jp m1 _
        intro k hk
        rw [q2]; exact hp k hk
      generalize m.sb = sb at *
      generalize unlRE s i = x at *
      clear h hp hS hi ha e2 HI hpi hjp hsj hz eU eN hl hV a1 a2 a3 eL
      go_enter Tryz.func23, Tryz.ntmps23
      go_wp2_with fail
      refine HJ.out.mono ?_
      rintro e w1 ⟨rfl, rfl⟩
      go_wp2_with fail
      refine HST.out.mono ?_
      intro e w2 hq
      obtain ⟨rfl, q1⟩ := HF.out _ _ hq
      have HE := Lib.hid q1
      clear hq q1 HST HF c0r
      go_wp2_with fail
      go_ret
      exact HE.out
set_option maxHeartbeats 2000000 in
theorem fin_any {S : Nat → Prop} (h : PRM m w rb s) (hp : Jp m s) (hS : ∀ k, S k ↔ m.lab k ≠ 0) (hi : Rinv s) (t : Int) : Calls Tryz.prog 27 #[.pointer (some ⟨rb, 0, none⟩), .int .i64 t] w (RP JJ (.bool (endB s t)) rb S (endR s t) w) := by
  have HJ := Lib.hid (lj_any h hp t)
  by_cases ha : asked s t ≠ 0
  · have e1 : endB s t = false := by unfold endB; simpa using ha
    have e2 : endR s t = s := by unfold endR; rw [if_neg ha]
    rw [e1, e2]
    have hx : (asked s t != 0) = true := by simpa using ha
    have HF : Hid (RP JJ (.bool false) rb S s w (.returned (.bool false)) w) := (Stp.refl h (Below.refl _ _)).rp hp hS
    generalize asked s t = x at *
    clear h hp hS hi ha e1 e2
    go_enter Tryz.func27, Tryz.ntmps27
    go_wp2_with fail
    refine HJ.out.mono ?_
    rintro e w1 ⟨rfl, rfl⟩
    go_wp2_with fail
    go_ret
    exact HF.out
  · have ha : asked s t = 0 := Decidable.not_not.1 ha
    have e1 : endB s t = true := by unfold endB; simpa using ha
    have e2 : endR s t = { s with L := Rq.Rd.rmL s.L t, E := St.Sk.drp s.E t } := by unfold endR; rw [if_pos ha]
    rw [ha] at HJ
    rw [e1, e2]
    obtain ⟨a1, a2, a3⟩ := asked_in ha
    obtain ⟨i, rfl, hin, hpi, hjp, hsj⟩ := asked_p hp ha
    have HST := Lib.hid (St.drop_any h.so hi.ok i)
    have HST2 : Hid (∀ e w2, St.DrpP w m.sb s.n s.z m.sv m.lv (St.Sk.held s.E i).reverse (St.Sk.drp s.E i) e w2 → (∃ r, e = .returned r) ∧ ∃ m', Stp m w rb m' w2 { s with E := St.Sk.drp s.E i } ∧ m'.p = m.p) := fun e w2 q => by
      obtain ⟨r, rfl, _, lv', q1, q2, q3⟩ := q
      obtain ⟨⟨m', h1, h2, _, _, _, h3⟩, h4⟩ := h.stack q1 q2 q3
      exact ⟨⟨r, rfl⟩, m', ⟨h1, h3, h4⟩, h2⟩
    have HQU : Hid (∀ w1 m1, PRM m1 w1 rb { s with E := St.Sk.drp s.E i } → Calls Tryz.prog 87 #[.pointer (some ⟨m1.qb, 0, none⟩), .int .i64 i] w1 (fun e w2 => e = .returned (.bool true) ∧ ∃ m', Stp m1 w1 rb m' w2 { s with L := Rq.Rd.rmL s.L i, E := St.Sk.drp s.E i } ∧ m'.p = m1.p)) := fun w1 m1 h1 => by
      refine (Rq.qrem_any h1.qs i).mono ?_
      rintro e w2 ⟨rfl, ⟨g', q1, q2⟩, q3⟩
      obtain ⟨⟨m', h2, h3, h4⟩, h5⟩ := h1.queue q1 q2 q3
      exact ⟨by rw [show decide (0 ≤ Rq.Rd.dl s.L (i : Int)) = true from decide_eq_true a3], m', ⟨h2, h4, h5⟩, h3⟩
    have HF : Hid (∀ w1 w2 m1 m2, Stp m w rb m1 w1 { s with E := St.Sk.drp s.E i } → m1.p = m.p → Stp m1 w1 rb m2 w2 { s with L := Rq.Rd.rmL s.L i, E := St.Sk.drp s.E i } → m2.p = m1.p → RP JJ (.bool true) rb S { s with L := Rq.Rd.rmL s.L i, E := St.Sk.drp s.E i } w (.returned (.bool true)) (w2.setCell ⟨m2.jv, i, none⟩ (.pointer none))) := fun w1 w2 m1 m2 q1 q2 q3 q4 => by
      obtain ⟨⟨m3, d1, d2, d3⟩, d4⟩ := q3.pr.drop (t := i) hin
      refine ((q1.trans q3).trans ⟨d1, fun k hk => Or.inl (by rw [d3] at hk; exact hk), d4⟩).rp ?_ hS
      intro k hk
      show m3.p k = decide (0 ≤ Rq.Rd.dl (Rq.Rd.rmL s.L i) (k : Int))
      rw [d2, q4, q2]
      show (if k = i then false else m.p k) = _
      by_cases e : k = i
      · subst e
        have : Rq.Rd.dl (Rq.Rd.rmL s.L (k : Int)) (k : Int) = -1 := by
          unfold Rq.Rd.rmL
          rw [if_pos (show 0 ≤ Rq.Rd.dl s.L (k : Int) from a3), Rq.Rd.dl_set a1 (by rw [hi.len]; exact a2), if_pos rfl]
        rw [this]
        simp
      · rw [if_neg e, rm_other (show (k : Int) ≠ (i : Int) by omega)]
        exact hp k hk
    have HCE : Hid (∀ w2 m2, PRM m2 w2 rb { s with L := Rq.Rd.rmL s.L i, E := St.Sk.drp s.E i } → w2.cell? ⟨rb, 0 + 4, none⟩ = some (.slice (some ⟨m2.jv, 0, none⟩) s.n s.n) ∧ (∃ v, w2.cell? ⟨m2.jv, i, none⟩ = some v) ∧ w2.frozen? ⟨m2.jv, i, none⟩ = false) := fun w2 m2 h2 =>
      ⟨h2.cells.2.2.2.2, ⟨_, h2.jcell hin⟩, frozen_of_row _ _ i _ _ h2.jo⟩
    obtain ⟨c0r, _, _, _, _⟩ := h.cells
    generalize m.sb = sb at *
    have HC1 : Hid (∀ w1 m1, PRM m1 w1 rb { s with E := St.Sk.drp s.E i } → w1.cell? ⟨rb, 0 + 1, none⟩ = some (.pointer (some ⟨m1.qb, 0, none⟩))) := fun w1 m1 h1 => h1.cells.2.1
    clear h hp hS hi ha e1 e2 hpi hjp hsj a1 a2 a3
    go_enter Tryz.func27, Tryz.ntmps27
    go_wp2_with fail
    refine HJ.out.mono ?_
    rintro e w1 ⟨rfl, rfl⟩
    go_wp2_with fail
    refine HST.out.mono ?_
    intro e w2 hq
    obtain ⟨⟨r, rfl⟩, m1, q1, q2⟩ := HST2.out _ _ hq
    have HQ1 := Lib.hid q1
    have HQ2 := Lib.hid q2
    have c1 := HC1.out _ _ q1.pr
    clear hq q1 q2 HST HST2 c0r HC1
    go_wp2_with fail
    refine (HQU.out _ m1 HQ1.out.pr).mono ?_
    rintro e w3 ⟨rfl, m2, q3, q4⟩
    obtain ⟨d4, ⟨dv, dj⟩, fj⟩ := HCE.out _ _ q3.pr
    have HE := Lib.hid (HF.out _ _ _ _ HQ1.out HQ2.out q3 q4)
    clear q3 q4 HQU HF HQ1 HQ2 HCE c1
    generalize m2.jv = jv at *
    generalize s.n = n at d4 hin
    go_wp2_with fail
    go_ret
    exact HE.out
end
end Go.Proofs.YtkkmfpllgjoceaaGreat.Ro
