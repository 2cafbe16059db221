/- The document's room: Next, Sole; what its jobs do: Did, Run, Ask, Hold, Give. -/
import Derived.Test.YtkkmfpllgjoceaaGreatRooRa
import Derived.Deep.CutRange
namespace Go.Proofs.YtkkmfpllgjoceaaGreat.Ro.Dr
open Go.RowKit Go.Sort Ac Jo Ro
set_option linter.unusedVariables false
set_option maxRecDepth 100000

section
variable {m : Mm} {w w' : World} {rb : Nat} {s : Rm}
set_option maxHeartbeats 1000000 in
theorem next_any (h : PRM m w rb s) (hp : Jp m s) (t : Int) : Calls Tryz.prog 59 #[.pointer (some ⟨rb, 0, none⟩), .int .i64 t] w (VB (nv (nextV s t)) w) := by
  have hb0 := below_al w (.cells #[.int .i64 0, .int .i64 0, .string ⟨#[]⟩] 57)
  have h' := h.below hb0
  have HA := Lib.hid (asked_any h' hp t)
  have HV := Lib.hid (AB.new w 0 0 ⟨#[]⟩)
  have HB0 := Lib.hid hb0
  by_cases ha : asked s t ≠ 0
  · have e1 : nextV s t = [] := if_neg ha
    rw [e1]
    have hx : (asked s t != 0) = true := by simpa using ha
    generalize asked s t = x at *
    have hv := HV.out
    obtain ⟨v0, v1, v2⟩ := hv.cells
    obtain ⟨f0, f1, f2⟩ := hv.free
    clear h hp ha h' hb0 hv HV
    go_enter Tryz.func59, Tryz.ntmps59
    go_wp2_with fail
    refine HA.out.mono ?_
    rintro e w1 ⟨rfl, rfl⟩
    go_wp2_with fail
    refine bodyPost_ret (v := .tuple #[.agg #[.int .i64 0, .int .i64 0, .string ⟨#[]⟩], .bool false]) (by simp [results, Tryz.results59, go_sem, v0, v1, v2]) rfl ?_
    exact ⟨rfl, HB0.out⟩
  · have ha : asked s t = 0 := Decidable.not_not.1 ha
    rw [ha] at HA
    have e1 : nextV s t = (s.j t).l := if_pos ha
    rw [e1]
    obtain ⟨i, rfl, hin, hpi, hjp, hsj⟩ := asked_p hp ha
    rw [hsj]
    have HJ := rjnext_any (h'.jb i hin hpi)
    obtain ⟨k, n, u, b, hx⟩ : ∃ (k n : Int) (u : ByteArray) (b : Bool), nv (s.J i).l = .tuple #[.agg #[.int .i64 k, .int .i64 n, .string u], .bool b] := ⟨_, _, _, _, rfl⟩
    rw [hx] at HJ ⊢
    have HJ := Lib.hid HJ
    obtain ⟨c0, c1, c2, c3, c4⟩ := h'.cells
    obtain ⟨cj, d9, d11, d14⟩ := h'.jf hin hpi
    clear h h' hp ha e1 c0 c1 c2 c3 d9 d11 d14 hjp hsj hpi hb0 hx
    generalize s.n = nn at *
    generalize m.jv = jv at *
    generalize m.ja i = jb at *
    go_enter Tryz.func59, Tryz.ntmps59
    go_wp2_with fail
    refine HA.out.mono ?_
    rintro e w1 ⟨rfl, rfl⟩
    go_wp2_with fail
    refine HJ.out.mono ?_
    rintro e w1 ⟨rfl, hb⟩
    have hv := HV.out.below hb
    obtain ⟨v0, v1, v2⟩ := hv.cells
    obtain ⟨f0, f1, f2⟩ := hv.free
    obtain ⟨e0, e1, e2⟩ := (hv.set k n u).cells
    have HB : Hid (Below w.heap.size w (((w1.setCell ⟨w.heap.size, 0, none⟩ (.int .i64 k)).setCell ⟨w.heap.size, 1, none⟩ (.int .i64 n)).setCell ⟨w.heap.size, 2, none⟩ (.string u))) :=
      ((((below_al w _).trans (hb.mono (by simp))).setCell (p := ⟨w.heap.size, 0, none⟩) (Nat.le_refl _) _).setCell (p := ⟨w.heap.size, 1, none⟩) (Nat.le_refl _) _).setCell (p := ⟨w.heap.size, 2, none⟩) (Nat.le_refl _) _
    clear hb hv HJ HV c4 cj
    go_wp2_with fail
    refine bodyPost_ret (v := .tuple #[.agg #[.int .i64 k, .int .i64 n, .string u], .bool b]) (by simp [results, Tryz.results59, go_sem, e0, e1, e2]) rfl ?_
    exact ⟨rfl, HB.out⟩
theorem sole_up {s : Rm} {k : Nat} (h : sole s k = none) : sole s (k + 1) = if 0 ≤ s.dl k ∧ 2 ≤ (s.J k).c then some k else none := by unfold sole; rw [h]
set_option maxHeartbeats 1000000 in
theorem sole_any (h : PRM m w rb s) (hp : Jp m s) (hi : Rinv s) : Calls Tryz.prog 44 #[.pointer (some ⟨rb, 0, none⟩)] w (VB (soleV s) w) := by
  obtain ⟨c0, c1, c2, c3, c4⟩ := h.cells
  have HP := Lib.hid h
  have HJ := Lib.hid hp
  have hn4 := hi.n4
  obtain ⟨n, hn⟩ : ∃ n, n = s.n := ⟨_, rfl⟩
  have HN := Lib.hid hn
  rw [← hn] at c4 hn4
  clear h hi hp hn c0 c1 c2 c3
  go_enter Tryz.func44, Tryz.ntmps44
  go_wp2_with fail
  go_loopw [5] (fun i wr => ∃ k : Nat, k ≤ n ∧ i = .int .i64 k ∧ Hid (sole s k = none) ∧ wr = w) (fun i _ => n - (intOf i).toNat)
  case atStart => exact ⟨0, Nat.zero_le _, rfl, Lib.hid rfl, rfl⟩
  case round =>
    obtain ⟨k, hk, rfl, HS, rfl⟩ := hrel
    by_cases hlt : k < n
    · have hd : decide ((k : Int) < (n : Int)) = true := by simp; omega
      have hks : k < s.n := by rw [← HN.out]; exact hlt
      by_cases hdl : 0 ≤ s.dl k
      · have hpk : m.p k = true := by rw [HJ.out k hks]; exact decide_eq_true hdl
        obtain ⟨cj, d9, d11, d14⟩ := HP.out.jf hks hpk
        by_cases hc : 2 ≤ (s.J k).c
        · have hd2 : decide ((2 : Int) ≤ (s.J k).c) = true := decide_eq_true hc
          have HE : Hid (soleV s = .tuple #[.int .i64 k, .int .i64 (s.J k).c, .bool true]) := Lib.hid (by
            unfold soleV
            rw [sole_at (k := k + 1) (i := k) (by rw [sole_up HS.out, if_pos ⟨hdl, hc⟩]) (n := s.n) (by omega)])
          have hi1 : (0 : Int) ≤ (k : Int) := by omega
          have hi2 : ((k : Int) < (n : Int)) := by omega
          clear hdl hc hpk d9 d14 hks
          generalize (s.J k).c = x at *
          generalize m.ja k = jb at *
          generalize m.jv = jv at *
          go_wp2_with fail
          go_quiet (fail)
          go_wp2_with fail
          go_returns
          exact ⟨by rw [HE.out]; rfl, below_drewN (Below.refl _ _) _⟩
        · have hd2 : decide ((2 : Int) ≤ (s.J k).c) = false := decide_eq_false hc
          have HS2 : Hid (sole s (k + 1) = none) := Lib.hid (by rw [sole_up HS.out, if_neg (fun y => hc y.2)])
          clear hdl hc hpk d9 d14 hks
          generalize (s.J k).c = x at *
          generalize m.ja k = jb at *
          generalize m.jv = jv at *
          go_wp2_with fail
          go_roundw
          case rel => exact ⟨k + 1, by omega, by go_num, HS2.out, trivial⟩
          case measure => simp [intOf]; omega
      · have cj := HP.out.jcell hks
        have hpk : m.p k = false := by rw [HJ.out k hks]; exact decide_eq_false hdl
        rw [show m.jp k = .pointer none by unfold Mm.jp; rw [if_neg (by rw [hpk]; decide)]] at cj
        have HS2 : Hid (sole s (k + 1) = none) := Lib.hid (by rw [sole_up HS.out, if_neg (fun y => hdl y.1)])
        clear hdl hpk hks
        generalize m.jv = jv at *
        go_wp2_with fail
        go_roundw
        case rel => exact ⟨k + 1, by omega, by go_num, HS2.out, trivial⟩
        case measure => simp [intOf]; omega
    · obtain rfl : k = n := by omega
      have hd : decide ((k : Int) < (k : Int)) = false := by simp
      have HE : Hid (soleV s = .tuple #[.int .i64 0, .int .i64 0, .bool false]) := Lib.hid (by unfold soleV; rw [← HN.out, HS.out])
      go_wp2_with fail
      go_returns
      exact ⟨by rw [HE.out]; rfl, Below.refl _ _⟩
end
/-- a step of the room in memory -/
structure Stp (m : Mm) (w : World) (rb : Nat) (m' : Mm) (w' : World) (s' : Rm) : Prop where
  pr : PRM m' w' rb s'
  lb : Lb m m' w
  on : Only (fun k => m.lab k ≠ 0) w w'
theorem setJ_same (s : Rm) (i : Nat) : setJ s i (s.J i) = s := by
  unfold setJ
  have : (fun k => if k = (i : Int).toNat then s.J i else s.J k) = s.J := by
    funext k
    split
    · rename_i e; rw [e]; rfl
    · rfl
  rw [this]
section
variable {m m' m1 m2 : Mm} {w w' w1 w2 : World} {rb : Nat} {s s' s1 s2 : Rm}
theorem Stp.refl (h : PRM m w rb s) (b : Below w.heap.size w w') : Stp m w rb m w' s := ⟨h.below b, fun k hk => Or.inl hk, Only.of_below b⟩
theorem Stp.trans (a : Stp m w rb m1 w1 s1) (b : Stp m1 w1 rb m2 w2 s2) : Stp m w rb m2 w2 s2 := by
  have hs := a.on.size
  refine ⟨b.pr, fun k hk => ?_, only_old ((only_mono a.on (fun k hk => Or.inl hk)).trans (only_mono b.on (fun k hk => a.lb k hk)))⟩
  rcases b.lb k hk with y | y
  · exact a.lb k y
  · exact Or.inr (by omega)
theorem Stp.below (a : Stp m w rb m1 w1 s1) (b : Below w1.heap.size w1 w2) : Stp m w rb m1 w2 s1 := a.trans (Stp.refl a.pr b)
theorem Stp.rp {S : Nat → Prop} {v : Value} (a : Stp m w rb m' w' s') (hp : Jp m' s') (hS : ∀ k, S k ↔ m.lab k ≠ 0) : RP JJ v rb S s' w (.returned v) w' := RP.of hS a.pr hp a.lb a.on
theorem Stp.job (h : PRM m w rb s) {i : Nat} (hi : i < s.n) (hp : m.p i = true) {j : Jb} (pj : DJ w' (m.ja i) (m.jr i) (m.jg i) j) (o : Only (Tri (m.ja i) (m.jr i) (m.jg i)) w w') : Stp m w rb m w' (setJ s i j) := by
  obtain ⟨h1, h2⟩ := h.job hi hp pj o
  exact ⟨h1, fun k hk => Or.inl hk, h2⟩
/-- an answer of a job, of i -/
def JQ (m : Mm) (i : Nat) (x : Int) (j : Jb) (w : World) (e : Ending) (w' : World) : Prop := e = .returned (.int .i64 x) ∧ DJ w' (m.ja i) (m.jr i) (m.jg i) j ∧ Only (Tri (m.ja i) (m.jr i) (m.jg i)) w w'
theorem jq_rp {S : Nat → Prop} (h : PRM m w rb s) (hp : Jp m s) (hS : ∀ k, S k ↔ m.lab k ≠ 0) {i : Nat} (hi : i < s.n) (hpi : m.p i = true) {x : Int} {j : Jb} {e : Ending} (q : JQ m i x j w e w') : RP JJ (.int .i64 x) rb S (setJ s i j) w e w' := by
  obtain ⟨rfl, q1, q2⟩ := q
  exact (Stp.job h hi hpi q1 q2).rp hp hS
theorem jinv (h : PRM m w rb s) (hi : Rinv s) {t : Int} (ha : asked s t = 0) : Jo.Inv (s.j t) := by
  have h1 := asked_in ha
  exact (hi.jt t.toNat (by omega) (by rw [show ((t.toNat : Nat) : Int) = t by omega]; exact h1.2.2)).2.2
set_option maxHeartbeats 1000000 in
theorem did_any {S : Nat → Prop} (h : PRM m w rb s) (hp : Jp m s) (hS : ∀ k, S k ↔ m.lab k ≠ 0) (hi : Rinv s) (t : Int) : Calls Tryz.prog 50 #[.pointer (some ⟨rb, 0, none⟩), .int .i64 t] w (RP JJ (.int .i64 (didRE s t)) rb S (didR s t) w) := by
  have HA := Lib.hid (asked_any h hp t)
  by_cases ha : asked s t ≠ 0
  · have e1 : didRE s t = asked s t := by unfold didRE; rw [if_neg ha]
    have e2 : didR s t = s := by unfold didR; rw [if_neg ha]
    rw [e1, e2]
    have hx : (asked s t != 0) = true := by simpa using ha
    have HF : Hid (∀ w', Below w.heap.size w w' → RP JJ (.int .i64 (asked s t)) rb S s w (.returned (.int .i64 (asked s t))) w') := fun w' q => (Stp.refl h q).rp hp hS
    generalize asked s t = x at *
    clear h hp hS hi ha e1 e2
    go_enter Tryz.func50, Tryz.ntmps50
    go_wp2_with fail
    refine HA.out.mono ?_
    rintro e w1 ⟨rfl, rfl⟩
    have HE := Lib.hid (HF.out _ (Below.refl _ _))
    clear HF HA
    go_wp2_with fail
    go_ret
    exact HE.out
  · have ha : asked s t = 0 := Decidable.not_not.1 ha
    rw [ha] at HA
    have HI := jinv h hi ha
    have e1 : didRE s t = didE (s.j t).l := if_pos ha
    have e2 : didR s t = setJ s t (didJ (s.j t)) := if_pos ha
    rw [e1, e2]
    obtain ⟨i, rfl, hin, hpi, hjp, hsj⟩ := asked_p hp ha
    rw [hsj] at HI ⊢
    obtain ⟨c0, c1, c2, c3, c4⟩ := h.cells
    obtain ⟨cj, d9, d11, d14⟩ := h.jf hin hpi
    have HD := Lib.hid (rjdid_any (h.jb i hin hpi) HI)
    have HF := Lib.hid (fun e w' (q : DP (.int .i64 (didE (s.J i).l)) (m.ja i) (m.jr i) (m.jg i) (didJ (s.J i)) w e w') => jq_rp (w' := w') (e := e) (x := didE (s.J i).l) (j := didJ (s.J i)) h hp hS hin hpi q)
    clear h hp hS hi ha e1 e2 c0 c1 c2 c3 d9 d11 d14 hjp hsj HI hpi
    generalize s.n = n at *
    generalize m.jv = jv at *
    generalize m.ja i = jb at *
    generalize didE (s.J i).l = x at *
    go_enter Tryz.func50, Tryz.ntmps50
    go_wp2_with fail
    refine HA.out.mono ?_
    rintro e w1 ⟨rfl, rfl⟩
    go_wp2_with fail
    refine HD.out.mono ?_
    rintro e w2 hq
    have HE := Lib.hid (HF.out _ _ hq)
    obtain ⟨rfl, _⟩ := hq
    clear HD HF
    go_wp2_with fail
    go_ret
    exact HE.out
set_option maxHeartbeats 1000000 in
theorem run_any {S : Nat → Prop} (h : PRM m w rb s) (hp : Jp m s) (hS : ∀ k, S k ↔ m.lab k ≠ 0) (hi : Rinv s) (t : Int) : Calls Tryz.prog 51 #[.pointer (some ⟨rb, 0, none⟩), .int .i64 t] w (RP JJ (.int .i64 (runRE s t)) rb S (runR s t) w) := by
  have HA := Lib.hid (asked_any h hp t)
  by_cases ha : asked s t ≠ 0
  · have e1 : runRE s t = asked s t := by unfold runRE; rw [if_neg ha]
    have e2 : runR s t = s := by unfold runR; rw [if_neg ha]
    rw [e1, e2]
    have hx : (asked s t != 0) = true := by simpa using ha
    have HF : Hid (∀ w', Below w.heap.size w w' → RP JJ (.int .i64 (asked s t)) rb S s w (.returned (.int .i64 (asked s t))) w') := fun w' q => (Stp.refl h q).rp hp hS
    generalize asked s t = x at *
    clear h hp hS hi ha e1 e2
    go_enter Tryz.func51, Tryz.ntmps51
    go_wp2_with fail
    refine HA.out.mono ?_
    rintro e w1 ⟨rfl, rfl⟩
    have HE := Lib.hid (HF.out _ (Below.refl _ _))
    clear HF HA
    go_wp2_with fail
    go_ret
    exact HE.out
  · have ha : asked s t = 0 := Decidable.not_not.1 ha
    rw [ha] at HA
    have HI := jinv h hi ha
    have e1 : runRE s t = runE (s.j t) := if_pos ha
    have e2 : runR s t = setJ s t (runJ (s.j t)) := if_pos ha
    rw [e1, e2]
    obtain ⟨i, rfl, hin, hpi, hjp, hsj⟩ := asked_p hp ha
    rw [hsj] at HI ⊢
    obtain ⟨c0, c1, c2, c3, c4⟩ := h.cells
    obtain ⟨cj, d9, d11, d14⟩ := h.jf hin hpi
    have HD := Lib.hid (rjrun_any (h.jb i hin hpi) HI)
    have HF := Lib.hid (fun e w' (q : DP (.int .i64 (runE (s.J i))) (m.ja i) (m.jr i) (m.jg i) (runJ (s.J i)) w e w') => jq_rp (w' := w') (e := e) (x := runE (s.J i)) (j := runJ (s.J i)) h hp hS hin hpi q)
    clear h hp hS hi ha e1 e2 c0 c1 c2 c3 d9 d11 d14 hjp hsj HI hpi
    generalize s.n = n at *
    generalize m.jv = jv at *
    generalize m.ja i = jb at *
    generalize runE (s.J i) = x at *
    go_enter Tryz.func51, Tryz.ntmps51
    go_wp2_with fail
    refine HA.out.mono ?_
    rintro e w1 ⟨rfl, rfl⟩
    go_wp2_with fail
    refine HD.out.mono ?_
    rintro e w2 hq
    have HE := Lib.hid (HF.out _ _ hq)
    obtain ⟨rfl, _⟩ := hq
    clear HD HF
    go_wp2_with fail
    go_ret
    exact HE.out
set_option maxHeartbeats 1000000 in
theorem hold_any {S : Nat → Prop} (h : PRM m w rb s) (hp : Jp m s) (hS : ∀ k, S k ↔ m.lab k ≠ 0) (hi : Rinv s) (t : Int) : Calls Tryz.prog 55 #[.pointer (some ⟨rb, 0, none⟩), .int .i64 t] w (RP JJ (.int .i64 (holdRE s t)) rb S (holdR s t) w) := by
  have HA := Lib.hid (asked_any h hp t)
  by_cases ha : asked s t ≠ 0
  · have e1 : holdRE s t = asked s t := by unfold holdRE; rw [if_pos ha]
    have e2 : holdR s t = s := by unfold holdR; rw [if_neg (by rw [e1]; exact ha)]
    rw [e1, e2]
    have hx : (asked s t != 0) = true := by simpa using ha
    have HF : Hid (∀ w', Below w.heap.size w w' → RP JJ (.int .i64 (asked s t)) rb S s w (.returned (.int .i64 (asked s t))) w') := fun w' q => (Stp.refl h q).rp hp hS
    generalize asked s t = x at *
    clear h hp hS hi ha e1 e2
    go_enter Tryz.func55, Tryz.ntmps55
    go_wp2_with fail
    refine HA.out.mono ?_
    rintro e w1 ⟨rfl, rfl⟩
    have HE := Lib.hid (HF.out _ (Below.refl _ _))
    clear HF HA
    go_wp2_with fail
    go_ret
    exact HE.out
  · have ha : asked s t = 0 := Decidable.not_not.1 ha
    rw [ha] at HA
    have HI := jinv h hi ha
    obtain ⟨i, rfl, hin, hpi, hjp, hsj⟩ := asked_p hp ha
    rw [hsj] at HI
    obtain ⟨c0, c1, c2, c3, c4⟩ := h.cells
    obtain ⟨cj, d9, d11, d14⟩ := h.jf hin hpi
    by_cases hc : (s.J i).c = 3
    · have e1 : holdRE s i = 0 := by unfold holdRE; rw [if_neg (by rw [ha]; decide), hsj, if_neg (by omega)]
      have e2 : holdR s i = setJ s i (entJ (s.J i) 2) := by unfold holdR; rw [if_pos e1, hsj]
      have e3 : entE (s.J i) 2 = 0 := by unfold entE; rw [if_neg (by decide), if_pos ⟨hc, rfl⟩]
      rw [e1, e2]
      have HD := rjenter_any (h.jb i hin hpi) HI 2
      rw [e3] at HD
      have HD := Lib.hid HD
      have HF := Lib.hid (fun e w' (q : DP (.int .i64 0) (m.ja i) (m.jr i) (m.jg i) (entJ (s.J i) 2) w e w') => jq_rp (w' := w') (e := e) (x := 0) (j := entJ (s.J i) 2) h hp hS hin hpi q)
      rw [hc] at d11
      clear h hp hS hi ha e1 e2 e3 c0 c1 c2 c3 d9 d14 hjp hsj HI hpi hc
      generalize s.n = n at *
      generalize m.jv = jv at *
      generalize m.ja i = jb at *
      go_enter Tryz.func55, Tryz.ntmps55
      go_wp2_with fail
      refine HA.out.mono ?_
      rintro e w1 ⟨rfl, rfl⟩
      go_wp2_with fail
      refine HD.out.mono ?_
      rintro e w2 hq
      have HE := Lib.hid (HF.out _ _ hq)
      obtain ⟨rfl, _⟩ := hq
      clear HD HF
      go_wp2_with fail
      go_ret
      exact HE.out
    · have e1 : holdRE s i = 132 := by unfold holdRE; rw [if_neg (by rw [ha]; decide), hsj, if_pos (by omega)]
      have e2 : holdR s i = s := by unfold holdR; rw [if_neg (by rw [e1]; decide)]
      rw [e1, e2]
      have HF : Hid (∀ w', Below w.heap.size w w' → RP JJ (.int .i64 132) rb S s w (.returned (.int .i64 132)) w') := fun w' q => (Stp.refl h q).rp hp hS
      have hx : ((s.J i).c != 3) = true := by simpa using hc
      generalize (s.J i).c = y at *
      clear h hp hS hi ha e1 e2 c0 c1 c2 c3 d9 d14 hjp hsj HI hpi hc
      generalize s.n = n at *
      generalize m.jv = jv at *
      generalize m.ja i = jb at *
      go_enter Tryz.func55, Tryz.ntmps55
      go_wp2_with fail
      refine HA.out.mono ?_
      rintro e w1 ⟨rfl, rfl⟩
      have HE := Lib.hid (HF.out _ (Below.refl _ _))
      clear HA HF
      go_wp2_with fail
      go_ret
      exact HE.out
set_option maxHeartbeats 1000000 in
theorem give_any {S : Nat → Prop} (h : PRM m w rb s) (hp : Jp m s) (hS : ∀ k, S k ↔ m.lab k ≠ 0) (hi : Rinv s) (t : Int) : Calls Tryz.prog 56 #[.pointer (some ⟨rb, 0, none⟩), .int .i64 t] w (RP JJ (.int .i64 (giveRE s t)) rb S (giveR s t) w) := by
  have HA := Lib.hid (asked_any h hp t)
  by_cases ha : asked s t ≠ 0
  · have e1 : giveRE s t = asked s t := by unfold giveRE; rw [if_pos ha]
    have e2 : giveR s t = s := by unfold giveR; rw [if_neg (by rw [e1]; exact ha)]
    rw [e1, e2]
    have hx : (asked s t != 0) = true := by simpa using ha
    have HF : Hid (∀ w', Below w.heap.size w w' → RP JJ (.int .i64 (asked s t)) rb S s w (.returned (.int .i64 (asked s t))) w') := fun w' q => (Stp.refl h q).rp hp hS
    generalize asked s t = x at *
    clear h hp hS hi ha e1 e2
    go_enter Tryz.func56, Tryz.ntmps56
    go_wp2_with fail
    refine HA.out.mono ?_
    rintro e w1 ⟨rfl, rfl⟩
    have HE := Lib.hid (HF.out _ (Below.refl _ _))
    clear HF HA
    go_wp2_with fail
    go_ret
    exact HE.out
  · have ha : asked s t = 0 := Decidable.not_not.1 ha
    rw [ha] at HA
    have HI := jinv h hi ha
    obtain ⟨i, rfl, hin, hpi, hjp, hsj⟩ := asked_p hp ha
    rw [hsj] at HI
    obtain ⟨c0, c1, c2, c3, c4⟩ := h.cells
    obtain ⟨cj, d9, d11, d14⟩ := h.jf hin hpi
    by_cases hc : (s.J i).c = 2
    · have e1 : giveRE s i = 0 := by unfold giveRE; rw [if_neg (by rw [ha]; decide), hsj, if_neg (by omega)]
      have e2 : giveR s i = setJ s i (leaJ (s.J i)) := by unfold giveR; rw [if_pos e1, hsj]
      have e3 : leaE (s.J i) = 0 := by unfold leaE; rw [if_neg (by omega)]
      rw [e1, e2]
      have HD := rjleave_any (h.jb i hin hpi) HI
      rw [e3] at HD
      have HD := Lib.hid HD
      have HF := Lib.hid (fun e w' (q : DP (.int .i64 0) (m.ja i) (m.jr i) (m.jg i) (leaJ (s.J i)) w e w') => jq_rp (w' := w') (e := e) (x := 0) (j := leaJ (s.J i)) h hp hS hin hpi q)
      rw [hc] at d11
      clear h hp hS hi ha e1 e2 e3 c0 c1 c2 c3 d9 d14 hjp hsj HI hpi hc
      generalize s.n = n at *
      generalize m.jv = jv at *
      generalize m.ja i = jb at *
      go_enter Tryz.func56, Tryz.ntmps56
      go_wp2_with fail
      refine HA.out.mono ?_
      rintro e w1 ⟨rfl, rfl⟩
      go_wp2_with fail
      refine HD.out.mono ?_
      rintro e w2 hq
      have HE := Lib.hid (HF.out _ _ hq)
      obtain ⟨rfl, _⟩ := hq
      clear HD HF
      go_wp2_with fail
      go_ret
      exact HE.out
    · have e1 : giveRE s i = 132 := by unfold giveRE; rw [if_neg (by rw [ha]; decide), hsj, if_pos (by omega)]
      have e2 : giveR s i = s := by unfold giveR; rw [if_neg (by rw [e1]; decide)]
      rw [e1, e2]
      have HF : Hid (∀ w', Below w.heap.size w w' → RP JJ (.int .i64 132) rb S s w (.returned (.int .i64 132)) w') := fun w' q => (Stp.refl h q).rp hp hS
      have hx : ((s.J i).c != 2) = true := by simpa using hc
      generalize (s.J i).c = y at *
      clear h hp hS hi ha e1 e2 c0 c1 c2 c3 d9 d14 hjp hsj HI hpi hc
      generalize s.n = n at *
      generalize m.jv = jv at *
      generalize m.ja i = jb at *
      go_enter Tryz.func56, Tryz.ntmps56
      go_wp2_with fail
      refine HA.out.mono ?_
      rintro e w1 ⟨rfl, rfl⟩
      have HE := Lib.hid (HF.out _ (Below.refl _ _))
      clear HA HF
      go_wp2_with fail
      go_ret
      exact HE.out
theorem PRM.t5 (h : PRM m w rb s) {i : Nat} (hi : i < s.n) : ∃ a off cap, m.tv = .slice (some ⟨a, off, none⟩) s.n cap ∧ ∀ j, j < 8 → w.cell? ⟨a, off + i * 8 + j, none⟩ = some (.int .i64 (s.z i j)) := by
  obtain ⟨a, cap, e, h2, h3, h4, h5⟩ := h.tk
  obtain ⟨b, off, rfl, hc⟩ := h5 (by omega)
  exact ⟨b, off, cap, e, fun j hj => hc i hi j hj⟩
set_option maxHeartbeats 1000000 in
theorem ask_any {S : Nat → Prop} (h : PRM m w rb s) (hp : Jp m s) (hS : ∀ k, S k ↔ m.lab k ≠ 0) (hi : Rinv s) (t : Int) : Calls Tryz.prog 54 #[.pointer (some ⟨rb, 0, none⟩), .int .i64 t] w (RP JJ (.int .i64 (askRE s t)) rb S (askR s t) w) := by
  have HA := Lib.hid (asked_any h hp t)
  by_cases ha : asked s t ≠ 0
  · have e1 : askRE s t = asked s t := by unfold askRE; rw [if_pos ha]
    have e2 : askR s t = s := by unfold askR; rw [if_neg (by rw [e1]; exact fun y => ha y.1)]
    rw [e1, e2]
    have hx : (asked s t != 0) = true := by simpa using ha
    have HF : Hid (∀ w', Below w.heap.size w w' → RP JJ (.int .i64 (asked s t)) rb S s w (.returned (.int .i64 (asked s t))) w') := fun w' q => (Stp.refl h q).rp hp hS
    generalize asked s t = x at *
    clear h hp hS hi ha e1 e2
    go_enter Tryz.func54, Tryz.ntmps54
    go_wp2_with fail
    refine HA.out.mono ?_
    rintro e w1 ⟨rfl, rfl⟩
    have HE := Lib.hid (HF.out _ (Below.refl _ _))
    clear HF HA
    go_wp2_with fail
    go_ret
    exact HE.out
  · have ha : asked s t = 0 := Decidable.not_not.1 ha
    rw [ha] at HA
    have HI := jinv h hi ha
    obtain ⟨i, rfl, hin, hpi, hjp, hsj⟩ := asked_p hp ha
    rw [hsj] at HI
    obtain ⟨c0, c1, c2, c3, c4⟩ := h.cells
    obtain ⟨cj, d9, d11, d14⟩ := h.jf hin hpi
    obtain ⟨ta, off, tc, htv, ht⟩ := h.t5 hin
    rw [htv] at c0
    have t5 := ht 5 (by decide)
    have hst : s.t i 5 = s.z i 5 := rfl
    have HF0 : Hid (∀ x w', Below w.heap.size w w' → RP JJ (.int .i64 x) rb S s w (.returned (.int .i64 x)) w') := fun x w' q => (Stp.refl h q).rp hp hS
    by_cases hg : s.z i 5 = 0
    · have e1 : askRE s i = 133 := by unfold askRE; rw [if_neg (by rw [ha]; decide), if_pos (by rw [hst]; exact hg)]
      have e2 : askR s i = s := by unfold askR; rw [if_neg (by rw [e1]; exact fun y => by cases y.1)]
      rw [e1, e2]
      rw [hg] at t5
      have HE := Lib.hid (HF0.out 133 _ (Below.refl _ _))
      clear h hp hS hi ha e1 e2 c1 c2 c3 c4 cj d9 d11 d14 hjp hsj HI hpi ht htv hst HF0 hg
      generalize s.n = n at *
      go_enter Tryz.func54, Tryz.ntmps54
      go_wp2_with fail
      refine HA.out.mono ?_
      rintro e w1 ⟨rfl, rfl⟩
      go_wp2_with fail
      go_ret
      exact HE.out
    have hg0 : (s.z i 5 == 0) = false := by simpa using hg
    by_cases hc : (s.J i).c = 3
    · have e1 : askRE s i = 0 := by unfold askRE; rw [if_neg (by rw [ha]; decide), if_neg (by rw [hst]; exact hg), hsj, if_pos hc]
      have e2 : askR s i = s := by unfold askR; rw [if_neg (by rw [hsj]; exact fun y => y.2 hc)]
      rw [e1, e2]
      rw [hc] at d11
      have HE := Lib.hid (HF0.out 0 _ (Below.refl _ _))
      clear h hp hS hi ha e1 e2 c1 c2 c3 d9 d14 hjp hsj HI hpi ht htv hst HF0 hg hc
      generalize s.n = n at *
      generalize s.z i 5 = z5 at *
      generalize m.jv = jv at *
      generalize m.ja i = jb at *
      go_enter Tryz.func54, Tryz.ntmps54
      go_wp2_with fail
      refine HA.out.mono ?_
      rintro e w1 ⟨rfl, rfl⟩
      go_wp2_with fail
      go_ret
      exact HE.out
    · have hc3 : ((s.J i).c == 3) = false := by simpa using hc
      have e1 : askRE s i = entE (s.J i) 3 := by unfold askRE; rw [if_neg (by rw [ha]; decide), if_neg (by rw [hst]; exact hg), hsj, if_neg hc]
      have e2 : askR s i = setJ s i (entJ (s.J i) 3) := by
        unfold askR
        by_cases q : entE (s.J i) 3 = 0
        · rw [if_pos ⟨by rw [e1]; exact q, by rw [hsj]; exact hc⟩, hsj]
        · rw [if_neg (by rw [e1]; exact fun y => q y.1)]
          unfold entJ
          rw [if_neg q]
          exact (setJ_same s i).symm
      rw [e1, e2]
      have HD := Lib.hid (rjenter_any (h.jb i hin hpi) HI 3)
      have HF := Lib.hid (fun e w' (q : DP (.int .i64 (entE (s.J i) 3)) (m.ja i) (m.jr i) (m.jg i) (entJ (s.J i) 3) w e w') => jq_rp (w' := w') (e := e) (x := entE (s.J i) 3) (j := entJ (s.J i) 3) h hp hS hin hpi q)
      clear h hp hS hi ha e1 e2 c1 c2 c3 d9 d14 hjp hsj HI hpi ht htv hst HF0 hg hc
      generalize s.n = n at *
      generalize s.z i 5 = z5 at *
      generalize (s.J i).c = cc at *
      generalize entE (s.J i) 3 = x at *
      generalize m.jv = jv at *
      generalize m.ja i = jb at *
      go_enter Tryz.func54, Tryz.ntmps54
      go_wp2_with fail
      refine HA.out.mono ?_
      rintro e w1 ⟨rfl, rfl⟩
      go_wp2_with fail
      refine HD.out.mono ?_
      rintro e w2 hq
      have HE := Lib.hid (HF.out _ _ hq)
      obtain ⟨rfl, _⟩ := hq
      clear HD HF
      go_wp2_with fail
      go_ret
      exact HE.out
end
end Go.Proofs.YtkkmfpllgjoceaaGreat.Ro.Dr
