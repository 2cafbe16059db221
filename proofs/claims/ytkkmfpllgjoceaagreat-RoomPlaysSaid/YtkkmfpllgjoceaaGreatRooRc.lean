/- The document's room: who goes on. -/
import Derived.Test.YtkkmfpllgjoceaaGreatRooRb
namespace Go.Proofs.YtkkmfpllgjoceaaGreat.Ro.Dr
open Go.RowKit Go.Sort Ac Jo Ro
set_option linter.unusedVariables false
set_option maxRecDepth 100000

section
variable {m : Mm} {w w' : World} {rb : Nat} {s : Rm}
theorem hsm5 {w w1 w2 : World} {rb sb n cap jv i jb : Nat} {a : Option Addr} {b : Bool} (c0 : w.cell? ⟨rb, 0, none⟩ = some (.slice a n cap)) (c3 : w.cell? ⟨rb, 0 + 3, none⟩ = some (.pointer (some ⟨sb, 0, none⟩))) (c4 : w.cell? ⟨rb, 0 + 4, none⟩ = some (.slice (some ⟨jv, 0, none⟩) n n)) (cj : w.cell? ⟨jv, i, none⟩ = some (.pointer (some ⟨jb, 0, none⟩))) (c14 : w.cell? ⟨jb, 0 + 14, none⟩ = some (.bool b)) (h : Below w.heap.size w w1) (k : Below w1.heap.size w1 w2) :
    w2.cell? ⟨rb, 0, none⟩ = some (.slice a n cap) ∧ w2.cell? ⟨rb, 0 + 3, none⟩ = some (.pointer (some ⟨sb, 0, none⟩)) ∧ w2.cell? ⟨rb, 0 + 4, none⟩ = some (.slice (some ⟨jv, 0, none⟩) n n) ∧ w2.cell? ⟨jv, i, none⟩ = some (.pointer (some ⟨jb, 0, none⟩)) ∧ w2.cell? ⟨jb, 0 + 14, none⟩ = some (.bool b) ∧ Below w.heap.size w w2 := by
  have h2 := chn h k
  exact ⟨(h2.cell (lt_of_cell c0)).trans c0, (h2.cell (lt_of_cell c3)).trans c3, (h2.cell (lt_of_cell c4)).trans c4, (h2.cell (lt_of_cell cj)).trans cj, (h2.cell (lt_of_cell c14)).trans c14, h2⟩
theorem hsd {w w2 : World} {A B C D E : Prop} (h : A ∧ B ∧ C ∧ D ∧ E ∧ Below w.heap.size w w2) : A ∧ B ∧ C ∧ D ∧ E ∧ Below w.heap.size w w2.drew := ⟨h.1, h.2.1, h.2.2.1, h.2.2.2.1, h.2.2.2.2.1, below_drew h.2.2.2.2.2⟩
set_option maxHeartbeats 4000000 in
theorem who_any (h : PRM m w rb s) (hp : Jp m s) (hi : Rinv s) : Calls Tryz.prog 9 #[.pointer (some ⟨rb, 0, none⟩)] w (VB (whoV s) w) := by
  have HS := Lib.hid (sole_any h hp hi)
  obtain ⟨c0, c1, c2, c3, c4⟩ := h.cells
  clear c1
  cases hso : sole s s.n with
  | some i =>
    have e1 : soleV s = .tuple #[.int .i64 i, .int .i64 (s.J i).c, .bool true] := by unfold soleV; rw [hso]
    have e2 : whoV s = .tuple #[.int .i64 i, .bool true] := by unfold whoV who; rw [hso]
    rw [e1] at HS
    rw [e2]
    generalize (s.J i).c = c at *
    clear h hp hi e1 e2 hso c0 c2 c3 c4
    go_enter Tryz.func9, Tryz.ntmps9
    go_wp2_with fail
    refine HS.out.mono ?_
    rintro e w2 ⟨rfl, hb⟩
    have HB := Lib.hid hb
    clear hb HS
    go_wp2_with fail
    go_ret2
    exact ⟨rfl, HB.out⟩
  | none =>
    have e1 : soleV s = .tuple #[.int .i64 0, .int .i64 0, .bool false] := by unfold soleV; rw [hso]
    rw [e1] at HS
    have HF : Hid (∀ w1 : World, Below w.heap.size w w1 → Calls Tryz.prog 45 #[.pointer (some ⟨m.qb, 0, none⟩)] w1 (Rq.Fst (Rq.Rd.fs s.L).1 (Rq.Rd.fs s.L).2 (decide (0 < (Rq.Rd.srt s.L).length)) w1)) := fun w1 hb => Rq.rfirst_any (h.below hb).qs hi.gd
    by_cases hl : (Rq.Rd.srt s.L).length = 0
    · have e2 : whoV s = .tuple #[.int .i64 0, .bool false] := by unfold whoV who; rw [hso]; simp only; rw [if_pos hl]
      rw [show decide (0 < (Rq.Rd.srt s.L).length) = false by simp [hl], Rq.Rd.fs_none hl] at HF
      rw [e2]
      generalize m.qb = qb at *
      clear h hp hi e1 e2 hso c0 c3 c4 hl
      go_enter Tryz.func9, Tryz.ntmps9
      go_wp2_with fail
      refine HS.out.mono ?_
      rintro e w2 ⟨rfl, hb⟩
      have d2 := (hb.cell (lt_of_cell c2)).trans c2
      have HB := Lib.hid hb
      clear hb HS c2
      go_wp2_with fail
      refine (HF.out _ HB.out).mono ?_
      rintro e w3 ⟨rfl, hb⟩
      have HB3 := Lib.hid (chn HB.out hb)
      clear hb HF
      go_wp2_with fail
      go_ret2
      exact ⟨rfl, HB3.out⟩
    · obtain ⟨f1, f2, f3⟩ := fs_fst hi (by omega)
      have ha : asked s (Rq.Rd.fs s.L).1 = 0 := (asked_job hi f1.job).1
      have hlen : s.E.length ≤ 900 := by have := hi.ok.len; omega
      have hn4 := hi.n4
      have HT : Hid (∀ w1 : World, Below w.heap.size w w1 → Calls Tryz.prog 48 #[.pointer (some ⟨m.sb, 0, none⟩)] w1 (St.TopP (St.topT s.E) (St.topB s.E) w1)) := fun w1 hb => St.rtop_any (h.below hb).so.rs (by omega)
      have e3 : who s = if mayB s (Rq.Rd.fs s.L).1 = true then some (Rq.Rd.fs s.L).1 else if St.topB s.E = true then some (St.topT s.E) else none := by
        unfold who
        rw [hso]
        simp only
        rw [if_neg hl, ← top_who]
        unfold mayB
        by_cases q : (s.j (Rq.Rd.fs s.L).1).b = true ∨ cl (env s.n s.z).c s.E < (env s.n s.z).lev (Rq.Rd.fs s.L).1
        · rw [if_pos q, if_pos (by simpa using q)]
        · rw [if_neg q, if_neg (by simpa using q)]
          cases s.E.getLast? <;> rfl
      have e4 : whoV s = if mayB s (Rq.Rd.fs s.L).1 = true then .tuple #[.int .i64 (Rq.Rd.fs s.L).1, .bool true] else .tuple #[.int .i64 (St.topT s.E), .bool (St.topB s.E)] := by
        unfold whoV
        rw [e3]
        by_cases q : mayB s (Rq.Rd.fs s.L).1 = true
        · rw [if_pos q, if_pos q]
        · rw [if_neg q, if_neg q]
          cases hb : St.topB s.E with
          | true => rfl
          | false => rw [top_zero hb]; rfl
      rw [show decide (0 < (Rq.Rd.srt s.L).length) = true by simp; omega] at HF
      rw [e4]
      obtain ⟨i, hix, hin, hpi, hjp, hsj⟩ := asked_p hp ha
      obtain ⟨cj, d9, d11, d14⟩ := h.jf hin hpi
      have HL : Hid (∀ w1 : World, Below w.heap.size w w1 → Calls Tryz.prog 46 #[m.tv, .int .i64 i] w1 (St.YI ((env s.n s.z).lev i) w1)) := fun w1 hb => St.rlevel_any (h.tk.below hb) (by omega) i
      have HK : Hid (∀ w1 : World, Below w.heap.size w w1 → Calls Tryz.prog 47 #[.pointer (some ⟨m.sb, 0, none⟩)] w1 (St.YI (cl (env s.n s.z).c s.E) w1)) := fun w1 hb => by
        have e := cls_cl (env s.n s.z).c s.E s.E.length (Nat.le_refl _)
        rw [List.take_length] at e
        rw [← e]
        exact St.rcls_any (h.below hb).so.rs (by omega) (by omega)
      have hv : mayB s i = ((s.J i).b || decide (cl (env s.n s.z).c s.E < (env s.n s.z).lev i)) := by
        unfold mayB
        rw [← hix, hsj, hix]
        simp [Bool.decide_or]
      rw [hix] at HF e4 ⊢
      rw [hv]
      obtain ⟨a, cap, htv, _, _⟩ := h.tk.slice
      rw [htv] at c0 HL
      have hi1 : (0 : Int) ≤ (i : Int) := by omega
      have hi2 : ((i : Int) < (s.n : Int)) := by omega
      clear h hp hi e1 e3 e4 hso hl f1 f2 f3 ha hlen hv hjp hsj hpi d9 d11 htv hix
      generalize cl (env s.n s.z).c s.E = x at *
      generalize (env s.n s.z).lev i = y at *
      generalize (Rq.Rd.fs s.L).2 = x2 at *
      generalize St.topT s.E = tt at *
      generalize St.topB s.E = tb at *
      generalize m.qb = qb at *
      generalize m.sb = sb at *
      generalize m.jv = jv at *
      generalize m.ja i = jb at *
      generalize s.n = n at *
      cases hb : (s.J i).b with
      | true =>
        rw [hb] at d14
        rw [if_pos (by simp)]
        clear hb HT HL HK c0 c3
        go_enter Tryz.func9, Tryz.ntmps9
        go_wp2_with fail
        refine HS.out.mono ?_
        rintro e w2 ⟨rfl, hb⟩
        have d2 := (hb.cell (lt_of_cell c2)).trans c2
        have HB := Lib.hid hb
        clear hb HS c2
        go_wp2_with fail
        refine (HF.out _ HB.out).mono ?_
        rintro e w3 ⟨rfl, hb⟩
        have HB3 := Lib.hid (chn HB.out hb)
        have k4 := (HB3.out.cell (lt_of_cell c4)).trans c4
        have kj := (HB3.out.cell (lt_of_cell cj)).trans cj
        have k14 := (HB3.out.cell (lt_of_cell d14)).trans d14
        clear hb HF HB d2 c4 cj d14
        go_wp2_with fail
        go_quiet (fail)
        go_wp2_with fail
        go_ret2
        exact ⟨rfl, below_drewN HB3.out _⟩
      | false =>
        rw [hb] at d14
        clear hb
        rw [Bool.false_or]
        by_cases hxy : x < y
        · have hd : decide (x < y) = true := decide_eq_true hxy
          rw [if_pos hd]
          clear hxy HT
          go_enter Tryz.func9, Tryz.ntmps9
          go_wp2_with fail
          refine HS.out.mono ?_
          rintro e w2 ⟨rfl, hb⟩
          have d2 := (hb.cell (lt_of_cell c2)).trans c2
          have HB := Lib.hid hb
          clear hb HS c2
          go_wp2_with fail
          refine (HF.out _ HB.out).mono ?_
          rintro e w3 ⟨rfl, hb⟩
          have HB3 := Lib.hid (chn HB.out hb)
          have h3 := hsm5 c0 c3 c4 cj d14 HB.out hb
          obtain ⟨k0, k3, k4, kj, k14, _⟩ := id h3
          have HS0 := Lib.hid h3
          clear hb HF HB d2 h3
          go_wp2_with fail
          go_region_held3 (fun w' => w'.cell? ⟨rb, 0, none⟩ = some (.slice a n cap) ∧ w'.cell? ⟨rb, 0 + 3, none⟩ = some (.pointer (some ⟨sb, 0, none⟩)) ∧ w'.cell? ⟨rb, 0 + 4, none⟩ = some (.slice (some ⟨jv, 0, none⟩) n n) ∧ w'.cell? ⟨jv, i, none⟩ = some (.pointer (some ⟨jb, 0, none⟩)) ∧ w'.cell? ⟨jb, 0 + 14, none⟩ = some (.bool false) ∧ Below w.heap.size w w')
            (first | assumption | exact HS0.out | exact hsd HS0.out | go_keep)
            (first | (go_at_call 46; refine (HL.out _ (by first | exact below_drew HB3.out | exact hS5.2.2.2.2.2)).mono ?_; rintro e w4 ⟨rfl, hb4⟩; have hS4 := hsm5 c0 c3 c4 cj d14 (by first | exact below_drew HB3.out | exact hS5.2.2.2.2.2) hb4) | (go_at_call 47; refine (HK.out _ (by first | exact hS4.2.2.2.2.2 | exact below_drew HB3.out)).mono ?_; rintro e w5 ⟨rfl, hb5⟩; have hS5 := hsm5 c0 c3 c4 cj d14 (by first | exact hS4.2.2.2.2.2 | exact below_drew HB3.out) hb5))
          all_goals
            go_wp2_with fail
            go_ret2
            first | exact ⟨rfl, hS5.2.2.2.2.2⟩ | exact ⟨rfl, hS4.2.2.2.2.2⟩
        · have hd : decide (x < y) = false := decide_eq_false hxy
          rw [hd, if_neg (by decide)]
          clear hxy
          go_enter Tryz.func9, Tryz.ntmps9
          go_wp2_with fail
          refine HS.out.mono ?_
          rintro e w2 ⟨rfl, hb⟩
          have d2 := (hb.cell (lt_of_cell c2)).trans c2
          have HB := Lib.hid hb
          clear hb HS c2
          go_wp2_with fail
          refine (HF.out _ HB.out).mono ?_
          rintro e w3 ⟨rfl, hb⟩
          have HB3 := Lib.hid (chn HB.out hb)
          have h3 := hsm5 c0 c3 c4 cj d14 HB.out hb
          obtain ⟨k0, k3, k4, kj, k14, _⟩ := id h3
          have HS0 := Lib.hid h3
          clear hb HF HB d2 h3
          go_wp2_with fail
          go_region_held3 (fun w' => w'.cell? ⟨rb, 0, none⟩ = some (.slice a n cap) ∧ w'.cell? ⟨rb, 0 + 3, none⟩ = some (.pointer (some ⟨sb, 0, none⟩)) ∧ w'.cell? ⟨rb, 0 + 4, none⟩ = some (.slice (some ⟨jv, 0, none⟩) n n) ∧ w'.cell? ⟨jv, i, none⟩ = some (.pointer (some ⟨jb, 0, none⟩)) ∧ w'.cell? ⟨jb, 0 + 14, none⟩ = some (.bool false) ∧ Below w.heap.size w w')
            (first | assumption | exact HS0.out | exact hsd HS0.out | go_keep)
            (first | (go_at_call 46; refine (HL.out _ (by first | exact below_drew HB3.out | exact hS5.2.2.2.2.2)).mono ?_; rintro e w4 ⟨rfl, hb4⟩; have hS4 := hsm5 c0 c3 c4 cj d14 (by first | exact below_drew HB3.out | exact hS5.2.2.2.2.2) hb4) | (go_at_call 47; refine (HK.out _ (by first | exact hS4.2.2.2.2.2 | exact below_drew HB3.out)).mono ?_; rintro e w5 ⟨rfl, hb5⟩; have hS5 := hsm5 c0 c3 c4 cj d14 (by first | exact hS4.2.2.2.2.2 | exact below_drew HB3.out) hb5))
          all_goals
            have HB5 := Lib.hid (by first | exact hS5.2.2.2.2.2 | exact hS4.2.2.2.2.2 : Below w.heap.size w _)
            have q3 := (HB5.out.cell (lt_of_cell c3)).trans c3
            clear hS4 hS5 k0 k3 k4 kj k14 HS0 c0 c3 c4 cj d14 HL HK HB3
            go_wp2_with fail
            refine (HT.out _ HB5.out).mono ?_
            rintro e w6 ⟨rfl, hb6⟩
            have HB6 := Lib.hid (chn HB5.out hb6)
            clear hb6 HT HB5
            go_wp2_with fail
            go_ret2
            exact ⟨rfl, HB6.out⟩
end
end Go.Proofs.YtkkmfpllgjoceaaGreat.Ro.Dr
