/- Both rooms beside each other: the same is answered. -/
import Derived.Test.YtkkmfpllgjoceaaGreatRooRh
import Derived.Laws.StructEq
namespace Go.Proofs.YtkkmfpllgjoceaaGreat.Ro
open Go.RowKit Go.Sort Ac Jo
set_option linter.unusedVariables false
set_option maxRecDepth 100000

theorem sole_or (s : Rm) : ∃ (a c : Int) (b : Bool), soleV s = .tuple #[.int .i64 a, .int .i64 c, .bool b] := by
  unfold soleV
  split
  · exact ⟨_, _, _, rfl⟩
  · exact ⟨_, _, _, rfl⟩
theorem who_or' (s : Rm) : ∃ (a : Int) (b : Bool), whoV s = .tuple #[.int .i64 a, .bool b] := by
  unfold whoV
  split
  · exact ⟨_, _, rfl⟩
  · exact ⟨_, _, rfl⟩
theorem dead_or' (s : Rm) (t : Int) : ∃ (a : Int) (b : Bool), deadV s t = .tuple #[.int .i64 a, .bool b] := by
  unfold deadV
  split
  · exact ⟨_, _, rfl⟩
  · exact ⟨_, _, rfl⟩
theorem nv_or (l : List Ak) : ∃ (k n : Int) (u : ByteArray) (b : Bool), nv l = .tuple #[.agg #[.int .i64 k, .int .i64 n, .string u], .bool b] := ⟨_, _, _, _, rfl⟩
theorem form_of {w : World} {C : Nat} {a : Option Addr} {n cap : Nat} {xs : List Int} (h : St.NR w C (.slice a n cap) xs) (hn : 0 < xs.length) : ∃ g, a = some ⟨g, 0, none⟩ ∧ C ≤ g ∧ n = xs.length := by
  rcases h.2 with ⟨_, h0⟩ | ⟨g, cap', cur, e, hb, _⟩
  · omega
  · injection e with e1 e2 _
    exact ⟨g, e1, hb, e2⟩
theorem jobs_le {s : Rm} (h : Rinv s) : (jobsV s).length ≤ 4 := by
  have h1 := Rq.Rd.srt_len s.L
  have h2 := h.len
  have h3 := h.n4
  unfold jobsV
  rw [Rq.Rd.ids_len]
  omega
theorem held_le {s : Rm} (h : Rinv s) (t : Int) : (heldV s t).length ≤ 4 := by
  unfold heldV
  split
  · exact h.h4 t
  · exact Nat.zero_le _
theorem chn' {w0 w w1 : World} (h : Below w0.heap.size w0 w) (k : Below w.heap.size w w1) : Below w0.heap.size w0 w1 := h.trans (k.mono h.size)
theorem same2 (b : Bool) : (b != b) = false := by cases b <;> rfl
/-- an act was put in a block that was laid for it -/
theorem ab_made {w0 w : World} (h : Below w0.heap.size w0 w) (k n : Int) (u : ByteArray) :
    AB ((((w.alloc (.cells #[.int .i64 0, .int .i64 0, .string ⟨#[]⟩] 57)).setCell ⟨w.heap.size, 0, none⟩ (.int .i64 k)).setCell ⟨w.heap.size, 1, none⟩ (.int .i64 n)).setCell ⟨w.heap.size, 2, none⟩ (.string u)) w.heap.size k n u ∧
    Below w0.heap.size w0 ((((w.alloc (.cells #[.int .i64 0, .int .i64 0, .string ⟨#[]⟩] 57)).setCell ⟨w.heap.size, 0, none⟩ (.int .i64 k)).setCell ⟨w.heap.size, 1, none⟩ (.int .i64 n)).setCell ⟨w.heap.size, 2, none⟩ (.string u)) :=
  ⟨(AB.new w 0 0 ⟨#[]⟩).set k n u, (((h.alloc h.size _).setCell (p := ⟨w.heap.size, 0, none⟩) h.size _).setCell (p := ⟨w.heap.size, 1, none⟩) h.size _).setCell (p := ⟨w.heap.size, 2, none⟩) h.size _⟩
set_option maxHeartbeats 8000000 in
theorem same_any {X : Nat → Prop} {B : Nat} {W w : World} {rb mb : Nat} {s : Rm} (h : RT X B W w rb mb s s) (now : Int) :
    Calls Tryz.prog 12 #[.pointer (some ⟨rb, 0, none⟩), .pointer (some ⟨mb, 0, none⟩), .int .i64 now] w (TrueB w) := by
  have hi := h.iv
  obtain ⟨⟨S, hj⟩, m, hm, hp⟩ := h.pr
  have HJ : Hid (∀ w', Below w.heap.size w w' → Q0.J w' rb S s) := Lib.hid (fun w' hb => Q0.keep hj (fun k hk => hb.block k (Q0.lt hj k hk)))
  have HM : Hid (∀ w', Below w.heap.size w w' → Dr.PRM m w' mb s) := Lib.hid (fun w' hb => hm.below hb)
  obtain ⟨wa, wb, hwv⟩ := who_or' s
  obtain ⟨sa, sc, sb0, hsv⟩ := sole_or s
  have HI := Lib.hid hi
  have HPJ := Lib.hid hp
  have hjl := jobs_le hi
  have HHL : Hid (∀ t, (heldV s t).length ≤ 4) := Lib.hid (fun t => held_le hi t)
  have W1 : Hid (∀ w', Below w.heap.size w w' → Calls Tryz.prog 19 #[.pointer (some ⟨rb, 0, none⟩)] w' (VB (.tuple #[.int .i64 wa, .bool wb]) w')) := Lib.hid (fun w' hb => by rw [← hwv]; exact Q0.who (HJ.out w' hb) hi)
  have W2 : Hid (∀ w', Below w.heap.size w w' → Calls Tryz.prog 9 #[.pointer (some ⟨mb, 0, none⟩)] w' (VB (.tuple #[.int .i64 wa, .bool wb]) w')) := Lib.hid (fun w' hb => by rw [← hwv]; exact Dr.who_any (HM.out w' hb) hp hi)
  have S1 : Hid (∀ w', Below w.heap.size w w' → Calls Tryz.prog 30 #[.pointer (some ⟨rb, 0, none⟩)] w' (VB (.tuple #[.int .i64 sa, .int .i64 sc, .bool sb0]) w')) := Lib.hid (fun w' hb => by rw [← hsv]; exact Q0.sole (HJ.out w' hb) hi)
  have S2 : Hid (∀ w', Below w.heap.size w w' → Calls Tryz.prog 44 #[.pointer (some ⟨mb, 0, none⟩)] w' (VB (.tuple #[.int .i64 sa, .int .i64 sc, .bool sb0]) w')) := Lib.hid (fun w' hb => by rw [← hsv]; exact Dr.sole_any (HM.out w' hb) hp hi)
  have J1 : Hid (∀ w', Below w.heap.size w w' → Calls Tryz.prog 34 #[.pointer (some ⟨rb, 0, none⟩)] w' (NumP w' (jobsV s))) := Lib.hid (fun w' hb => Q0.jobs (HJ.out w' hb) hi)
  have J2 : Hid (∀ w', Below w.heap.size w w' → Calls Tryz.prog 58 #[.pointer (some ⟨m.qb, 0, none⟩)] w' (Rq.NumsP w' (jobsV s))) := Lib.hid (fun w' hb => Rq.rjobs_any (HM.out w' hb).qs hi.gd)
  have HQ : Hid (∀ w', Below w.heap.size w w' → w'.cell? ⟨mb, 0 + 2, none⟩ = some (.pointer (some ⟨m.qb, 0, none⟩))) := Lib.hid (fun w' hb => (HM.out w' hb).cells.2.2.1)
  generalize m.qb = qb at *
  generalize hjv : jobsV s = jl at *
  clear h hj hm hp hwv hsv hi hjv
  go_enter Tryz.func12, Tryz.ntmps12
  go_wp2_with fail
  refine (W1.out _ (Below.refl _ _)).mono ?_
  rintro e w1 ⟨rfl, hb1⟩
  have HB1 := Lib.hid hb1
  clear hb1 W1
  go_wp2_with fail
  refine (W2.out _ HB1.out).mono ?_
  rintro e w2 ⟨rfl, hb⟩
  have HB2 := Lib.hid (chn HB1.out hb)
  clear hb W2 HB1
  go_wp2_with fail
  refine (S1.out _ HB2.out).mono ?_
  rintro e w3 ⟨rfl, hb⟩
  have HB3 := Lib.hid (chn HB2.out hb)
  clear hb S1 HB2
  go_wp2_with fail
  refine (S2.out _ HB3.out).mono ?_
  rintro e w4 ⟨rfl, hb⟩
  have HB4 := Lib.hid (chn HB3.out hb)
  clear hb S2 HB3
  have cq := HQ.out _ HB4.out
  have HS0 := Lib.hid (And.intro cq HB4.out)
  have tb1 : ((wb != wb) : Bool) = false := same2 wb
  have tb2 : ((sb0 != sb0) : Bool) = false := same2 sb0
  go_upto_region 5 with (fail)
  go_cut [83] from 50 to 82 (fun c wc => c = .bool false ∧ Hid (Below w.heap.size w wc))
  case first =>
    go_wp2_with fail
    go_region_held3 (fun w' => w'.cell? ⟨mb, 0 + 2, none⟩ = some (.pointer (some ⟨qb, 0, none⟩)) ∧ Below w.heap.size w w')
      (first | assumption | exact HS0.out | exact ⟨HS0.out.1, below_drew HS0.out.2⟩ | exact ⟨cq9, HB9.out⟩ | exact ⟨cq8, HB8.out⟩ | exact ⟨cq7, HB7.out⟩ | go_keep)
      (first | (go_at_call 34; refine (J1.out _ (below_drew HB4.out)).mono ?_; rintro e w7 ⟨r7, rfl, hn7, hb7⟩; obtain ⟨ra7, rc7, rfl⟩ := hn7.is_form; have HN7 := Lib.hid (St.NR.is hn7); have HB7 := Lib.hid (chn (below_drew HB4.out) hb7); have cq7 := HQ.out _ HB7.out; clear hn7 hb7) | (go_at_call 58; refine (J2.out _ HB7.out).mono ?_; rintro e w8 ⟨r8, rfl, hn8, hb8⟩; obtain ⟨ra8, rc8, rfl⟩ := hn8.is_form; have HN8 : Hid (St.IS w8 (.slice ra8 jl.length rc8) jl) := Lib.hid (Rq.NR.is hn8); have HN7b := Lib.hid (HN7.out.below hb8); have HB8 := Lib.hid (chn HB7.out hb8); have cq8 := HQ.out _ HB8.out; clear hn8 hb8) | (go_at_call 33; refine (St.eqs_any HN7b.out HN8.out (by omega)).mono ?_; rintro e w9 ⟨rfl, hb9⟩; have HB9 := Lib.hid (chn HB8.out hb9); have cq9 := HQ.out _ HB9.out; clear hb9))
    all_goals
      go_wp2_with fail
      go_meet
      case rel => exact ⟨rfl, HB9⟩
  case rest =>
    obtain ⟨rfl, HB5⟩ := hcut
    clear HB4 HS0 cq HQ J1 J2 tb1 tb2
    go_wp2_with fail
    go_loopw [17] (fun i wr => ∃ I : Int, -1 ≤ I ∧ I ≤ 5 ∧ i = .int .i64 I ∧ Hid (Below w.heap.size w wr)) (fun i _ => (5 - intOf i).toNat)
    case atStart => exact ⟨-1, by omega, by omega, rfl, HB5.out⟩
    case round =>
      clear HB5
      obtain ⟨I, hI1, hI2, rfl, HBr⟩ := hrel
      by_cases hI5 : I < 5
      · have hd : decide (I < 5) = true := by simpa using hI5
        obtain ⟨k, n, u, b, hnv⟩ := nv_or (nextV s I)
        obtain ⟨da, db, hdv⟩ := dead_or' s I
        have N1 : Hid (∀ w', Below w.heap.size w w' → Calls Tryz.prog 35 #[.pointer (some ⟨rb, 0, none⟩), .int .i64 I] w' (VB (.tuple #[.agg #[.int .i64 k, .int .i64 n, .string u], .bool b]) w')) := Lib.hid (fun w' hb => by rw [← hnv]; exact Q0.next (HJ.out w' hb) HI.out I)
        have N2 : Hid (∀ w', Below w.heap.size w w' → Calls Tryz.prog 59 #[.pointer (some ⟨mb, 0, none⟩), .int .i64 I] w' (VB (.tuple #[.agg #[.int .i64 k, .int .i64 n, .string u], .bool b]) w')) := Lib.hid (fun w' hb => by rw [← hnv]; exact Dr.next_any (HM.out w' hb) HPJ.out I)
        have D1 : Hid (∀ w', Below w.heap.size w w' → Calls Tryz.prog 17 #[.pointer (some ⟨rb, 0, none⟩), .int .i64 I] w' (VB (.tuple #[.int .i64 da, .bool db]) w')) := Lib.hid (fun w' hb => by rw [← hdv]; exact Q0.dead (HJ.out w' hb) HI.out I)
        have D2 : Hid (∀ w', Below w.heap.size w w' → Calls Tryz.prog 60 #[.pointer (some ⟨mb, 0, none⟩), .int .i64 I] w' (VB (.tuple #[.int .i64 da, .bool db]) w')) := Lib.hid (fun w' hb => by rw [← hdv]; exact Dr.dead_any (HM.out w' hb) HPJ.out HI.out I)
        have F1 : Hid (∀ w', Below w.heap.size w w' → Calls Tryz.prog 32 #[.pointer (some ⟨rb, 0, none⟩), .int .i64 I, .int .i64 now] w' (VB (.int .i64 (fauR s I now)) w')) := Lib.hid (fun w' hb => Q0.fault (HJ.out w' hb) HI.out I now)
        have F2 : Hid (∀ w', Below w.heap.size w w' → Calls Tryz.prog 61 #[.pointer (some ⟨mb, 0, none⟩), .int .i64 I, .int .i64 now] w' (VB (.int .i64 (fauR s I now)) w')) := Lib.hid (fun w' hb => Dr.fault_any (HM.out w' hb) HPJ.out HI.out I now)
        have E1 : Hid (∀ w', Below w.heap.size w w' → Calls Tryz.prog 29 #[.pointer (some ⟨rb, 0, none⟩), .int .i64 I] w' (VB (.int .i64 (earV s I)) w')) := Lib.hid (fun w' hb => Q0.ear (HJ.out w' hb) HI.out I)
        have E2 : Hid (∀ w', Below w.heap.size w w' → Calls Tryz.prog 62 #[.pointer (some ⟨mb, 0, none⟩), .int .i64 I] w' (VB (.int .i64 (earV s I)) w')) := Lib.hid (fun w' hb => Dr.ear_any (HM.out w' hb) HPJ.out HI.out I)
        have H1 : Hid (∀ w', Below w.heap.size w w' → Calls Tryz.prog 18 #[.pointer (some ⟨rb, 0, none⟩), .int .i64 I] w' (NumP w' (heldV s I))) := Lib.hid (fun w' hb => Q0.held (HJ.out w' hb) HI.out I)
        have H2 : Hid (∀ w', Below w.heap.size w w' → Calls Tryz.prog 63 #[.pointer (some ⟨mb, 0, none⟩), .int .i64 I] w' (NumP w' (heldV s I))) := Lib.hid (fun w' hb => Dr.held_any (HM.out w' hb) HPJ.out HI.out I)
        have hxl := HHL.out I
        generalize fauR s I now = fa at *
        generalize earV s I = ea at *
        generalize hxs : heldV s I = xs at *
        clear hnv hdv hxs
        have tb1 : ((b != b) : Bool) = false := same2 b
        have tb2 : ((db != db) : Bool) = false := same2 db
        go_wp2_with fail
        refine (N1.out _ HBr.out).mono ?_
        rintro e w6 ⟨rfl, hb⟩
        have HB6 := Lib.hid (chn' HBr.out hb)
        clear hb N1
        have HL6 : Hid (Below w.heap.size w (w6.alloc (.cells #[.int .i64 k, .int .i64 n, .string u] 57))) := Lib.hid (HB6.out.alloc HB6.out.size _)
        have HA6 := Lib.hid (AB.new w6 k n u)
        clear HB6
        go_wp2_with fail
        refine (N2.out _ HL6.out).mono ?_
        rintro e w7 ⟨rfl, hb⟩
        have HB7 := Lib.hid (chn' HL6.out hb)
        have HA7 := Lib.hid (HA6.out.below hb)
        clear hb N2 HA6 HL6
        generalize w6.heap.size = o1 at *
        have HL7 : Hid (Below w.heap.size w (w7.alloc (.cells #[.int .i64 k, .int .i64 n, .string u] 57))) := Lib.hid (HB7.out.alloc HB7.out.size _)
        have HC7 := Lib.hid (AB.new w7 k n u)
        have HA8 := Lib.hid (HA7.out.below (below_al w7 (.cells #[.int .i64 k, .int .i64 n, .string u] 57)))
        clear HB7 HA7
        go_wp2_with fail
        refine (D1.out _ HL7.out).mono ?_
        rintro e w8 ⟨rfl, hb⟩
        have HB8 := Lib.hid (chn' HL7.out hb)
        have HA9 := Lib.hid (HA8.out.below hb)
        have HC9 := Lib.hid (HC7.out.below hb)
        clear hb D1 HA8 HC7 HL7
        generalize w7.heap.size = o2 at *
        go_wp2_with fail
        refine (D2.out _ HB8.out).mono ?_
        rintro e w9 ⟨rfl, hb⟩
        have HB9 := Lib.hid (chn' HB8.out hb)
        have HA10 := Lib.hid (HA9.out.below hb)
        have HC10 := Lib.hid (HC9.out.below hb)
        clear hb D2 HA9 HC9 HB8
        go_wp2_with fail
        refine (H1.out _ HB9.out).mono ?_
        rintro e w10 ⟨r, rfl, hnr, hb⟩
        obtain ⟨ra, rc, rfl⟩ := hnr.is_form
        have HN := Lib.hid hnr
        have HB10 := Lib.hid (chn' HB9.out hb)
        obtain ⟨a0, a1, a2⟩ := (HA10.out.below hb).cells
        obtain ⟨e0, e1, e2⟩ := (HC10.out.below hb).cells
        have HZ : Hid (w.heap.size ≤ w9.heap.size) := Lib.hid HB9.out.size
        clear hb H1 HA10 HC10 HB9 hnr
        generalize w9.heap.size = C0 at *
        go_wp2_with fail
        refine (F1.out _ HB10.out).mono ?_
        rintro e w11 ⟨rfl, hb⟩
        have HB11 := Lib.hid (chn' HB10.out hb)
        have HN11 := Lib.hid (St.NR.kept HN.out hb)
        clear hb F1 HB10 HN a0 a1 a2 e0 e1 e2
        go_wp2_with fail
        refine (F2.out _ HB11.out).mono ?_
        rintro e w12 ⟨rfl, hb⟩
        have HB12 := Lib.hid (chn' HB11.out hb)
        have HN12 := Lib.hid (St.NR.kept HN11.out hb)
        clear hb F2 HB11 HN11
        go_wp2_with fail
        refine (E1.out _ HB12.out).mono ?_
        rintro e w13 ⟨rfl, hb⟩
        have HB13 := Lib.hid (chn' HB12.out hb)
        have HN13 := Lib.hid (St.NR.kept HN12.out hb)
        clear hb E1 HB12 HN12
        go_wp2_with fail
        refine (E2.out _ HB13.out).mono ?_
        rintro e w14 ⟨rfl, hb⟩
        have HB14 := Lib.hid (chn' HB13.out hb)
        have HN14 := Lib.hid (St.NR.kept HN13.out hb)
        clear hb E2 HB13 HN13
        go_wp2_with fail
        refine (H2.out _ HB14.out).mono ?_
        rintro e w15 ⟨r, rfl, hnr, hb⟩
        obtain ⟨ra2, rc2, rfl⟩ := hnr.is_form
        have HM15 := Lib.hid (St.NR.is hnr)
        have HB15 := Lib.hid (chn' HB14.out hb)
        have HN15 := Lib.hid (St.NR.kept HN14.out hb)
        clear hb H2 HB14 HN14 hnr
        go_wp2_with fail
        refine (St.eqs_any (St.NR.is HN15.out) HM15.out (by omega)).mono ?_
        rintro e w16 ⟨rfl, hb⟩
        have HB16 := Lib.hid (chn' HB15.out hb)
        have HN16 := Lib.hid (St.NR.kept HN15.out hb)
        clear hb HB15 HN15 HM15
        obtain ⟨mm, hm⟩ : ∃ mm, mm = xs.length := ⟨_, rfl⟩
        have HM2 := Lib.hid hm
        rw [← hm] at HN16 hxl ⊢
        clear hm
        go_wp2_with fail
        go_loopw [27] (fun i wi => ∃ (j : Nat) (ys : List Int), j ≤ mm ∧ i = .int .i64 j ∧ Hid (ys.length = mm) ∧ Hid (St.NR wi C0 (.slice ra mm rc) ys) ∧ Hid (Below w.heap.size w wi)) (fun i _ => mm - (intOf i).toNat)
        case atStart => exact ⟨0, xs, Nat.zero_le _, rfl, Lib.hid HM2.out.symm, HN16, HB16⟩
        case round =>
          clear HN16 HB16
          obtain ⟨j, ys, hk, rfl, HY, HN, HBi⟩ := hrel
          by_cases hkm : j < mm
          · obtain ⟨g, rfl, hg, _⟩ := form_of HN.out (by rw [HY.out]; omega)
            have hn := HN.out
            unfold St.NR at hn
            rw [HY.out] at hn
            have s1 : wr.cell? ⟨g, j, none⟩ = some (.int .i64 (ys.getD j 0)) := by
              rw [World.ownsRow.cellAt hn j (by omega)]
              exact St.nums_at ys j (by rw [HY.out]; exact hkm)
            have s2 : wr.frozen? ⟨g, j, none⟩ = false := World.ownsRow.frozenAt hn j
            have HN2 : Hid (St.NR (wr.setCell ⟨g, j, none⟩ (.int .i64 (-1))) C0 (.slice (some ⟨g, 0, none⟩) mm rc) (ys.set j (-1))) := by
              unfold Hid St.NR
              rw [List.length_set, HY.out]
              have := (World.ownsRow.stored hn j (.int .i64 (-1))).1
              unfold St.nums at this ⊢
              rw [List.map_set]
              exact this
            have HY2 : Hid ((ys.set j (-1)).length = mm) := by unfold Hid; rw [List.length_set]; exact HY.out
            have HB2 : Hid (Below w.heap.size w (wr.setCell ⟨g, j, none⟩ (.int .i64 (-1)))) := HBi.out.setCell (Nat.le_trans HZ.out hg) _
            generalize ys.getD j 0 = y0 at *
            have hk0 : (0 : Int) ≤ j := by omega
            have hkI : (j : Int) < (mm : Int) := by omega
            clear hn hg HN HY HBi
            go_wp2_with fail
            go_roundw
            case rel => exact ⟨j + 1, _, by omega, by go_num, HY2, HN2, HB2⟩
            case measure => simp [intOf]; omega
          · obtain rfl : j = mm := by omega
            go_wp2_with fail
            go_roundw
            case rel => exact ⟨I + 1, by omega, by omega, rfl, HBi⟩
            case measure => simp [intOf]; omega
      · obtain rfl : I = 5 := by omega
        go_wp2_with fail
        go_ret
        exact ⟨rfl, HBr.out⟩
end Go.Proofs.YtkkmfpllgjoceaaGreat.Ro
