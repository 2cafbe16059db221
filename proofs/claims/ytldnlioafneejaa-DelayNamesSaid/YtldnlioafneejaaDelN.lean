/- works; DelayWaits, DelayOf. -/
import Derived.Test.YtldnlioafneejaaDelM
namespace Go.Proofs.Ytldnlioafneejaa
open Go.RowKit Tk De Dl
set_option linter.unusedVariables false

theorem lit_is (w : World) (l : List Int) (hl : l.length ≤ maxLen) : IS (w.alloc (.cells (l.map (Value.int .i64)).toArray 3)) (.slice (some ⟨w.heap.size, 0, none⟩) l.length l.length) l :=
  ⟨_, _, rfl, Nat.le_refl _, hl, (fun h => by cases h), fun _ => ⟨_, 0, rfl, fun i hi => (cell_of_row _ _ (0 + i) _ _ _ (heap_alloc_new w _)).trans (by simp [List.getElem?_eq_getElem hi, List.getD])⟩⟩
theorem ex3_cells {w : World} {a : Option Addr} (h : PS w (.slice a 3 3) ex3) : ∃ b off ta tcap tb tcap2, a = some ⟨b, off, none⟩ ∧
    (w.cell? ⟨b, off, none⟩ = some (.int .i64 5) ∧ w.cell? ⟨b, off + 1, none⟩ = some (.int .i64 2) ∧ w.cell? ⟨b, off + 2, none⟩ = some (.slice ta 1 tcap)) ∧
    (w.cell? ⟨b, off + 6, none⟩ = some (.int .i64 4) ∧ w.cell? ⟨b, off + 6 + 1, none⟩ = some (.int .i64 1) ∧ w.cell? ⟨b, off + 6 + 2, none⟩ = some (.slice tb 0 tcap2)) ∧
    TK w (.slice ta 1 tcap) 1 (lz exl1) ∧ TK w (.slice tb 0 tcap2) 0 (lz []) := by
  obtain ⟨b, off, ta, tcap, rfl, hc0⟩ := h.at (i := 0) (by decide)
  obtain ⟨b', off', tb, tcap2, e, hc2⟩ := h.at (i := 2) (by decide)
  injection e with e
  injection e with e1 e2 _
  subst e1; subst e2
  exact ⟨b, off, ta, tcap, tb, tcap2, rfl, ⟨hc0.c0, hc0.c1, hc0.c2⟩, ⟨hc2.c0, hc2.c1, hc2.c2⟩, hc0.t, hc2.t⟩
theorem two_facts {w : World} {ta tb : Option Addr} {tcap tcap2 : Nat} (h1 : TK w (.slice ta 1 tcap) 1 (lz exl1)) (h2 : TK w (.slice tb 0 tcap2) 0 (lz [])) (W : World)
    (hW : W = w.alloc (.cells #[.int .i64 5, .int .i64 2, .slice ta 1 tcap, .int .i64 4, .int .i64 1, .slice tb 0 tcap2] 35)) :
    PS W (.slice (some ⟨w.heap.size, 0, none⟩) 2 2) ex2 ∧ Below w.heap.size w W := by
  subst hW
  have hb := (Below.refl w.heap.size w).alloc (Nat.le_refl _) (.cells #[.int .i64 5, .int .i64 2, .slice ta 1 tcap, .int .i64 4, .int .i64 1, .slice tb 0 tcap2] 35)
  have hk := heap_alloc_new w (.cells #[.int .i64 5, .int .i64 2, .slice ta 1 tcap, .int .i64 4, .int .i64 1, .slice tb 0 tcap2] 35)
  refine ⟨ps_of (l := [(exP, .slice ta 1 tcap), (exR, .slice tb 0 tcap2)]) (fun j u hj => ?_) (fun i hi => ?_) (Nat.le_refl 2) (by decide), hb⟩
  · rw [cell_of_row _ _ j _ _ _ hk]
    rw [← List.getElem?_toArray] at hj
    exact hj
  · match i, hi with
    | 0, _ => exact ⟨h1.below hb, by show 1 ≤ 2199023255552; decide⟩
    | 1, _ => exact ⟨h2.below hb, by show 0 ≤ 2199023255552; decide⟩
set_option maxRecDepth 100000 in
set_option maxHeartbeats 8000000 in
theorem works_any (w : World) : Calls Try.prog 15 #[] w (TrueB w) := by
  have H3 := Lib.hid (three_any w)
  have mixed : Try.prog.follows .mixedOrders = true := by kernel_rfl
  go_enter Try.func15, Try.ntmps15
  go_wp2_with fail
  refine H3.out.mono ?_
  rintro e w1 ⟨a, rfl, hP, hb⟩
  have HP := Lib.hid hP; have HB := Lib.hid hb
  obtain ⟨b, off, ta, tcap, tb, tcap2, rfl, ⟨c0, c1, c2⟩, ⟨d0, d1, d2⟩, t1, t2⟩ := ex3_cells hP
  have HF := Lib.hid (fun W => two_facts t1 t2 W)
  clear hP hb H3 t1 t2
  go_wp2_with fail
  refine wp_region_still_tail 6 mixed (by kernel_rfl) ?_
  simp only [List.take_succ_cons, List.take_zero, List.drop_succ_cons, List.drop_zero]
  repeat still_step
  refine wpStill_nil ?_
  go_wp2_with fail
  obtain ⟨q2, qb⟩ := HF.out _ rfl
  have Q3 := Lib.hid ((HP.out.below qb).below (Below.drew (Below.refl _ _)))
  have Q2 := Lib.hid (q2.below (Below.drew (Below.refl _ _)))
  have QB := Lib.hid ((chn HB.out qb).drew)
  clear q2 qb HF HP HB c0 c1 c2 d0 d1 d2 mixed
  generalize (w1.alloc (.cells #[.int .i64 5, .int .i64 2, .slice ta 1 tcap, .int .i64 4, .int .i64 1, .slice tb 0 tcap2] 35)).drew = v0 at *
  generalize w1.heap.size = g2 at *
  have C := Lib.hid (Wait_fit k1 Q3.out)
  refine C.out.mono ?_
  rintro e v1 ⟨rfl, hb⟩
  have P3 := Lib.hid (Q3.out.below hb); have P2 := Lib.hid (Q2.out.below hb); have PB := Lib.hid (chn QB.out hb)
  clear C Q3 Q2 QB hb
  have Q3 := P3; have Q2 := P2; have QB := PB
  clear P3 P2 PB
  go_wp2_with fail
  have C := Lib.hid (Wait_fit k2 Q3.out)
  refine C.out.mono ?_
  rintro e v2 ⟨rfl, hb⟩
  have P3 := Lib.hid (Q3.out.below hb); have P2 := Lib.hid (Q2.out.below hb); have PB := Lib.hid (chn QB.out hb)
  clear C Q3 Q2 QB hb
  have Q3 := P3; have Q2 := P2; have QB := PB
  clear P3 P2 PB
  go_wp2_with fail
  have C := Lib.hid (Wait_fit k3 Q2.out)
  refine C.out.mono ?_
  rintro e v3 ⟨rfl, hb⟩
  have P3 := Lib.hid (Q3.out.below hb); have P2 := Lib.hid (Q2.out.below hb); have PB := Lib.hid (chn QB.out hb)
  clear C Q3 Q2 QB hb
  have Q3 := P3; have Q2 := P2; have QB := PB
  clear P3 P2 PB
  go_wp2_with fail
  have C := Lib.hid (Of_fit k4 Q3.out)
  refine C.out.mono ?_
  rintro e v4 ⟨rfl, hb⟩
  have P3 := Lib.hid (Q3.out.below hb); have P2 := Lib.hid (Q2.out.below hb); have PB := Lib.hid (chn QB.out hb)
  clear C Q3 Q2 QB hb
  have Q3 := P3; have Q2 := P2; have QB := PB
  clear P3 P2 PB
  go_wp2_with fail
  have C := Lib.hid (Of_fit k5 Q3.out)
  refine C.out.mono ?_
  rintro e v5 ⟨rfl, hb⟩
  have P3 := Lib.hid (Q3.out.below hb); have P2 := Lib.hid (Q2.out.below hb); have PB := Lib.hid (chn QB.out hb)
  clear C Q3 Q2 QB hb
  have Q3 := P3; have Q2 := P2; have QB := PB
  clear P3 P2 PB
  go_wp2_with fail
  have C := Lib.hid (Of_fit k6 Q2.out)
  refine C.out.mono ?_
  rintro e v6 ⟨rfl, hb⟩
  have P3 := Lib.hid (Q3.out.below hb); have P2 := Lib.hid (Q2.out.below hb); have PB := Lib.hid (chn QB.out hb)
  clear C Q3 Q2 QB hb
  have Q3 := P3; have Q2 := P2; have QB := PB
  clear P3 P2 PB
  go_wp2_with fail
  have L1 := lit_is v6 [15] (by decide)
  have L2 := (Below.refl _ v6).alloc (Nat.le_refl _) (.cells #[.int .i64 15] 3)
  have C := Lib.hid (more_ok k7 (Q3.out.below L2) L1)
  have PB := Lib.hid (chn QB.out L2); have P3 := Lib.hid (Q3.out.below L2)
  clear L1 L2 Q2 Q3 QB
  refine C.out.mono ?_
  rintro e v7 ⟨rfl, hb⟩
  have QB := Lib.hid (chn PB.out hb); have Q3 := Lib.hid (P3.out.below hb)
  clear C PB P3 hb
  go_wp2_with fail
  have L1 := lit_is v7 [20] (by decide)
  have L2 := (Below.refl _ v7).alloc (Nat.le_refl _) (.cells #[.int .i64 20] 3)
  have C := Lib.hid (more_ok k8 (Q3.out.below L2) L1)
  have PB := Lib.hid (chn QB.out L2); have P3 := Lib.hid (Q3.out.below L2)
  clear L1 L2 Q3 QB
  refine C.out.mono ?_
  rintro e v8 ⟨rfl, hb⟩
  have QB := Lib.hid (chn PB.out hb); have Q3 := Lib.hid (P3.out.below hb)
  clear C PB P3 hb
  go_wp2_with fail
  have C := Lib.hid (more_ok k9 Q3.out (IS.nil _))
  refine C.out.mono ?_
  rintro e v9 ⟨rfl, hb⟩
  have PB := Lib.hid (chn QB.out hb)
  clear C hb QB Q3
  go_wp2_with fail
  go_ret
  exact ⟨rfl, PB.out⟩
set_option maxRecDepth 100000 in
set_option maxHeartbeats 8000000 in
theorem waits_law {w : World} {v : Value} {ps : List Pn} (h : PS w v ps) (q k : Int) : Calls Try.prog 3 #[v, .int .i64 q, .int .i64 k] w (TrueB w) := by
  obtain ⟨a, cap, rfl, hn1, hn2⟩ := h.slice
  have HP := Lib.hid h
  obtain ⟨m, hm⟩ : ∃ m, m = ps.length := ⟨_, rfl⟩
  rw [← hm] at HP ⊢
  have H1 := Lib.hid (fun W (b : Below w.heap.size w W) => Wait_any (HP.out.below b) q k)
  have H2 := Lib.hid (fun W (b : Below w.heap.size w W) => rWait_any (HP.out.below b) q k)
  have H3 := Lib.hid (fun W (b : Below w.heap.size w W) => More_any (HP.out.below b) q)
  have H4 := Lib.hid (fun W (b : Below w.heap.size w W) => rMore_any (HP.out.below b) q)
  have H5 := Lib.hid (fun W (b : Below w.heap.size w W) => checkp_any (HP.out.below b))
  have H6 := Lib.hid (fun W (b : Below w.heap.size w W) => rcheck9_any (HP.out.below b))
  generalize (waR ps q k).1 = x1 at *
  generalize (waR ps q k).2 = x2 at *
  generalize moR ps q = y at *
  generalize chkPE ps = c at *
  obtain ⟨y1, y2⟩ := y
  clear hm hn1 hn2 h HP
  go_enter Try.func3, Try.ntmps3
  go_wp2_with fail
  refine (H1.out _ (Below.refl _ _)).mono ?_
  rintro e v1 ⟨rfl, hb⟩
  have B1 := Lib.hid hb
  clear hb H1
  go_wp2_with fail
  refine (H2.out _ B1.out).mono ?_
  rintro e v2 ⟨rfl, hb⟩
  have B2 := Lib.hid (chn B1.out hb)
  clear hb H2
  go_wp2_with fail
  refine (H3.out _ B2.out).mono ?_
  rintro e v3 ⟨s1, rfl, hs, hb⟩
  have B3 := Lib.hid (chn B2.out hb)
  have S3 := Lib.hid hs
  obtain ⟨a1, cap1, rfl, l1, l2⟩ := hs.slice
  clear hb H3 hs l1 l2
  dsimp only at S3 ⊢
  go_wp2_with fail
  refine (H4.out _ B3.out).mono ?_
  rintro e v4 ⟨s2, rfl, hs, hb⟩
  have B4 := Lib.hid (chn B3.out hb)
  have S4 := Lib.hid hs
  have S34 := Lib.hid (S3.out.below hb)
  obtain ⟨a2, cap2, rfl, l1, l2⟩ := hs.slice
  clear hb H4 hs l1 l2 S3
  dsimp only at S4 ⊢
  go_wp2_with fail
  refine (H5.out _ B4.out).mono ?_
  rintro e v5 ⟨rfl, hb⟩
  have B5 := Lib.hid (chn B4.out hb)
  have S5 := Lib.hid (S4.out.below hb); have S35 := Lib.hid (S34.out.below hb)
  clear hb H5 S4 S34
  go_wp2_with fail
  refine (H6.out _ B5.out).mono ?_
  rintro e v6 ⟨rfl, hb⟩
  have B6 := Lib.hid (chn B5.out hb)
  have HE := Lib.hid (eq_is (S35.out.below hb) (S5.out.below hb))
  clear hb H6 S5 S35
  generalize y1.length = yl at *
  go_wp2_with fail
  refine HE.out.mono ?_
  rintro e v7 ⟨rfl, hb⟩
  have B7 := Lib.hid (chn B6.out hb)
  have HW := Lib.hid (works_any v7)
  clear hb HE
  go_wp2_with fail
  refine HW.out.mono ?_
  rintro e v8 ⟨rfl, hb⟩
  have B8 := Lib.hid (chn B7.out hb)
  clear hb HW
  go_wp2_with fail
  go_ret
  exact ⟨rfl, B8.out⟩
set_option maxRecDepth 100000 in
set_option maxHeartbeats 4000000 in
theorem of_law {w : World} {v : Value} {ps : List Pn} (h : PS w v ps) (q T : Int) : Calls Try.prog 4 #[v, .int .i64 q, .int .i64 T] w (TrueB w) := by
  obtain ⟨a, cap, rfl, hn1, hn2⟩ := h.slice
  have HP := Lib.hid h
  obtain ⟨m, hm⟩ : ∃ m, m = ps.length := ⟨_, rfl⟩
  rw [← hm] at HP ⊢
  have H1 := Lib.hid (fun W (b : Below w.heap.size w W) => Of_any (HP.out.below b) q T)
  have H2 := Lib.hid (fun W (b : Below w.heap.size w W) => rOf_any (HP.out.below b) q T)
  generalize (deR ps q T).1 = x1 at *
  generalize (deR ps q T).2 = x2 at *
  clear hm hn1 hn2 h HP
  go_enter Try.func4, Try.ntmps4
  go_wp2_with fail
  refine (H1.out _ (Below.refl _ _)).mono ?_
  rintro e v1 ⟨rfl, hb⟩
  have B1 := Lib.hid hb
  clear hb H1
  go_wp2_with fail
  refine (H2.out _ B1.out).mono ?_
  rintro e v2 ⟨rfl, hb⟩
  have B2 := Lib.hid (chn B1.out hb)
  have HW := Lib.hid (works_any v2)
  clear hb H2
  go_wp2_with fail
  refine HW.out.mono ?_
  rintro e v3 ⟨rfl, hb⟩
  have B3 := Lib.hid (chn B2.out hb)
  clear hb HW
  go_wp2_with fail
  go_ret
  exact ⟨rfl, B3.out⟩
end Go.Proofs.Ytldnlioafneejaa
