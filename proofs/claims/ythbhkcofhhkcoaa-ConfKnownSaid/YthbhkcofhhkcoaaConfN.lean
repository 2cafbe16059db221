/- The examples: works. -/
import Derived.Test.YthbhkcofhhkcoaaConfL
import Derived.Test.YthbhkcofhhkcoaaConfF
namespace Go.Proofs.Ythbhkcofhhkcoaa
open Go.RowKit Pk Cn
set_option linter.unusedVariables false

theorem lit_cell (w : World) (c : Array Value) (t : TypeId) (i : Nat) (v : Value) (h : c[i]? = some v) : (w.alloc (.cells c t)).cell? ⟨w.heap.size, i, none⟩ = some v := (cell_of_row _ _ i c t _ (heap_alloc_new w _)).trans h
theorem bs_lit (w : World) (l : List Int) (hl : l.length ≤ maxLen) : BS (w.alloc (.cells (l.map (Value.int .u8)).toArray 5)) (.slice (some ⟨w.heap.size, 0, none⟩) l.length l.length) l :=
  ⟨_, _, rfl, Nat.le_refl _, hl, (fun h => by cases h), fun _ => ⟨_, 0, rfl, fun i hi => lit_cell w _ 5 _ _ (by simp [List.getElem?_eq_getElem hi, List.getD])⟩⟩
theorem bs_lit2 {W : World} {s : Nat} (hs : W.heap.size = s) (l : List Int) (hl : l.length ≤ maxLen) : BS (W.alloc (.cells (l.map (Value.int .u8)).toArray 5)) (.slice (some ⟨s, 0, none⟩) l.length l.length) l := by subst hs; exact bs_lit W l hl
/-- true is answered; what was there is as it was -/
def TrueB (w : World) (e : Ending) (w' : World) : Prop := e = .returned (.bool true) ∧ Below w.heap.size w w'
theorem BytP.yes {c : Cf} {w w' : World} {e : Ending} (h : BytP c w e w') (hm : may c = true) : ∃ v, e = .returned (.tuple #[v, .int .i64 0]) ∧ Ow w' w.heap.size v (nums c.row) ∧ Below w.heap.size w w' := by
  obtain ⟨hb, ⟨_, v, h1, h2⟩ | ⟨h1, _⟩⟩ := h
  · exact ⟨v, h1, h2, hb⟩
  · rw [hm] at h1; cases h1
theorem BytP.no {c : Cf} {w w' : World} {e : Ending} (h : BytP c w e w') (hm : may c = false) : e = .returned (.tuple #[.slice none 0 0, .int .i64 50]) ∧ Below w.heap.size w w' := by
  obtain ⟨hb, ⟨h1, _⟩ | ⟨_, h1⟩⟩ := h
  · rw [hm] at h1; cases h1
  · exact ⟨h1, hb⟩
/-- what Parse answers -/
def PrsP (xs : List Int) (w : World) (e : Ending) (w' : World) : Prop := ∃ v', e = .returned (.tuple #[v', .int .i64 (parse xs).2]) ∧ CX w' w.heap.size v' (parse xs).1 ∧ Below w.heap.size w w'
theorem parse_eq {w : World} {v : Value} {xs : List Int} {c : Cf} {e0 : Int} (hp : parse xs = (c, e0)) (hv : BS w v xs) (hb : Bys xs) (hl : xs.length ≤ 140737488355328) : Calls Try.prog 14 #[v] w
    (fun e w' => ∃ pv ov, e = .returned (.tuple #[.agg #[pv, ov], .int .i64 e0]) ∧ PS w' w.heap.size pv c.ps ∧ OS w' w.heap.size ov c.os ∧ OwnPt w' w.heap.size pv c.ps.length ∧ Below w.heap.size w w') :=
  (parse_any hv hb hl).mono fun e w' ⟨v', h1, ⟨pv, ov, h2, h3, h4, h5⟩, h6⟩ => ⟨pv, ov, by rw [h1, h2, hp], by rw [hp] at h3; exact h3, by rw [hp] at h4; exact h4, by rw [hp] at h5; exact h5, h6⟩
def Want : List Int := [1, 10, 4, 1, 20, 12, 3, 0, 0, 0, 0, 0, 0]
theorem want_is : nums (chap 3).row = Want := by decide
theorem chap_may : may (chap 3) = true := by decide
theorem parse_want : parse Want = (chap 3, 0) := by rw [← want_is]; exact parse_row chap_may
theorem parse_w12 : parse (Want.take 12) = (c0, 3) := by rw [← want_is]; exact parse_cut chap_may (by decide)
theorem parse_w0 : parse (Want ++ [0]) = (c0, 4) := by rw [← want_is]; exact parse_more chap_may 0
theorem parse_five : parse [5] = (c0, 50) := by rfl
theorem want_bys : Bys Want := by unfold Bys Want; decide
theorem c0_ck : ck c0 = 50 := by decide
theorem c13_ck : ck (chap 13) = 50 := by decide
/-- bytes of the call's own, one behind them -/
theorem app_one {w : World} {B : Nat} {v : Value} {xs : List Int} (x : Int) (ho : Ow w B v xs) (hB : B ≤ w.heap.size) (hl : xs.length + 1 ≤ 140737488355328) (ty : TypeId) :
    ∃ v' w', (Builtin.append_ #[40, 40] ty #[v, .slice (some ⟨w.heap.size, 0, none⟩) 1 1]).run Try.prog (w.alloc (.cells #[.int .u8 x] 5)) = .ok v' w' ∧ Ow w' B v' (xs ++ [x]) ∧ Below B w w' := by
  obtain ⟨i0, hi, hz0, hz1, hz2⟩ := info_parts info5
  have ho2 : (w.alloc (.cells #[.int .u8 x] 5)).ownsRow B 5 1 v xs.length (xs.map (Value.int .u8)) := World.ownsRow.alloc ho _
  obtain ⟨v', w', hrun, hown, hgr, _⟩ := run_append_own (P := Try.prog) (w.alloc (.cells #[.int .u8 x] 5)) B 40 ty 5 i0 _ 1 1 Try.underlying40 hi hz0 hz1 hz2 rfl (by decide) v xs.length _ ho2 ⟨w.heap.size, 0, none⟩ 1 1 [.int .u8 x] (by simp) (cell_one w _ _) (one_u8 [x]) (by unfold maxLen; omega) (by omega) (by simp; omega)
  exact ⟨v', w', hrun, ow_of (m := xs.length + 1) (by simpa using hown) (by simp), (((Below.refl B w).alloc hB _)).grown hgr (by simp; omega) (fun k hk => (ho2.lt k hk).1)⟩
/-- an append whose run is known, in a walk -/
theorem wpList_append_eq {P : Program} {w : World} {ops : Array Oper} {rest : List Oper} {o : Oper} {a : Act} {Q : Exit → Act → World → Prop} (hgd : o.guard = none) (s x : Operand) (t u : TypeId)
    (ho : o.op = .call { callee := .builtin .append, args := #[s, x], argTypes := #[t, u] })
    (sv xv v' : Value) (w' : World) (hs : a.eval s = sv) (hx : a.eval x = xv) (hrun : (Builtin.append_ #[t, u] o.type #[sv, xv]).run P w = .ok v' w')
    (h : wpList P ops Q rest (a.put o.dst v') w') : wpList P ops Q (o :: rest) a w := by
  refine wpList_plain hgd fun K hK => ?_
  unfold Oper.wp
  simp [execOp, ho, resolve, invoke, builtin, hs, hx, hrun, Result.andThen]
  exact hK _ _ h
theorem alb {w w1 : World} (h : Below w.heap.size w w1) (o : Obj) : Below w.heap.size w (w1.alloc o) := h.alloc h.size o

theorem below_lit {W w' : World} {o : Obj} (h : Below (W.alloc o).heap.size (W.alloc o) w') : Below W.heap.size W w' := ((Below.refl _ _).alloc (Nat.le_refl _) o).trans (h.mono (by simp))
theorem check_fit {w : World} {B : Nat} {v : Value} {c : Cf} {r : Int} (hr : ck c = r) (h : CF w B v c) : Calls Try.prog 4 #[v] w (YI r w) := by subst hr; exact check_any h
theorem blk {w w' : World} {b : Nat} {o : Obj} (h : w.heap[b]? = some o) (q : Below w.heap.size w w') : w'.heap[b]? = some o := (q.block b (Array.getElem?_eq_some_iff.1 h).1).trans h
set_option maxRecDepth 100000 in
set_option maxHeartbeats 4000000 in
theorem works_any (w : World) : Calls Try.prog 10 #[] w (TrueB w) := by
  have H1 := Lib.hid (chapter_any 3 w)
  go_enter Try.func10, Try.ntmps10
  go_wp2_with fail
  refine H1.out.mono ?_
  rintro e w1 ⟨cv, rfl, hc1, hb1⟩
  have H2 := Lib.hid (bytes_any hc1)
  have HB := Lib.hid hb1
  clear hc1 hb1 H1
  go_wp2_with fail
  refine H2.out.mono ?_
  intro e w2 hp
  obtain ⟨bv, rfl, ho2, hb2⟩ := hp.yes chap_may
  rw [want_is] at ho2
  have hA := (Below.refl w2.heap.size w2).alloc (Nat.le_refl _) (.cells (Want.map (Value.int .u8)).toArray 5)
  have HBV := Lib.hid (ho2.bs.below hA)
  have HW := Lib.hid (bs_lit w2 Want (by unfold maxLen; decide))
  have HB3 := Lib.hid (alb (chn HB.out hb2) (.cells (Want.map (Value.int .u8)).toArray 5))
  have H3 := Lib.hid (parse_eq parse_want HW.out want_bys (by decide))
  clear hp ho2 hb2 hA H2 HB
  go_wp2_with fail
  refine H3.out.mono ?_
  rintro e w3 ⟨pv, ov, rfl, hps, hos, _, hb3⟩
  have hA := (Below.refl w3.heap.size w3).alloc (Nat.le_refl _) (.cells #[pv, ov] 25)
  have hC := heap_alloc_new w3 (.cells #[pv, ov] 25)
  have HCF := Lib.hid (CF.below (v := .agg #[pv, ov]) ⟨_, _, rfl, hps, hos⟩ hA)
  have HBV2 := Lib.hid ((HBV.out.below hb3).below hA)
  have HW2 := Lib.hid ((HW.out.below hb3).below hA)
  have HB4 := Lib.hid (alb (chn HB3.out hb3) (.cells #[pv, ov] 25))
  obtain ⟨pa, pcap, rfl, _⟩ := hps.slice
  obtain ⟨oa, ocap, rfl, _⟩ := OS.slice hos
  have HCB := Lib.hid hC
  have H4 := Lib.hid (parse_eq parse_w12 (BS.take HW2.out (j := 12) (by decide)) (want_bys.take 12) (by decide))
  clear hps hos hb3 hA hC H3 HB3 HW HBV
  go_wp2_with fail
  refine H4.out.mono ?_
  rintro e w4 ⟨p4, o4, rfl, hp4, ho4, _, hb4⟩
  obtain ⟨_, _, rfl, _⟩ := hp4.slice
  obtain ⟨_, _, rfl, _⟩ := OS.slice ho4
  have qa := fun o => (Below.refl w4.heap.size w4).alloc (Nat.le_refl _) o
  have HB5 := Lib.hid (fun o => alb (chn HB4.out hb4) o)
  have HBV4 := Lib.hid (fun o => (HBV2.out.below hb4).below (qa o))
  have HCF4 := Lib.hid (fun o => CF.below (CF.below HCF.out hb4) (qa o))
  have HCB4 := Lib.hid (fun o => ((qa o).block w3.heap.size (by have := hb4.size; simp at this; omega)).trans ((hb4.block w3.heap.size (by simp)).trans HCB.out))
  have hw4 := HW2.out.below hb4
  have HW4 := Lib.hid (fun o => hw4.below (qa o))
  have H5 := Lib.hid (fun o => copy_any (HW4.out o) (by decide))
  clear hp4 ho4 hb4 H4 HB4 HBV2 HCF HCB HW2 hw4 qa
  go_wp2_with fail
  refine (H5.out _).mono ?_
  rintro e w6 ⟨v6, rfl, ho6, hb6⟩
  obtain ⟨v7, w7, hrun, ho7, hb7⟩ := app_one 0 ho6 hb6.size (by decide) 40
  have hb67 := hb6.trans hb7
  have HBV7 := Lib.hid ((HBV4.out _).below hb67)
  have HW7 := Lib.hid ((HW4.out _).below hb67)
  have HCF7 := Lib.hid ((HCF4.out _).below hb67)
  have HB7 := Lib.hid (chn (HB5.out _) hb67)
  have HCB7 := Lib.hid ((hb67.block w3.heap.size (Array.getElem?_eq_some_iff.1 (HCB4.out _)).1).trans (HCB4.out _))
  have HRUN := Lib.hid hrun
  have H7 := Lib.hid (parse_eq parse_w0 ho7.bs (want_bys.append (Bys.cons (by decide) Bys.nil)) (by decide))
  clear hrun ho6 hb6 ho7 hb7 hb67 HBV4 HW4 HCF4 HB5 HCB4 H5
  go_wp2_with (at_builtin; refine wpList_append_eq rfl (.tmp 31) (.tmp 32) 40 40 rfl _ _ _ _ rfl rfl HRUN.out ?_)
  go_wp2_with fail
  refine H7.out.mono ?_
  rintro e w8 ⟨p8, o8, rfl, hp8, ho8, _, hb8⟩
  obtain ⟨_, _, rfl, _⟩ := hp8.slice
  obtain ⟨_, _, rfl, _⟩ := OS.slice ho8
  have qa := fun o => (Below.refl w8.heap.size w8).alloc (Nat.le_refl _) o
  have hbv := HBV7.out.below hb8
  have hw8 := HW7.out.below hb8
  have hcf := HCF7.out.below hb8
  have HBV8 := Lib.hid (fun o => hbv.below (qa o))
  have HW8 := Lib.hid (fun o => hw8.below (qa o))
  have HCF8 := Lib.hid (fun o => hcf.below (qa o))
  have HB8 := Lib.hid (fun o => alb (chn HB7.out hb8) o)
  have HCB8 := Lib.hid (fun o => ((qa o).block w3.heap.size (Nat.lt_of_lt_of_le (Array.getElem?_eq_some_iff.1 HCB7.out).1 hb8.size)).trans ((hb8.block w3.heap.size (Array.getElem?_eq_some_iff.1 HCB7.out).1).trans HCB7.out))
  have H8 := Lib.hid (fun o => parse_eq parse_five (bs_lit2 (s := w8.heap.size + 1) (W := w8.alloc o) (by simp) [5] (by unfold maxLen; decide)) (Bys.cons (by decide) Bys.nil) (by decide))
  clear hp8 ho8 hb8 hbv hw8 hcf HBV7 HW7 HCF7 HB7 HCB7 HRUN H7
  go_wp2_with fail
  refine (H8.out _).mono ?_
  rintro e w9 ⟨p9, o9, rfl, hp9, ho9, _, hb9⟩
  obtain ⟨a9, c9, rfl, _⟩ := hp9.slice
  obtain ⟨b9, d9, rfl, _⟩ := OS.slice ho9
  have hb9' := below_lit hb9
  obtain ⟨D, hD⟩ : ∃ D, D = w9.alloc (.cells #[.slice a9 c0.ps.length c9, .slice b9 c0.os.length d9] 25) := ⟨_, rfl⟩
  have hqD : Below w9.heap.size w9 D.drew := by rw [hD]; exact ((Below.refl w9.heap.size w9).alloc (Nat.le_refl _) _).drew
  have HBV := Lib.hid (((HBV8.out _).below hb9').below hqD)
  have HW := Lib.hid (((HW8.out _).below hb9').below hqD)
  have HT := Lib.hid (((HCF8.out _).below hb9').below hqD)
  have HX := Lib.hid (chn (chn (HB8.out _) hb9') hqD)
  have HK := Lib.hid (blk (blk (HCB8.out _) hb9') hqD)
  clear hp9 ho9 hb9 hb9' hqD HBV8 HW8 HCF8 HB8 HCB8 H8
  go_wp2_with fail
  rw [← hD]
  clear hD
  obtain ⟨hk0, hk1⟩ := pz2 HK.out
  have hm0 : D.cell? ⟨w3.heap.size, 0, none⟩ = _ := hk0
  have hm1 : D.cell? ⟨w3.heap.size, 1, none⟩ = _ := hk1
  go_region_held3 (fun w' => w'.cell? ⟨w3.heap.size, 0, none⟩ = some (.slice pa (chap 3).ps.length pcap) ∧ w'.cell? ⟨w3.heap.size, 1, none⟩ = some (.slice oa (chap 3).os.length ocap)) (first | assumption | exact ⟨hk0, hk1⟩ | go_keep)
    (first
      | (go_at_call 19; refine (eq_any HBV.out HW.out).mono ?_; rintro e we ⟨rfl, rfl⟩)
      | (go_at_call 7; refine (chapter_any _ _).mono ?_; rintro e wc ⟨cvx, rfl, hcx, hbx⟩; have HCX := Lib.hid hcx; have HT := Lib.hid (HT.out.below hbx); have HX := Lib.hid (chn HX.out hbx); have HK := Lib.hid (blk HK.out hbx); clear hk0 hk1 hbx hcx; obtain ⟨hk0, hk1⟩ := pz2 HK.out)
      | (go_at_call 15; refine (same_any HT.out HCX.out).mono ?_; rintro e wc ⟨rfl, hbx⟩; have HT := Lib.hid (HT.out.below hbx); have HX := Lib.hid (chn HX.out hbx); have HK := Lib.hid (blk HK.out hbx); clear hk0 hk1 hbx; obtain ⟨hk0, hk1⟩ := pz2 HK.out)
      | (go_at_call_of 4 (Value.agg #[.slice none 0 0, .slice none 0 0]); refine (check_fit c0_ck (CF.zero _ 0)).mono ?_; rintro e wc ⟨rfl, hbx⟩; have HT := Lib.hid (HT.out.below hbx); have HX := Lib.hid (chn HX.out hbx); have HK := Lib.hid (blk HK.out hbx); clear hk0 hk1 hbx; obtain ⟨hk0, hk1⟩ := pz2 HK.out)
      | (go_at_call 4; refine (check_fit c13_ck HCX.out).mono ?_; rintro e wc ⟨rfl, hbx⟩; have HT := Lib.hid (HT.out.below hbx); have HX := Lib.hid (chn HX.out hbx); have HK := Lib.hid (blk HK.out hbx); clear hk0 hk1 hbx; obtain ⟨hk0, hk1⟩ := pz2 HK.out))
  all_goals
    go_wp2_with fail
    go_ret
    exact ⟨rfl, HX.out⟩
end Go.Proofs.Ythbhkcofhhkcoaa
