/- Check: which configurations may be. -/
import Derived.Test.YthbhkcofhhkcoaaConfB
import Derived.WalkMore
namespace Go.Proofs.Ythbhkcofhhkcoaa
open Go.RowKit Pk Cn
set_option linter.unusedVariables false

theorem all_snoc {α : Type} {l : List α} {d : α} {f : α → Bool} {k : Nat} (hk : k < l.length) (h : (l.take k).all f = true) (hn : f (l.getD k d) = true) : (l.take (k + 1)).all f = true := by
  have e : l.take (k + 1) = l.take k ++ [l.getD k d] := by
    rw [List.take_add_one]
    simp [List.getElem?_eq_getElem hk, List.getD]
  rw [e, List.all_append, h]; simp only [List.all_cons, hn, List.all_nil]; rfl
theorem all_no {α : Type} {l : List α} {d : α} {f : α → Bool} {k : Nat} (hk : k < l.length) (hn : f (l.getD k d) = false) : l.all f = false := by
  rw [List.all_eq_false]
  refine ⟨l[k], List.getElem_mem hk, ?_⟩
  have e : l.getD k d = l[k] := by simp [List.getElem?_eq_getElem hk, List.getD]
  rw [← e, hn]; decide
theorem server_fit {p : Pt} {x : Bool} (h : mayServer p = x) (a : Option Addr) (cap : Nat) (w : World) (hm : p.ts.length ≤ maxLen) : Calls Try.prog 24 #[.agg #[.int .i64 p.per, .int .i64 p.bud, .slice a p.ts.length cap]] w (YB x w) := by
  subst h; exact server_any p.per p.bud a p.ts.length cap w hm
/-- the cells of a partition that a call has boxed -/
theorem pz_of {w : World} {b : Nat} {x y z : Value} {t : TypeId} (h : w.heap[b]? = some (.cells #[x, y, z] t (0, 0))) : w.cell? ⟨b, 0, none⟩ = some x ∧ w.cell? ⟨b, 1, none⟩ = some y ∧ w.cell? ⟨b, 2, none⟩ = some z :=
  ⟨cell_of_row w b 0 _ _ _ h, cell_of_row w b 1 _ _ _ h, cell_of_row w b 2 _ _ _ h⟩

set_option maxHeartbeats 2000000 in
theorem parts_any {w : World} {B : Nat} {v : Value} {ps : List Pt} (h : PS w B v ps) : Calls Try.prog 11 #[v] w (YB (mayParts ps) w) := by
  obtain ⟨a, cap, rfl, hn1, hn2⟩ := h.slice
  obtain ⟨n, hn⟩ : ∃ n, n = ps.length := ⟨_, rfl⟩
  rw [← hn] at h hn1 ⊢
  have HP := Lib.hid h; have HN := Lib.hid hn
  clear h
  have H1 := Lib.hid (within_any (n : Int) 1 4)
  cases hx : wi (n : Int) 1 4 with
  | false =>
    rw [hx] at H1
    have HF : Hid (mayParts ps = false) := by unfold mayParts; rw [← hn, hx]; rfl
    clear hx hn
    go_enter Try.func11, Try.ntmps11
    go_wp2_with fail
    go_step3
    go_wp2_with fail
    refine (H1.out _).mono ?_
    rintro e w1 ⟨rfl, rfl⟩
    go_wp2_with fail
    try rw [Exit.noGoto_ret]
    go_ret
    exact ⟨by rw [HF.out]; rfl, Below.refl _ _⟩
  | true =>
    rw [hx] at H1
    have hr := wi_yes hx
    have HY : Hid (ps.all mayPart = true → mayParts ps = true) := fun ha => by unfold mayParts; rw [← hn, hx, ha]; rfl
    have HNO : Hid (ps.all mayPart = false → mayParts ps = false) := fun ha => by unfold mayParts; rw [ha]; simp
    clear hx hn
    go_enter Try.func11, Try.ntmps11
    go_wp2_with fail
    go_step3
    go_wp2_with fail
    refine (H1.out _).mono ?_
    rintro e w1 ⟨rfl, rfl⟩
    go_wp2_with fail
    go_step3
    go_wp2_with fail
    clear H1
    go_loopw [3, 15] (fun sv i wr => ∃ k : Nat, k ≤ n ∧ sv = .bool true ∧ i = .int .i64 k ∧ Hid ((ps.take k).all mayPart = true) ∧ Hid (Below w.heap.size w wr)) (fun _ i _ => n - (intOf i).toNat)
    case atStart => exact ⟨0, by omega, rfl, rfl, by simp [Hid], Below.refl _ _⟩
    case round =>
      obtain ⟨k, hk, rfl, rfl, HA, HB⟩ := hrel
      by_cases hlt : k < n
      · obtain ⟨b, off, tv, rfl, _, c1, c2, c3, hts⟩ := (HP.out.below HB.out).at hlt
        obtain ⟨p, hp⟩ : ∃ p, p = ps.getD k pt0 := ⟨_, rfl⟩
        rw [← hp] at c1 c2 hts
        obtain ⟨ta, tcap, rfl, t1, t2⟩ := hts.slice
        have hkl : k < ps.length := by have := HN.out; omega
        have HPN : Hid (mayPart p = false → ps.all mayPart = false) := fun hf => all_no hkl (by rw [← hp]; exact hf)
        have HPY : Hid (mayPart p = true → (ps.take (k + 1)).all mayPart = true) := fun hf => all_snoc hkl HA.out (by rw [← hp]; exact hf)
        have hlm : p.ts.length ≤ maxLen := by omega
        obtain ⟨x, hx⟩ : ∃ x, mayServer p = x := ⟨_, rfl⟩
        have HS := Lib.hid (fun w' => server_fit hx ta tcap w' hlm)
        have HX := Lib.hid hx
        clear hp hkl HA hx hlm
        obtain ⟨per, bud, ts⟩ := p
        dsimp only at c1 c2 hts HS t1 c3
        obtain ⟨m, hm⟩ : ∃ m, m = ts.length := ⟨_, rfl⟩
        rw [← hm] at c3 hts t1 HS
        have HTS := Lib.hid hts; have HM := Lib.hid hm
        clear hts hm
        go_wp2_with fail
        refine (HS.out _).mono ?_
        rintro e w1 ⟨rfl, hb1⟩
        have BX := Lib.hid ((hb1.block _ (by simp)).trans (heap_alloc_new wr _))
        have HBA := (Below.refl wr.heap.size wr).alloc (Nat.le_refl _) (.cells #[.int .i64 per, .int .i64 bud, .slice ta m tcap] 28)
        have HB1 := Lib.hid (HB.out.trans ((HBA.trans (hb1.mono (by simp))).mono HB.out.size))
        have HT1 := Lib.hid (HTS.out.below (HBA.trans (hb1.mono (by simp))))
        clear hb1 HBA HTS HB c1 c2 c3
        obtain ⟨z0, z1, z2⟩ := pz_of BX.out
        cases x with
        | false =>
          have HF : Hid (mayParts ps = false) := HNO.out (HPN.out (by unfold mayPart; rw [HX.out]; rfl))
          go_wp2_with fail
          try rw [Exit.noGoto_ret]
          go_ret
          exact ⟨by rw [HF.out]; rfl, HB1.out⟩
        | true =>
          go_wp2_with fail
          go_loopw [3, 26] (fun sv i wq => ∃ j : Nat, j ≤ m ∧ sv = .bool true ∧ i = .int .i64 j ∧ Hid ((ts.take j).all (fun t => mayTask t bud) = true) ∧ Hid (Below w1.heap.size w1 wq)) (fun _ i _ => m - (intOf i).toNat)
          case atStart => exact ⟨0, by omega, rfl, rfl, by simp [Hid], Below.refl _ _⟩
          case round =>
            clear z0 z1 z2
            obtain ⟨j, hj, rfl, rfl, HAj, HBj⟩ := hrel
            have hmx : m ≤ 9223372036854775807 := by unfold maxLen at t2; omega
            by_cases hjm : j < m
            · obtain ⟨tb, toff, rfl, _, d0, d1, d2, d3, d4, d5, d6, d7⟩ := (HT1.out.below HBj.out).at hjm
              obtain ⟨z0, z1, z2⟩ := pz_of ((HBj.out.block _ (Array.getElem?_eq_some_iff.1 BX.out).1).trans BX.out)
              have y1 := fun o => ((Below.refl wr.heap.size wr).alloc (Nat.le_refl _) o).cell (lt_of_cell z1) |>.trans z1
              have hjl : j < ts.length := by have := HM.out; omega
              obtain ⟨t, ht⟩ : ∃ t, t = ts.getD j tk0 := ⟨_, rfl⟩
              rw [← ht] at d0 d1 d2 d3 d4 d5 d6 d7
              obtain ⟨x, hx⟩ : ∃ x, mayTask t bud = x := ⟨_, rfl⟩
              have HTK := Lib.hid (fun w' => task_any t bud w')
              rw [hx] at HTK
              have HTN : Hid (x = false → ts.all (fun t => mayTask t bud) = false) := fun hf => all_no (d := tk0) hjl (by rw [← ht, hx]; exact hf)
              have HTY : Hid (x = true → (ts.take (j + 1)).all (fun t => mayTask t bud) = true) := fun hf => all_snoc (d := tk0) hjl HAj.out (by rw [← ht, hx]; exact hf)
              clear ht hx hjl HAj
              obtain ⟨q0, q1, q2, q3, q4, q5, q6, q7⟩ := t
              unfold tkv at HTK
              dsimp only at d0 d1 d2 d3 d4 d5 d6 d7 HTK
              go_wp2_with fail
              refine (HTK.out _).mono ?_
              rintro e w2 ⟨rfl, hb2⟩
              have HBQ := Lib.hid (HBj.out.trans ((((Below.refl wr.heap.size wr).alloc (Nat.le_refl _) _).trans (hb2.mono (by simp))).mono HBj.out.size))
              clear hb2 HBj d0 d1 d2 d3 d4 d5 d6 d7 z0 z1 z2 y1
              cases x with
              | false =>
                have HF : Hid (mayParts ps = false) := HNO.out (HPN.out (by unfold mayPart; rw [HTN.out (by simp)]; simp))
                have HB2 := Lib.hid (HB1.out.trans (HBQ.out.mono HB1.out.size))
                go_wp2_with fail
                try rw [Exit.noGoto_ret]
                go_ret
                exact ⟨by rw [HF.out]; rfl, HB2.out⟩
              | true =>
                go_wp2_with fail
                go_roundw
                case rel => exact ⟨j + 1, by omega, rfl, by go_num, HTY.out (by simp), HBQ⟩
                case measure => simp [intOf]; omega
            · have e : j = m := by omega
              subst e
              have HF : Hid ((ps.take (k + 1)).all mayPart = true) := HPY.out (by
                have := HAj.out
                rw [HM.out, List.take_length] at this
                unfold mayPart; rw [HX.out, this]; rfl)
              have HB2 := Lib.hid (HB1.out.trans (HBj.out.mono HB1.out.size))
              clear HAj HBj
              go_wp2_with fail
              go_roundw
              case rel => exact ⟨k + 1, by omega, rfl, by go_num, HF, HB2⟩
              case measure => simp [intOf]; omega
      · have e : k = n := by omega
        subst e
        have HF : Hid (mayParts ps = true) := HY.out (by have := HA.out; rwa [HN.out, List.take_length] at this)
        clear HA
        go_wp2_with fail
        try rw [Exit.noGoto_ret]
        go_ret
        exact ⟨by rw [HF.out]; rfl, HB.out⟩

/-- the cells of a port that a call has boxed -/
theorem oz_of {w : World} {b : Nat} {x0 x1 x2 x3 x4 x5 : Value} {t : TypeId} (h : w.heap[b]? = some (.cells #[x0, x1, x2, x3, x4, x5] t (0, 0))) : w.cell? ⟨b, 0, none⟩ = some x0 ∧ w.cell? ⟨b, 1, none⟩ = some x1 ∧ w.cell? ⟨b, 2, none⟩ = some x2 ∧ w.cell? ⟨b, 3, none⟩ = some x3 ∧ w.cell? ⟨b, 4, none⟩ = some x4 ∧ w.cell? ⟨b, 5, none⟩ = some x5 :=
  ⟨cell_of_row w b 0 _ _ _ h, cell_of_row w b 1 _ _ _ h, cell_of_row w b 2 _ _ _ h, cell_of_row w b 3 _ _ _ h, cell_of_row w b 4 _ _ _ h, cell_of_row w b 5 _ _ _ h⟩

set_option maxHeartbeats 2000000 in
theorem ports_any {w : World} {B : Nat} {v : Value} {os : List Po} (h : OS w B v os) (N : Nat) (hN : N ≤ maxLen) : Calls Try.prog 12 #[v, .int .i64 N] w (YB (mayPorts os N) w) := by
  obtain ⟨a, cap, rfl, hn1, hn2⟩ := h.slice
  obtain ⟨n, hn⟩ : ∃ n, n = os.length := ⟨_, rfl⟩
  rw [← hn] at h hn1 ⊢
  have HP := Lib.hid h; have HN := Lib.hid hn
  clear h
  cases hx : decide ((n : Int) > 8) with
  | true =>
    have HF : Hid (mayPorts os N = false) := by unfold mayPorts; rw [← hn, decide_eq_false (by have := of_decide_eq_true hx; omega)]; rfl
    clear hn
    go_enter Try.func12, Try.ntmps12
    go_wp2_with fail
    go_ret
    exact ⟨by rw [HF.out]; rfl, Below.refl _ _⟩
  | false =>
    have h8 := of_decide_eq_false hx
    have HY : Hid (os.all (fun o => mayPort o N) = true → mayPorts os N = true) := fun ha => by unfold mayPorts; rw [← hn, decide_eq_true (by omega), ha]; rfl
    have HNO : Hid (os.all (fun o => mayPort o N) = false → mayPorts os N = false) := fun ha => by unfold mayPorts; rw [ha]; simp
    clear hn h8
    go_enter Try.func12, Try.ntmps12
    go_wp2_with fail
    go_loopw [12] (fun i wr => ∃ k : Nat, k ≤ n ∧ i = .int .i64 k ∧ Hid ((os.take k).all (fun o => mayPort o N) = true) ∧ Hid (Below w.heap.size w wr)) (fun i _ => n - (intOf i).toNat)
    case atStart => exact ⟨0, by omega, rfl, by simp [Hid], Below.refl _ _⟩
    case round =>
      obtain ⟨k, hk, rfl, HA, HB⟩ := hrel
      have hnx : n ≤ 9223372036854775807 := by unfold maxLen at hn2; omega
      by_cases hlt : k < n
      · obtain ⟨b, off, rfl, _, d0, d1, d2, d3, d4, d5⟩ := (HP.out.below HB.out).at hlt
        have hkl : k < os.length := by have := HN.out; omega
        obtain ⟨o, ho⟩ : ∃ o, o = os.getD k po0 := ⟨_, rfl⟩
        rw [← ho] at d0 d1 d2 d3 d4 d5
        have H1 := Lib.hid (fun w' : World => ends_any o (N : Int) w' (Int.natCast_nonneg N) (by unfold maxLen at hN; exact Int.ofNat_le.2 hN))
        have H2 := Lib.hid (within_any o.s 1 16)
        have H3 := Lib.hid (kept_any o)
        have HPN : Hid (mayPort o N = false → mayPorts os N = false) := fun hf => HNO.out (all_no (d := po0) hkl (by rw [← ho]; exact hf))
        have HPY : Hid (mayPort o N = true → (os.take (k + 1)).all (fun o => mayPort o N) = true) := fun hf => all_snoc (d := po0) hkl HA.out (by rw [← ho]; exact hf)
        clear ho hkl HA
        unfold mayPort at HPN HPY
        generalize mayEnds o N = x1 at *
        generalize hx2 : wi o.s 1 16 = x2 at *
        generalize mayKept o = x3 at *
        clear hx2
        obtain ⟨o0, o1, o2, o3, o4, o5⟩ := o
        unfold pov at *
        dsimp only at d0 d1 d2 d3 d4 d5 H1 H2 H3
        go_wp2_with fail
        refine (H1.out _).mono ?_
        rintro e w1 ⟨rfl, hb1⟩
        have BX := Lib.hid ((hb1.block _ (by simp)).trans (heap_alloc_new wr _))
        have HB1 := Lib.hid (HB.out.trans ((((Below.refl wr.heap.size wr).alloc (Nat.le_refl _) _).trans (hb1.mono (by simp))).mono HB.out.size))
        clear hb1 d0 d1 d2 d3 d4 d5 HB H1
        obtain ⟨z0, z1, z2, z3, z4, z5⟩ := oz_of BX.out
        cases x1 with
        | false =>
          go_wp2_with fail
          go_ret
          exact ⟨by rw [HPN.out (by simp)]; rfl, HB1.out⟩
        | true =>
          cases x2 with
          | false =>
            go_wp2_with fail
            refine (H2.out _).mono ?_
            rintro e w1 ⟨rfl, rfl⟩
            go_wp2_with fail
            go_ret
            exact ⟨by rw [HPN.out (by simp)]; rfl, HB1.out⟩
          | true =>
            go_wp2_with fail
            refine (H2.out _).mono ?_
            rintro e w1 ⟨rfl, rfl⟩
            go_wp2_with fail
            refine (H3.out _).mono ?_
            rintro e w2 ⟨rfl, hb2⟩
            have HB2 := Lib.hid (HB1.out.trans (hb2.mono HB1.out.size))
            clear hb2 z0 z1 z2 z3 z4 z5
            cases x3 with
            | false =>
              go_wp2_with fail
              go_ret
              exact ⟨by rw [HPN.out (by simp)]; rfl, HB2.out⟩
            | true =>
              go_wp2_with fail
              go_roundw
              case rel => exact ⟨k + 1, by omega, by go_num, HPY.out (by simp), HB2⟩
              case measure => simp [intOf]; omega
      · have e : k = n := by omega
        subst e
        have HF : Hid (mayPorts os N = true) := HY.out (by have := HA.out; rwa [HN.out, List.take_length] at this)
        clear HA
        go_wp2_with fail
        go_ret
        exact ⟨by rw [HF.out]; rfl, HB.out⟩

/-- what Check answers -/
def ck (c : Cf) : Int := if may c then 0 else 50
set_option maxHeartbeats 1000000 in
theorem check_any {w : World} {B : Nat} {v : Value} {c : Cf} (h : CF w B v c) : Calls Try.prog 4 #[v] w (YI (ck c) w) := by
  obtain ⟨pv, ov, rfl, hp, ho⟩ := h
  have H1 := Lib.hid (fun w' (b : Below w.heap.size w w') => parts_any (hp.below b))
  obtain ⟨a, cap, rfl, hn1, hn2⟩ := hp.slice
  have H2 := Lib.hid (fun w' (b : Below w.heap.size w w') => ports_any (ho.below b) c.ps.length (by omega))
  obtain ⟨ao, co, rfl, ho1, ho2⟩ := ho.slice
  generalize hn : c.ps.length = n at *
  generalize hm : c.os.length = m at *
  have HC : Hid (ck c = if mayParts c.ps && mayPorts c.os n then 0 else 50) := by unfold ck may; rw [hn]; rfl
  generalize mayParts c.ps = x1 at *
  generalize mayPorts c.os n = x2 at *
  have HA := (Below.refl w.heap.size w).alloc (Nat.le_refl _) (.cells #[.slice a n cap, .slice ao m co] 25)
  have HAA := Lib.hid HA
  clear hp ho hn hm HA
  cases x1 with
  | false =>
    go_enter Try.func4, Try.ntmps4
    go_wp2_with fail
    refine (H1.out _ HAA.out).mono ?_
    rintro e w1 ⟨rfl, hb1⟩
    have HB1 := Lib.hid (HAA.out.trans (hb1.mono HAA.out.size))
    clear hb1
    go_wp2_with fail
    go_ret
    exact ⟨by rw [HC.out]; rfl, HB1.out⟩
  | true =>
    go_enter Try.func4, Try.ntmps4
    go_wp2_with fail
    refine (H1.out _ HAA.out).mono ?_
    rintro e w1 ⟨rfl, hb1⟩
    have BX := Lib.hid ((hb1.block _ (by simp)).trans (heap_alloc_new w _))
    have HB1 := Lib.hid (HAA.out.trans (hb1.mono HAA.out.size))
    have z0 : w1.cell? ⟨w.heap.size, 0, none⟩ = some (.slice a n cap) := cell_of_row _ _ 0 _ _ _ BX.out
    have z1 : w1.cell? ⟨w.heap.size, 1, none⟩ = some (.slice ao m co) := cell_of_row _ _ 1 _ _ _ BX.out
    clear hb1
    go_wp2_with fail
    refine (H2.out _ HB1.out).mono ?_
    rintro e w2 ⟨rfl, hb2⟩
    have HB2 := Lib.hid (HB1.out.trans (hb2.mono HB1.out.size))
    clear hb2 z0 z1
    cases x2 with
    | false =>
      go_wp2_with fail
      go_ret
      exact ⟨by rw [HC.out]; rfl, HB2.out⟩
    | true =>
      go_wp2_with fail
      go_ret
      exact ⟨by rw [HC.out]; rfl, HB2.out⟩
end Go.Proofs.Ythbhkcofhhkcoaa
