/- The document's Check, whole; the program's Bytes. -/
import Derived.Test.YthbhkcofhhkcoaaConfD
import Derived.Test.YthbhkcofhhkcoaaConfE
namespace Go.Proofs.Ythbhkcofhhkcoaa
open Go.RowKit Pk Cn
set_option linter.unusedVariables false

theorem cgr {w : World} {a : Addr} {v : Value} (h : w.cell? a = some v) (n : Nat) (os : Array Obj) : (Sort.grow (w.drewN n) os).cell? a = some v := cell_grown (lt_of_cell h) h n os
set_option maxHeartbeats 2000000 in
theorem rpart_any {w : World} {B : Nat} {tv : Value} {ts : List Tk} (per bud : Int) (h : TS w B tv ts) : Calls Try.prog 33 #[.agg #[.int .i64 per, .int .i64 bud, tv]] w (YB (mayPart ⟨per, bud, ts⟩) w) := by
  obtain ⟨a, cap, rfl, hn1, hn2⟩ := h.slice
  obtain ⟨m, hm⟩ : ∃ m, m = ts.length := ⟨_, rfl⟩
  rw [← hm] at h hn1 ⊢
  have hmx : m ≤ 9223372036854775807 := by unfold maxLen at hn2; omega
  obtain ⟨r, hr⟩ : ∃ r, r = mayPart ⟨per, bud, ts⟩ := ⟨_, rfl⟩
  rw [← hr]
  unfold mayPart mayServer at hr
  dsimp only at hr
  rw [← hm] at hr
  have H1 := Lib.hid (rwithin_any per 1 64); have H2 := Lib.hid (rwithin_any bud 1 per)
  have HX1 := Lib.hid (wi_iff per 1 64).1; have HX2 := Lib.hid (wi_iff bud 1 per).1
  generalize wi per 1 64 = x1 at *
  generalize wi bud 1 per = x2 at *
  have hA := (Below.refl w.heap.size w).alloc (Nat.le_refl _) (.cells #[.int .i64 per, .int .i64 bud, .slice a m cap] 28)
  have HA := Lib.hid hA
  have HT := Lib.hid h; have HM := Lib.hid hm
  clear hA h hm
  go_enter Try.func33, Try.ntmps33
  go_wp2_with fail
  refine (H1.out _).mono ?_
  rintro e w1 ⟨rfl, rfl⟩
  cases x1 with
  | false =>
    have HR : Hid (r = false) := by unfold Hid; rw [hr]; simp
    clear hr
    go_wp2_with fail
    go_ret
    exact ⟨by rw [HR.out]; rfl, HA.out⟩
  | true =>
    go_wp2_with fail
    refine (H2.out _).mono ?_
    rintro e w1 ⟨rfl, rfl⟩
    cases x2 with
    | false =>
      have HR : Hid (r = false) := by unfold Hid; rw [hr]; simp
      clear hr
      go_wp2_with fail
      go_ret
      exact ⟨by rw [HR.out]; rfl, HA.out⟩
    | true =>
      have hbud : bud ≤ 64 := by have a1 := HX1.out (by trivial); have a2 := HX2.out (by trivial); omega
      cases h4 : decide ((m : Int) > 4) with
      | true =>
        have HR : Hid (r = false) := by unfold Hid; rw [hr, decide_eq_false (by have := of_decide_eq_true h4; omega)]; simp
        clear hr
        go_wp2_with fail
        go_ret
        exact ⟨by rw [HR.out]; rfl, HA.out⟩
      | false =>
        have HR : Hid (r = ts.all (fun t => mayTask t bud)) := by unfold Hid; rw [hr, decide_eq_true (by have := of_decide_eq_false h4; omega)]; simp
        clear hr
        have hBX := heap_alloc_new w (.cells #[.int .i64 per, .int .i64 bud, .slice a m cap] 28)
        have HBX := Lib.hid hBX
        obtain ⟨W, hW⟩ : ∃ W, W = w.alloc (.cells #[.int .i64 per, .int .i64 bud, .slice a m cap] 28) := ⟨_, rfl⟩
        rw [← hW] at HA HBX
        have hWs : w.heap.size < W.heap.size := by rw [hW]; simp
        have HWs := Lib.hid hWs
        clear hBX hWs
        go_wp2_with fail
        rw [← hW]
        clear hW
        go_loopw [3] (fun i wr => ∃ k : Nat, k ≤ m ∧ i = .int .i64 k ∧ Hid ((ts.take k).all (fun t => mayTask t bud) = true) ∧ Hid (Below W.heap.size W wr)) (fun i _ => m - (intOf i).toNat)
        case atStart => exact ⟨0, by omega, rfl, by simp [Hid], Below.refl _ _⟩
        case round =>
          obtain ⟨k, hk, rfl, HAk, HB⟩ := hrel
          have hbx := (HB.out.block _ HWs.out).trans HBX.out
          obtain ⟨z0, z1, z2⟩ := pz_of hbx
          by_cases hlt : k < m
          · obtain ⟨b, off, rfl, _, d0, d1, d2, d3, d4, d5, d6, d7⟩ := ((HT.out.below HA.out).below HB.out).at hlt
            have hkl : k < ts.length := by have := HM.out; omega
            obtain ⟨t, ht⟩ : ∃ t, t = ts.getD k tk0 := ⟨_, rfl⟩
            rw [← ht] at d0 d1 d2 d3 d4 d5 d6 d7
            obtain ⟨x, hx⟩ : ∃ x, mayTask t bud = x := ⟨_, rfl⟩
            have HC : ∀ w', Hid (Calls Try.prog 51 #[tkv t, .int .i64 bud] w' (GB (mayTask t bud) w')) := fun w' => rtask_any t bud w' hbud
            rw [hx] at HC
            have HTN : Hid (x = false → ts.all (fun t => mayTask t bud) = false) := fun hf => all_no (d := tk0) hkl (by rw [← ht, hx]; exact hf)
            have HTY : Hid (x = true → (ts.take (k + 1)).all (fun t => mayTask t bud) = true) := fun hf => all_snoc (d := tk0) hkl HAk.out (by rw [← ht, hx]; exact hf)
            clear ht hx hkl HAk
            obtain ⟨q0, q1, q2, q3, q4, q5, q6, q7⟩ := t
            unfold tkv at HC
            dsimp only at d0 d1 d2 d3 d4 d5 d6 d7 HC
            have Z0 := fun n os => cgr z0 n os
            have Z1 := fun n os => cgr z1 n os
            have Z2 := fun n os => cgr z2 n os
            have D0 := fun n os => cgr d0 n os
            have D1 := fun n os => cgr d1 n os
            have D2 := fun n os => cgr d2 n os
            have D3 := fun n os => cgr d3 n os
            have D4 := fun n os => cgr d4 n os
            have D5 := fun n os => cgr d5 n os
            have D6 := fun n os => cgr d6 n os
            have D7 := fun n os => cgr d7 n os
            have mixed : Try.prog.follows .mixedOrders = true := by kernel_rfl
            have HN2 := Lib.hid hn2
            clear d0 d1 d2 d3 d4 d5 d6 d7 hbx hn2
            go_wp2_with fail
            go_quiet_grown ((go_at_call 51; refine Calls.grown_of ((HC _).out.mono fun _ _ h => h)))
            clear Z0 Z1 Z2 D0 D1 D2 D3 D4 D5 D6 D7 HC mixed z0 z1 z2
            have HB2 : Hid (Below W.heap.size W (Sort.grow (wr.drewN nq) osq)) := HB.out.trans ((Grw.below ⟨nq, osq, rfl⟩).mono HB.out.size)
            generalize Sort.grow (wr.drewN nq) osq = w3 at HB2 ⊢
            cases x with
            | false =>
              have HF : Hid (Below w.heap.size w w3) := HA.out.trans (HB2.out.mono HA.out.size)
              go_wp2_with fail
              go_ret
              exact ⟨by rw [HR.out, HTN.out (by simp)]; rfl, HF.out⟩
            | true =>
              go_wp2_with fail
              go_roundw
              case rel => exact ⟨k + 1, by omega, by go_num, HTY.out (by simp), HB2⟩
              case measure => simp [intOf]; omega
          · have e : k = m := by omega
            subst e
            have HF : Hid (ts.all (fun t => mayTask t bud) = true) := by have := HAk.out; rwa [HM.out, List.take_length] at this
            have HF2 : Hid (Below w.heap.size w wr) := HA.out.trans (HB.out.mono HA.out.size)
            clear HAk hbx
            go_wp2_with fail
            go_ret
            exact ⟨by rw [HR.out, HF.out]; rfl, HF2.out⟩

set_option maxHeartbeats 2000000 in
theorem rcheck_any {w : World} {B : Nat} {v : Value} {c : Cf} (h : CF w B v c) : Calls Try.prog 18 #[v] w (YI (ck c) w) := by
  obtain ⟨pv, ov, rfl, hp, ho⟩ := h
  obtain ⟨a, cap, rfl, hn1, hn2⟩ := hp.slice
  obtain ⟨ao, co, rfl, ho1, ho2⟩ := ho.slice
  obtain ⟨ps, os⟩ := c
  dsimp only at hp ho hn1 ho1 ⊢
  obtain ⟨n, hn⟩ : ∃ n, n = ps.length := ⟨_, rfl⟩
  obtain ⟨m, hm⟩ : ∃ m, m = os.length := ⟨_, rfl⟩
  rw [← hn] at hp hn1 ⊢
  rw [← hm] at ho ho1 ⊢
  have hmx : n ≤ 9223372036854775807 ∧ m ≤ 9223372036854775807 := by unfold maxLen at hn2 ho2; omega
  obtain ⟨r, hr⟩ : ∃ r, r = ck ⟨ps, os⟩ := ⟨_, rfl⟩
  rw [← hr]
  unfold ck may mayParts mayPorts at hr
  dsimp only at hr
  rw [← hn, ← hm] at hr
  have H1 := Lib.hid (rwithin_any (n : Int) 1 4)
  have HX1 := Lib.hid (wi_iff (n : Int) 1 4).1
  generalize wi (n : Int) 1 4 = x1 at *
  have hA := (Below.refl w.heap.size w).alloc (Nat.le_refl _) (.cells #[.slice a n cap, .slice ao m co] 25)
  have HA := Lib.hid hA
  have HP := Lib.hid hp; have HO := Lib.hid ho; have HN := Lib.hid hn; have HM := Lib.hid hm
  have HR0 := Lib.hid hr
  clear hA hp ho hn hm hr
  go_enter Try.func18, Try.ntmps18
  go_wp2_with fail
  refine (H1.out _).mono ?_
  rintro e w1 ⟨rfl, rfl⟩
  cases x1 with
  | false =>
    have HR : Hid (r = 50) := by unfold Hid; rw [HR0.out]; simp
    go_wp2_with fail
    go_ret
    exact ⟨by rw [HR.out]; rfl, HA.out⟩
  | true =>
    cases h8 : decide ((m : Int) > 8) with
    | true =>
      have HR : Hid (r = 50) := by unfold Hid; rw [HR0.out, decide_eq_false (by have := of_decide_eq_true h8; omega)]; simp
      go_wp2_with fail
      go_ret
      exact ⟨by rw [HR.out]; rfl, HA.out⟩
    | false =>
      have HR : Hid (r = if ps.all mayPart && os.all (fun o => mayPort o n) then 0 else 50) := by unfold Hid; rw [HR0.out, decide_eq_true (by have := of_decide_eq_false h8; omega)]; simp
      have hBX := heap_alloc_new w (.cells #[.slice a n cap, .slice ao m co] 25)
      have HBX := Lib.hid hBX
      obtain ⟨W, hW⟩ : ∃ W, W = w.alloc (.cells #[.slice a n cap, .slice ao m co] 25) := ⟨_, rfl⟩
      rw [← hW] at HA HBX
      have hWs : w.heap.size < W.heap.size := by rw [hW]; simp
      have HWs := Lib.hid hWs
      clear hBX hWs
      go_wp2_with fail
      rw [← hW]
      clear hW
      go_loopw [3] (fun i wr => ∃ k : Nat, k ≤ n ∧ i = .int .i64 k ∧ Hid ((ps.take k).all mayPart = true) ∧ Hid (Below W.heap.size W wr)) (fun i _ => n - (intOf i).toNat)
      case atStart => exact ⟨0, by omega, rfl, by simp [Hid], Below.refl _ _⟩
      case round =>
        obtain ⟨k, hk, rfl, HAk, HB⟩ := hrel
        have hbx := (HB.out.block _ HWs.out).trans HBX.out
        obtain ⟨z0, z1⟩ := pz2 hbx
        by_cases hlt : k < n
        · obtain ⟨b, off, tv, rfl, _, c1, c2, c3, hts⟩ := ((HP.out.below HA.out).below HB.out).at hlt
          have hkl : k < ps.length := by have := HN.out; omega
          obtain ⟨p, hp⟩ : ∃ p, p = ps.getD k pt0 := ⟨_, rfl⟩
          rw [← hp] at c1 c2 hts
          have HPN : Hid (mayPart p = false → ps.all mayPart = false) := fun hf => all_no (d := pt0) hkl (by rw [← hp]; exact hf)
          have HPY : Hid (mayPart p = true → (ps.take (k + 1)).all mayPart = true) := fun hf => all_snoc (d := pt0) hkl HAk.out (by rw [← hp]; exact hf)
          have HC := Lib.hid (rpart_any p.per p.bud hts)
          obtain ⟨ta, tcap, rfl, t1, t2⟩ := hts.slice
          clear hp hkl HAk hts
          obtain ⟨per, bud, ts⟩ := p
          dsimp only at c1 c2 c3 HC t1
          obtain ⟨l, hl⟩ : ∃ l, l = ts.length := ⟨_, rfl⟩
          rw [← hl] at c3 t1 HC
          clear hl
          generalize mayPart ⟨per, bud, ts⟩ = x at *
          go_wp2_with fail
          refine HC.out.mono ?_
          rintro e w1 ⟨rfl, hb1⟩
          have HB1 := Lib.hid (HB.out.trans (hb1.mono HB.out.size))
          clear hb1 HC c1 c2 c3 z0 z1 HB hbx
          cases x with
          | false =>
            have HF : Hid (Below w.heap.size w w1) := HA.out.trans (HB1.out.mono HA.out.size)
            go_wp2_with fail
            go_ret
            exact ⟨by rw [HR.out, HPN.out (by simp)]; rfl, HF.out⟩
          | true =>
            go_wp2_with fail
            go_roundw
            case rel => exact ⟨k + 1, by omega, by go_num, HPY.out (by simp), HB1⟩
            case measure => simp [intOf]; omega
        · have e : k = n := by omega
          subst e
          have HF : Hid (ps.all mayPart = true) := by have := HAk.out; rwa [HN.out, List.take_length] at this
          have HBk := HB
          clear HAk hbx
          go_wp2_with fail
          clear z0 z1
          go_loopw [4] (fun i wr => ∃ j : Nat, j ≤ m ∧ i = .int .i64 j ∧ Hid ((os.take j).all (fun o => mayPort o k) = true) ∧ Hid (Below W.heap.size W wr)) (fun i _ => m - (intOf i).toNat)
          case atStart => exact ⟨0, by omega, rfl, by simp [Hid], HBk⟩
          case round =>
            clear HB HBk
            obtain ⟨j, hj, rfl, HAj, HB⟩ := hrel
            have hbx := (HB.out.block _ HWs.out).trans HBX.out
            obtain ⟨z0, z1⟩ := pz2 hbx
            by_cases hjm : j < m
            · obtain ⟨b, off, rfl, _, d0, d1, d2, d3, d4, d5⟩ := ((HO.out.below HA.out).below HB.out).at hjm
              have hjl : j < os.length := by have := HM.out; omega
              obtain ⟨o, ho⟩ : ∃ o, o = os.getD j po0 := ⟨_, rfl⟩
              rw [← ho] at d0 d1 d2 d3 d4 d5
              obtain ⟨x, hx⟩ : ∃ x, mayPort o k = x := ⟨_, rfl⟩
              have HC : ∀ w', Hid (Calls Try.prog 34 #[pov o, .int .i64 (k : Int)] w' (GB (mayPort o k) w')) := fun w' => rport_any o k w' (by omega) (by omega)
              rw [hx] at HC
              have HTN : Hid (x = false → os.all (fun o => mayPort o k) = false) := fun hf => all_no (d := po0) hjl (by rw [← ho, hx]; exact hf)
              have HTY : Hid (x = true → (os.take (j + 1)).all (fun o => mayPort o k) = true) := fun hf => all_snoc (d := po0) hjl HAj.out (by rw [← ho, hx]; exact hf)
              clear ho hx hjl HAj
              obtain ⟨q0, q1, q2, q3, q4, q5⟩ := o
              unfold pov at HC
              dsimp only at d0 d1 d2 d3 d4 d5 HC
              have Z0 := fun n os => cgr z0 n os
              have Z1 := fun n os => cgr z1 n os
              have D0 := fun n os => cgr d0 n os
              have D1 := fun n os => cgr d1 n os
              have D2 := fun n os => cgr d2 n os
              have D3 := fun n os => cgr d3 n os
              have D4 := fun n os => cgr d4 n os
              have D5 := fun n os => cgr d5 n os
              have mixed : Try.prog.follows .mixedOrders = true := by kernel_rfl
              clear d0 d1 d2 d3 d4 d5 hbx
              go_wp2_with fail
              go_quiet_grown ((go_at_call 34; refine Calls.grown_of ((HC _).out.mono fun _ _ h => h)))
              clear Z0 Z1 D0 D1 D2 D3 D4 D5 HC mixed z0 z1
              have HB2 : Hid (Below W.heap.size W (Sort.grow (wr.drewN nq) osq)) := HB.out.trans ((Grw.below ⟨nq, osq, rfl⟩).mono HB.out.size)
              generalize Sort.grow (wr.drewN nq) osq = w3 at HB2 ⊢
              cases x with
              | false =>
                have HF2 : Hid (Below w.heap.size w w3) := HA.out.trans (HB2.out.mono HA.out.size)
                go_wp2_with fail
                go_ret
                exact ⟨by rw [HR.out, HF.out, HTN.out (by simp)]; rfl, HF2.out⟩
              | true =>
                go_wp2_with fail
                go_roundw
                case rel => exact ⟨j + 1, by omega, by go_num, HTY.out (by simp), HB2⟩
                case measure => simp [intOf]; omega
            · have e : j = m := by omega
              subst e
              have HF2 : Hid (os.all (fun o => mayPort o k) = true) := by have := HAj.out; rwa [HM.out, List.take_length] at this
              have HF3 : Hid (Below w.heap.size w wr) := HA.out.trans (HB.out.mono HA.out.size)
              clear HAj hbx
              go_wp2_with fail
              go_ret
              exact ⟨by rw [HR.out, HF.out, HF2.out]; rfl, HF3.out⟩

/-- what Bytes answers: the bytes in new memory; or the error -/
def BytP (c : Cf) (w : World) (e : Ending) (w' : World) : Prop :=
  Below w.heap.size w w' ∧ ((may c = true ∧ ∃ v, e = .returned (.tuple #[v, .int .i64 0]) ∧ Ow w' w.heap.size v (nums c.row)) ∨ (may c = false ∧ e = .returned (.tuple #[.slice none 0 0, .int .i64 50])))
theorem PutP.yes {xs l : List Int} {w w' : World} {e : Ending} (h : PutP xs l w e w') (hl : l.all isN = true) : ∃ v, e = .returned (.tuple #[v, .int .i64 0]) ∧ Ow w' w.heap.size v (xs ++ nums l) ∧ Below w.heap.size w w' := by
  obtain ⟨hb, ⟨_, v, h1, h2⟩ | ⟨h1, _⟩⟩ := h
  · exact ⟨v, h1, h2, hb⟩
  · rw [hl] at h1; cases h1
set_option maxHeartbeats 1000000 in
theorem bytes_any {w : World} {B : Nat} {v : Value} {c : Cf} (h : CF w B v c) : Calls Try.prog 13 #[v] w (BytP c w) := by
  have H1 := Lib.hid (fun w' (b : Below w.heap.size w w') => check_any (h.below b))
  have H2 := Lib.hid (fun w' (b : Below w.heap.size w w') => nums_any (h.below b))
  obtain ⟨pv, ov, rfl, hp, ho⟩ := h
  obtain ⟨a, cap, rfl, hn1, hn2⟩ := hp.slice
  obtain ⟨ao, co, rfl, ho1, ho2⟩ := ho.slice
  generalize c.ps.length = n at *
  generalize c.os.length = m at *
  have hA := (Below.refl w.heap.size w).alloc (Nat.le_refl _) (.cells #[.slice a n cap, .slice ao m co] 25)
  have HA := Lib.hid hA
  clear hp ho hA
  unfold ck at H1
  cases hc : may c with
  | false =>
    have HC := Lib.hid hc
    rw [hc] at H1
    clear hc
    go_enter Try.func13, Try.ntmps13
    go_wp2_with fail
    refine (H1.out _ HA.out).mono ?_
    rintro e w1 ⟨rfl, hb1⟩
    have HB1 := Lib.hid (HA.out.trans (hb1.mono HA.out.size))
    clear hb1
    go_wp2_with fail
    go_ret2
    exact ⟨HB1.out, Or.inr ⟨HC.out, rfl⟩⟩
  | true =>
    have HC := Lib.hid hc
    have hok := may_ok hc
    have HI := Lib.hid (row_isN hok); have HL := Lib.hid (row_len hok)
    rw [hc] at H1
    clear hc hok
    go_enter Try.func13, Try.ntmps13
    go_wp2_with fail
    refine (H1.out _ HA.out).mono ?_
    rintro e w1 ⟨rfl, hb1⟩
    have BX := Lib.hid ((hb1.block _ (by simp)).trans (heap_alloc_new w _))
    have HB1 := Lib.hid (HA.out.trans (hb1.mono HA.out.size))
    obtain ⟨z0, z1⟩ := pz2 BX.out
    clear hb1
    go_wp2_with fail
    refine (H2.out _ HB1.out HL.out).mono ?_
    rintro e w2 ⟨v2, rfl, ho2, hb2⟩
    have HB2 := Lib.hid (HB1.out.trans (hb2.mono HB1.out.size))
    have HP := Lib.hid (put_any (BS.nil w2) ho2.is (by simp only [List.length_nil]; have := HL.out; omega))
    clear hb2 ho2 z0 z1 BX
    go_wp2_with fail
    refine HP.out.mono ?_
    intro e w3 hp
    obtain ⟨v3, rfl, ho3, hb3⟩ := hp.yes HI.out
    have HB3 := Lib.hid (HB2.out.trans (hb3.mono HB2.out.size))
    rw [List.nil_append] at ho3
    have HO3 : Hid (Ow w3 w.heap.size v3 (nums c.row)) := Ow.mono ho3 HB2.out.size
    clear hp ho3 hb3 HP
    go_wp2_with fail
    go_ret2
    exact ⟨HB3.out, Or.inl ⟨HC.out, v3, rfl, HO3.out⟩⟩
end Go.Proofs.Ythbhkcofhhkcoaa
