/- P18.1 to P18.6: RoomPlays' walk: both rooms, of any tasks, through any calls. -/
import Derived.Test.YtkkmfpllgjoceaaGreatRooRi
import Derived.Test.YtkkmfpllgjoceaaGreatRooO
import Derived.Deep.CutRange
namespace Go.Proofs.YtkkmfpllgjoceaaGreat.Ro
open Go.RowKit Go.Sort Ac Jo
set_option linter.unusedVariables false
set_option maxRecDepth 100000

/-- both are made -/
theorem RT.start {w w1 w2 : World} {rb mb n : Nat} {z : Nat → Nat → Int} {S S2 : Nat → Prop} (hi : Rinv (noRm n z)) (h1 : Q0.J w1 rb S (noRm n z)) (q1 : ∀ k, S k → w.heap.size ≤ k) (b1 : Below w.heap.size w w1)
    (h2 : Dr.JJ w2 mb S2 (noRm n z)) (q2 : ∀ k, S2 k → w1.heap.size ≤ k) (b2 : Below w1.heap.size w1 w2) : RT (fun _ => False) w.heap.size w w2 rb mb (noRm n z) (noRm n z) := by
  obtain ⟨m, p1, p2, p3⟩ := h2
  have hs := b1.size
  refine ⟨⟨m, p1, p2, fun k hk => by have := q2 k ((p3 k).2 hk); omega, fun k hk => hk.elim, ?_⟩, fun k hk => hk.elim⟩
  refine ⟨⟨S, Q0.keep h1 (fun k hk => b2.block k (Q0.lt h1 k hk)), q1, fun k hk hS => ?_⟩, fun k hk => ?_, hi, Nat.le_refl _, chn b1 b2⟩
  · rcases hk with y | y
    · have := q2 k ((p3 k).2 y); have := Q0.lt h1 k hS; omega
    · exact y
  · rcases hk with y | y
    · exact p1.lt k y
    · exact y.elim
theorem who_or3 (s : Rm) : ∃ (a : Int) (b : Bool), whoV s = .tuple #[.int .i64 a, .bool b] := who_or' s
theorem now_w {x : Int} (h0 : 0 ≤ x) (h1 : x ≤ 10000) : wrap64 x = x := by unfold wrap64; omega
theorem now_i {x : Int} (h0 : 0 ≤ x) (h1 : x ≤ 10000) : IntKind.i64.wrap x = x := by rw [IntKind.wrap_i64]; omega
set_option maxHeartbeats 16000000 in
theorem plays_any {w : World} {v u : Value} {n nd : Nat} {z : Nat → Nat → Int} {d : Nat → Dv} (h : St.TK w v n z) (h7 : ∀ i, z i 7 ≤ 9223372036854775807) (hd : DS w u nd d) : Calls Tryz.prog 3 #[v, u] w (TrueB w) := by
  obtain ⟨ua, ucap, rfl, hu1, hu2⟩ := hd.slice
  have hmx : nd ≤ 9223372036854775807 := by unfold maxLen at hu2; omega
  have HD := Lib.hid hd
  have HT := Lib.hid h
  have H7 := Lib.hid h7
  clear hd h hu1 hu2 h7
  by_cases hq : 4 < n ∨ ∃ i, i < n ∧ Jo.tok (z i) = false
  · have HN1 := Lib.hid (Q0.newNo HT.out hq)
    have HN2 : Hid (∀ w', Below w.heap.size w w' → Calls Tryz.prog 8 #[v] w' (NoP 2 w')) := Lib.hid (fun w' hb => Dr.new_no (HT.out.below hb) hq)
    clear hq
    go_enter Tryz.func3, Tryz.ntmps3
    go_wp2_with fail
    refine HN1.out.mono ?_
    rintro e w1 ⟨rfl, hb⟩
    have HB1 := Lib.hid hb
    clear hb HN1
    go_wp2_with fail
    refine (HN2.out _ HB1.out).mono ?_
    rintro e w2 ⟨rfl, hb⟩
    have HB2 := Lib.hid (chn HB1.out hb)
    have HWK := Lib.hid (works_any Q0 w2)
    clear hb HN2 HB1
    go_wp2_with fail
    go_loopw [10] (fun i wr => i = .int .i64 0 ∧ wr = w2) (fun i _ => 0)
    case atStart => exact ⟨rfl, rfl⟩
    case round =>
      obtain ⟨rfl, rfl⟩ := hrel
      by_cases hn0 : nd = 0
      · subst hn0
        go_wp2_with fail
        refine HWK.out.mono ?_
        rintro e w5 ⟨rfl, hb5⟩
        have HB5 : Hid (Below w.heap.size w w5) := Lib.hid (chn HB2.out hb5)
        clear hb5 HWK
        go_wp2_with fail
        go_ret
        exact ⟨rfl, HB5.out⟩
      · have hd0 : decide ((0 : Int) < (nd : Int)) = true := by simp; omega
        go_wp2_with fail
        refine HWK.out.mono ?_
        rintro e w5 ⟨rfl, hb5⟩
        have HB5 : Hid (Below w.heap.size w w5) := Lib.hid (chn HB2.out hb5)
        clear hb5 HWK
        go_wp2_with fail
        go_ret
        exact ⟨rfl, HB5.out⟩
  · have hn : n ≤ 4 := by omega
    have hz : ∀ i, i < n → Jo.tok (z i) = true := fun i hi => by
      cases e : Jo.tok (z i) with
      | true => rfl
      | false => exact absurd (Or.inr ⟨i, hi, e⟩) hq
    have HRI := Lib.hid (Rinv.no hn hz (fun i _ => H7.out i))
    have HN1 := Lib.hid (Q0.newOk HT.out hn hz)
    have HN2 : Hid (∀ w', Below w.heap.size w w' → Calls Tryz.prog 8 #[v] w' (RNew Dr.JJ (noRm n z) w')) := Lib.hid (fun w' hb => Dr.new_ok (HT.out.below hb) hn hz)
    clear hq hn hz
    go_enter Tryz.func3, Tryz.ntmps3
    go_wp2_with fail
    refine HN1.out.mono ?_
    rintro e w1 ⟨rb, S, rfl, hj, q1, b1⟩
    have HB1 := Lib.hid b1
    have HJ1 := Lib.hid (And.intro hj q1)
    clear hj q1 b1 HN1
    go_wp2_with fail
    refine (HN2.out _ HB1.out).mono ?_
    rintro e w2 ⟨mb, S2, rfl, hj2, q2, b2⟩
    have HR := Lib.hid (RT.start HRI.out HJ1.out.1 HJ1.out.2 HB1.out hj2 q2 b2)
    clear hj2 q2 b2 HN2 HB1 HJ1 HRI HT H7
    generalize noRm n z = s0 at *
    go_wp2_with fail
    go_loopw [9, 10] (fun nw i wr => ∃ (k : Nat) (s : Rm) (now : Int), k ≤ nd ∧ k ≤ 80 ∧ nw = .int .i64 now ∧ i = .int .i64 k ∧ 0 ≤ now ∧ now ≤ 9 * k ∧ Hid (RT (fun _ => False) w.heap.size w wr rb mb s s)) (fun _ i _ => 80 - (intOf i).toNat)
    case atStart => exact ⟨0, s0, 0, Nat.zero_le _, Nat.zero_le _, rfl, rfl, Int.le_refl _, by omega, HR⟩
    case round =>
      clear HR s0
      obtain ⟨k, s, now, hk, hk8, rfl, rfl, hn0, hn1, HR⟩ := hrel
      by_cases hlt : k < nd ∧ k < 80
      · obtain ⟨hlt, hl2⟩ := hlt
        have hd1 : decide ((k : Int) < (nd : Int)) = true := by simp; omega
        have hd2 : decide ((k : Int) < 80) = true := by simp; omega
        obtain ⟨ub, off, rfl, d0, d1, d2, d3, hl⟩ := (HD.out.below HR.out.bel).at hlt
        obtain ⟨ub', off', eq', c0, c1, c2, c3, hl0⟩ := HD.out.at hlt
        have HAS : Hid (∀ w', Below w.heap.size w w' → AS w' (d k).u (d k).l) := Lib.hid (fun w' hb => hl0.below hb)
        have HDS : Hid (∀ w', Below wr.heap.size wr w' → w'.cell? ⟨ub, off + k * 4, none⟩ = some (.int .i64 (d k).k) ∧ w'.cell? ⟨ub, off + k * 4 + 1, none⟩ = some (.int .i64 (d k).t) ∧ w'.cell? ⟨ub, off + k * 4 + 2, none⟩ = some (.int .i64 (d k).a) ∧ w'.cell? ⟨ub, off + k * 4 + 3, none⟩ = some (d k).u) := Lib.hid (fun w' hb => ⟨(hb.cell (lt_of_cell d0)).trans d0, (hb.cell (lt_of_cell d1)).trans d1, (hb.cell (lt_of_cell d2)).trans d2, (hb.cell (lt_of_cell d3)).trans d3⟩)
        clear hl hl0 c0 c1 c2 c3 eq'
        obtain ⟨wa, wb, hwv⟩ := who_or3 s
        have HW : Hid (Calls Tryz.prog 9 #[.pointer (some ⟨mb, 0, none⟩)] wr (VB (.tuple #[.int .i64 wa, .bool wb]) wr)) := by
          obtain ⟨_, m, hm, hp⟩ := HR.out.pr
          rw [← hwv]
          exact Lib.hid (Dr.who_any hm hp HR.out.iv)
        have HB := Lib.hid (fun W => bring_any (d k).k 10 W (by decide) (by decide))
        have HB9 := Lib.hid (fun W => bring_any (d k).a 9 W (by decide) (by decide))
        have hb9 := bring_bd (d k).a 9 (by decide)
        have HDO : Hid (∀ w', Below wr.heap.size wr w' → ∀ t nw, Calls Tryz.prog 11 #[.pointer (some ⟨rb, 0, none⟩), .pointer (some ⟨mb, 0, none⟩), .agg #[.int .i64 (d k).k, .int .i64 (d k).t, .int .i64 (d k).a, (d k).u], .int .i64 t, .int .i64 nw] w' (fun e w'' => e = .returned (.bool true) ∧ ∃ s1, RT (fun _ => False) w.heap.size w w'' rb mb s1 s1)) := Lib.hid (fun w' hb t nw => (do_any (HR.out.below hb) HAS.out (d k).k (d k).t (d k).a t nw).mono (fun e w'' q => ⟨q.1, _, q.2⟩))
        clear hwv HAS HR
        generalize (d k).k = kd at *
        generalize (d k).t = tk at *
        generalize (d k).a = aa at *
        generalize (d k).u = uu at *
        generalize bring aa 9 = b9 at *
        generalize bring kd 10 = bk at *
        have hw1 := now_w (x := now + b9) (by omega) (by omega)
        have hw2 := now_i (x := now + b9) (by omega) (by omega)
        obtain ⟨nw2, hnw2⟩ : ∃ y, y = now + b9 := ⟨_, rfl⟩
        have HNW := Lib.hid hnw2
        clear hnw2
        by_cases ht : tk < 0
        · have ht1 : decide (tk < 0) = true := decide_eq_true ht
          by_cases hb4 : bk < 4
          · have hb41 : decide (bk < 4) = true := decide_eq_true hb4
            go_wp2_with fail
            refine HW.out.mono ?_
            rintro e w6 ⟨rfl, hbw⟩
            have HBW := Lib.hid hbw
            clear hbw HW
            obtain ⟨e0, e1, e2, e3⟩ := HDS.out _ HBW.out
            clear d0 d1 d2 d3
            go_wp2_with fail
            refine (HB.out _).mono ?_
            rintro e w7 ⟨rfl, rfl⟩
            clear HB
            go_wp2_with fail
            refine (HB9.out _).mono ?_
            rintro e w8 ⟨rfl, rfl⟩
            clear HB9
            go_wp2_with fail
            refine (HDO.out _ HBW.out _ _).mono ?_
            rintro e w9 ⟨rfl, s1, hr⟩
            have HR1 := Lib.hid hr
            clear hr HDO HDS e0 e1 e2 e3 HBW
            go_wp2_with fail
            refine (same_any HR1.out _).mono ?_
            rintro e w10 ⟨rfl, hb10⟩
            have HR2 := Lib.hid (HR1.out.below hb10)
            clear hb10 HR1
            go_wp2_with fail
            go_roundw
            case rel => exact ⟨k + 1, s1, now + b9, by omega, by omega, rfl, by go_num, by omega, by omega, HR2⟩
            case measure => simp [intOf]; omega
          · have hb41 : decide (bk < 4) = false := decide_eq_false hb4
            go_wp2_with fail
            refine HW.out.mono ?_
            rintro e w6 ⟨rfl, hbw⟩
            have HBW := Lib.hid hbw
            clear hbw HW
            obtain ⟨e0, e1, e2, e3⟩ := HDS.out _ HBW.out
            clear d0 d1 d2 d3
            go_wp2_with fail
            refine (HB.out _).mono ?_
            rintro e w7 ⟨rfl, rfl⟩
            clear HB
            go_wp2_with fail
            refine (HDO.out _ HBW.out _ _).mono ?_
            rintro e w9 ⟨rfl, s1, hr⟩
            have HR1 := Lib.hid hr
            clear hr HDO HDS e0 e1 e2 e3 HBW
            go_wp2_with fail
            refine (same_any HR1.out _).mono ?_
            rintro e w10 ⟨rfl, hb10⟩
            have HR2 := Lib.hid (HR1.out.below hb10)
            clear hb10 HR1
            go_wp2_with fail
            go_roundw
            case rel => exact ⟨k + 1, s1, now, by omega, by omega, rfl, by go_num, by omega, by omega, HR2⟩
            case measure => simp [intOf]; omega
        · have ht1 : decide (tk < 0) = false := decide_eq_false ht
          by_cases hb4 : bk < 4
          · have hb41 : decide (bk < 4) = true := decide_eq_true hb4
            go_wp2_with fail
            clear HW
            have HBW : Hid (Below wr.heap.size wr wr) := Lib.hid (Below.refl _ _)
            refine (HB.out _).mono ?_
            rintro e w7 ⟨rfl, rfl⟩
            clear HB
            go_wp2_with fail
            refine (HB9.out _).mono ?_
            rintro e w8 ⟨rfl, rfl⟩
            clear HB9
            go_wp2_with fail
            refine (HDO.out _ HBW.out _ _).mono ?_
            rintro e w9 ⟨rfl, s1, hr⟩
            have HR1 := Lib.hid hr
            clear hr HDO HDS d0 d1 d2 d3 HBW
            go_wp2_with fail
            refine (same_any HR1.out _).mono ?_
            rintro e w10 ⟨rfl, hb10⟩
            have HR2 := Lib.hid (HR1.out.below hb10)
            clear hb10 HR1
            go_wp2_with fail
            go_roundw
            case rel => exact ⟨k + 1, s1, now + b9, by omega, by omega, rfl, by go_num, by omega, by omega, HR2⟩
            case measure => simp [intOf]; omega
          · have hb41 : decide (bk < 4) = false := decide_eq_false hb4
            go_wp2_with fail
            clear HW
            have HBW : Hid (Below wr.heap.size wr wr) := Lib.hid (Below.refl _ _)
            refine (HB.out _).mono ?_
            rintro e w7 ⟨rfl, rfl⟩
            clear HB
            go_wp2_with fail
            refine (HDO.out _ HBW.out _ _).mono ?_
            rintro e w9 ⟨rfl, s1, hr⟩
            have HR1 := Lib.hid hr
            clear hr HDO HDS d0 d1 d2 d3 HBW
            go_wp2_with fail
            refine (same_any HR1.out _).mono ?_
            rintro e w10 ⟨rfl, hb10⟩
            have HR2 := Lib.hid (HR1.out.below hb10)
            clear hb10 HR1
            go_wp2_with fail
            go_roundw
            case rel => exact ⟨k + 1, s1, now, by omega, by omega, rfl, by go_num, by omega, by omega, HR2⟩
            case measure => simp [intOf]; omega
      · have HL : Hid (Below w.heap.size w wr) := HR.out.bel
        have HWK := Lib.hid (works_any Q0 wr)
        clear HR
        rcases (show (k < nd ∧ ¬ k < 80) ∨ ¬ k < nd by omega) with ⟨q1, q2⟩ | q1
        · have hd1 : decide ((k : Int) < (nd : Int)) = true := by simp; omega
          have hd2 : decide ((k : Int) < 80) = false := by simp; omega
          go_wp2_with fail
          refine HWK.out.mono ?_
          rintro e w5 ⟨rfl, hb5⟩
          have HB5 : Hid (Below w.heap.size w w5) := Lib.hid (chn HL.out hb5)
          clear hb5 HWK HL
          go_wp2_with fail
          go_ret
          exact ⟨rfl, HB5.out⟩
        · have hd1 : decide ((k : Int) < (nd : Int)) = false := by simp; omega
          go_wp2_with fail
          refine HWK.out.mono ?_
          rintro e w5 ⟨rfl, hb5⟩
          have HB5 : Hid (Below w.heap.size w w5) := Lib.hid (chn HL.out hb5)
          clear hb5 HWK HL
          go_wp2_with fail
          go_ret
          exact ⟨rfl, HB5.out⟩
end Go.Proofs.YtkkmfpllgjoceaaGreat.Ro
