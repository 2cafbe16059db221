/- P18.7: RoomFree's walk. -/
import Derived.Test.YtkkmfpllgjoceaaGreatRooZ
namespace Go.Proofs.YtkkmfpllgjoceaaGreat.Ro
open Go.RowKit Go.Sort Ac Jo
set_option linter.unusedVariables false
set_option maxRecDepth 100000

theorem is_step {w : World} {n cap : Nat} {a : Option Addr} {xs : List Int} (h : St.IS w (.slice a n cap) xs) {i : Nat} (hi : i < n) : ∃ b off x, a = some ⟨b, off, none⟩ ∧ w.cell? ⟨b, off + i, none⟩ = some (.int .i64 x) := by
  obtain ⟨b, off, e, h1⟩ := h.at hi
  exact ⟨b, off, _, e, h1⟩
theorem wrap_small {x : Nat} (h : x ≤ 1000) : wrap64 (x : Int) = x := by unfold wrap64; omega
theorem PS.dead {X : Nat → Option Obj} {B : Nat} {W wr : World} {pb rb : Nat} {tv ov : Value} {n j : Nat} {s : Rm} {now : Int} {O : List Int} (h : PS X B W wr pb rb tv n j s now O ov) (t : Int) {v : Value} (e : deadV s t = v) :
    Calls Tryz.prog 17 #[.pointer (some ⟨rb, 0, none⟩), .int .i64 t] wr (VB v wr) := by
  obtain ⟨S, h1⟩ := h.pl.rm.at
  rw [← e]
  exact Q0.dead h1 h.pl.rm.iv t
set_option maxHeartbeats 8000000 in
theorem free_any {w : World} {v u : Value} {n : Nat} {z : Nat → Nat → Int} {xs : List Int} (h : St.TK w v n z) (hx : St.IS w u xs) : Calls Tryz.prog 4 #[v, u] w (TrueB w) := by
  obtain ⟨ua, ucap, rfl, hu1, hu2⟩ := hx.slice
  have hmx : xs.length ≤ 9223372036854775807 := by unfold maxLen at hu2; omega
  have HT := Lib.hid h
  have HX := Lib.hid hx
  obtain ⟨N, hN⟩ : ∃ N, N = xs.length := ⟨_, rfl⟩
  rw [← hN] at HX hmx ⊢
  clear h hx hN hu1 hu2
  go_enter Tryz.func4, Tryz.ntmps4
  go_wp2_with fail
  refine (works_any Q0 w).mono ?_
  rintro e w1 ⟨rfl, hb⟩
  have HB1 := Lib.hid hb
  clear hb
  go_wp2_with fail
  refine (made_any (HT.out.below HB1.out)).mono ?_
  rintro e w2 ⟨r, rfl, hnt, hb⟩
  obtain ⟨m, hm⟩ : ∃ m, m = min n 4 := ⟨_, rfl⟩
  rw [← hm] at hnt
  have hm4 : m ≤ 4 := by omega
  obtain ⟨ta, tc, rfl⟩ := St.own_slice hnt
  have HB2 := Lib.hid (HB1.out.trans (hb.mono HB1.out.size))
  have HNT : Hid (St.NT w2 w.heap.size (.slice ta m tc) m (ym z)) := St.own_base hnt HB1.out.size
  clear hnt hb hm HB1
  go_wp2_with fail
  refine (of_new Q0 HB2.out (Nat.le_refl _) (F := fun k => (Value.slice ta m tc).ownBlock = some k) (fun k hk => (own_ge HNT.out k hk).2) (St.NT.tk HNT.out) hm4 (fun i _ => ym_tok z i) (fun i _ => ym_z7 z i)).mono ?_
  rintro e w3 ⟨rb, rfl, hof, hk3, hb3⟩
  have HOF := Lib.hid hof
  have HNT3 : Hid (St.NT w3 w.heap.size (.slice ta m tc) m (ym z)) := row_keep HNT.out hk3
  have HB3 : Hid (Below w.heap.size w w3) := HB2.out.trans (hb3.mono HB2.out.size)
  clear hof hk3 hb3 HNT HB2
  have hmk := run_make_row' (P := Tryz.prog) 41 3 (.int .i64 0) 8 Tryz.underlying41 infoI3 rfl .i64 .i64 m (by omega) (by omega)
  have hbm := below_al w3 (.cells (madeCells #[.int .i64 0] m) 3)
  have HCK := Dm.check_any (v := .slice ta m tc) (z := ym z) (n := m) ((St.NT.tk HNT3.out).below hbm) (zeros_is (heap_alloc_new w3 (.cells (madeCells #[.int .i64 0] m) 3)) hm4)
  rw [chk_yes hm4 (fun i _ => ym_tok z i)] at HCK
  have HCK := Lib.hid HCK
  have HBM := Lib.hid hbm
  clear hbm
  go_wp2_with fail
  refine HCK.out.mono ?_
  rintro e w4 ⟨rfl, hb⟩
  have hb34 : Below w3.heap.size w3 w4 := chn HBM.out hb
  have HPL := Lib.hid (PL.begin (HOF.out.below hb34) (row_keep HNT3.out (fun k hk => hb34.block k (own_ge HNT3.out k hk).2)) (by have := HB3.out.size; have := hb34.size; omega))
  have HPS : Hid (PS (fun _ => none) w.heap.size w (w4.alloc (.cells #[.pointer (some ⟨rb, 0, none⟩), .slice ta m tc, .int .i64 0, .slice none 0 0] 46)) w4.heap.size rb (.slice ta m tc) m 0 (noRm m (ym z)) 0 [] (.slice none 0 0)) :=
    ⟨HPL.out, Pl.no (Rinv.no hm4 (fun i _ => ym_tok z i) (fun i _ => ym_z7 z i)) (Int.le_refl _), Ord.nil, Int.le_refl _, Nat.le_refl _, rfl⟩
  have HB5 : Hid (Below w.heap.size w (w4.alloc (.cells #[.pointer (some ⟨rb, 0, none⟩), .slice ta m tc, .int .i64 0, .slice none 0 0] 46))) := by
    have h4 := HB3.out.trans (hb34.mono HB3.out.size)
    exact h4.alloc h4.size _
  clear hb hb34 HCK HBM HOF HNT3 HB3 HPL hmk
  obtain ⟨W5, hW5⟩ : ∃ W5, W5 = (w4.alloc (.cells #[.pointer (some ⟨rb, 0, none⟩), .slice ta m tc, .int .i64 0, .slice none 0 0] 46)) := ⟨_, rfl⟩
  rw [← hW5] at HPS HB5
  have HW5 := Lib.hid hW5
  clear hW5
  go_upto_region 8 with (fail)
  rw [← HW5.out]
  clear HW5
  generalize w4.heap.size = pb at *
  go_wp2_with fail
  go_loopw [9] (fun i wr => ∃ (j : Nat) (s : Rm) (now : Int) (O : List Int) (ov : Value), j ≤ N ∧ j ≤ 150 ∧ i = .int .i64 j ∧ Hid (PS (fun _ => none) w.heap.size w wr pb rb (.slice ta m tc) m j s now O ov)) (fun i _ => 150 - (intOf i).toNat)
  case atStart => exact ⟨0, _, _, _, _, Nat.zero_le _, Nat.zero_le _, rfl, HPS.out⟩
  case round =>
    clear HPS HB5
    obtain ⟨j, s, now, O, ov, hj, hj2, rfl, HP⟩ := hrel
    have HBr : Hid (Below w.heap.size w wr) := HP.out.pl.rm.bel
    by_cases hlt : j < N ∧ j < 150
    · obtain ⟨hlt, hl2⟩ := hlt
      have hd1 : decide ((j : Int) < (N : Int)) = true := by simp; omega
      have hd2 : decide ((j : Int) < 150) = true := by simp; omega
      obtain ⟨xb, xo, x, rfl, cx⟩ := is_step (HX.out.below HBr.out) hlt
      have HBG := Lib.hid (fun W => bring_any x 9600 W (by decide) (by decide))
      have hbd := bring_bd x 9600 (by decide)
      have HST := Lib.hid (HP.out.step hl2 hbd.1 hbd.2)
      generalize stepS s now (bring x 9600) = s1 at *
      generalize stepN s now (bring x 9600) = now1 at *
      generalize stepO s (bring x 9600) O = O1 at *
      generalize bring x 9600 = y at *
      clear hbd
      go_wp2_with fail
      refine (HBG.out _).mono ?_
      rintro e w5 ⟨rfl, rfl⟩
      clear cx
      go_wp2_with fail
      refine HST.out.mono ?_
      rintro e w6 ⟨rfl, ov1, hps⟩
      have HP1 := Lib.hid hps
      clear hps HST HP HBG HBr
      go_wp2_with fail
      go_loopw [10] (fun i wi => ∃ kk : Nat, 1 ≤ kk ∧ (kk ≤ O1.length ∨ kk = 1) ∧ i = .int .i64 kk ∧ Hid (PS (fun _ => none) w.heap.size w wi pb rb (.slice ta m tc) m (j + 1) s1 now1 O1 ov1)) (fun i _ => O1.length + 1 - (intOf i).toNat)
      case atStart => exact ⟨1, Nat.le_refl _, Or.inr rfl, rfl, HP1.out⟩
      case round =>
        clear HP1
        obtain ⟨kk, hk1, hk2, rfl, HQ⟩ := hrel
        obtain ⟨c0, c1, c2, c3⟩ := HQ.out.pl.cells
        obtain ⟨oa, oc, hov, hol, _⟩ := (od_is HQ.out.pl).slice
        subst hov
        clear c0 c1 c2
        by_cases hlt2 : kk < O1.length
        · obtain ⟨jj, hjj⟩ : ∃ jj : Nat, (kk : Int) - 1 = (jj : Int) := ⟨kk - 1, by omega⟩
          obtain ⟨ob, oo, rfl, d1, d2⟩ := is_two (od_is HQ.out.pl) (i := jj) (j := kk) (by omega) hlt2
          have HD1 := Lib.hid (HQ.out.dead _ (ord_dead HQ.out.hp HQ.out.od (k := jj) (by omega)))
          have HD2 : Hid (∀ w', Below wr.heap.size wr w' → Calls Tryz.prog 17 #[.pointer (some ⟨rb, 0, none⟩), .int .i64 (O1.getD kk 0)] w' (VB (.tuple #[.int .i64 (s1.dl (O1.getD kk 0)), .bool true]) w')) := fun w' hb => (HQ.out.below hb).dead _ (ord_dead HQ.out.hp HQ.out.od (k := kk) hlt2)
          have hle : s1.dl (O1.getD kk 0) ≤ s1.dl (O1.getD jj 0) := by
            have := HQ.out.od.at (k := jj) (by omega)
            rw [show jj + 1 = kk by omega] at this
            exact this
          have hgt : decide (s1.dl (O1.getD jj 0) < s1.dl (O1.getD kk 0)) = false := by simpa using hle
          have hjn : jj < O1.length := by omega
          have hol1 := HQ.out.ol
          have hkb : kk ≤ 151 := by omega
          have hk0 : ((jj : Nat) : Int) < ((O1.length : Nat) : Int) := by omega
          have hjs : jj ≤ 1000 := by omega
          have hwj : wrap64 (jj : Int) = (jj : Int) := wrap_small hjs
          clear hol1 hjs
          have HK : Hid (∀ w', Below wr.heap.size wr w' → w'.cell? ⟨pb, 0 + 3, none⟩ = some (.slice (some ⟨ob, oo, none⟩) O1.length oc) ∧ w'.cell? ⟨ob, oo + kk, none⟩ = some (.int .i64 (O1.getD kk 0))) := fun w' hb => ⟨(hb.cell (lt_of_cell c3)).trans c3, (hb.cell (lt_of_cell d2)).trans d2⟩
          generalize s1.dl (O1.getD jj 0) = x1 at *
          generalize s1.dl (O1.getD kk 0) = x2 at *
          generalize O1.getD jj 0 = t1 at *
          generalize O1.getD kk 0 = t2 at *
          generalize hL : O1.length = L at *
          have HL := Lib.hid hL
          clear hL hle d2 hol
          go_wp2_with fail
          refine HD1.out.mono ?_
          rintro e w7 ⟨rfl, hb7⟩
          obtain ⟨c3b, d2b⟩ := HK.out _ hb7
          have HB7 := Lib.hid hb7
          clear hb7 HD1 c3 d1 hwj
          go_wp2_with fail
          refine (HD2.out _ HB7.out).mono ?_
          rintro e w8 ⟨rfl, hb8⟩
          have HQ8 := Lib.hid (HQ.out.below (chn HB7.out hb8))
          clear hb8 HD2 c3b d2b HB7 HK HQ
          go_wp2_with fail
          go_roundw
          case rel => exact ⟨kk + 1, by omega, Or.inl (by omega), by go_num, HQ8.out⟩
          case measure => simp [intOf]; omega
        · have hlt3 : decide ((kk : Int) < ((O1.length : Nat) : Int)) = false := by simp; omega
          have HQ1 : Hid (PS (fun _ => none) w.heap.size w wr pb rb (.slice ta m tc) m (j + 1) s1 now1 O1 (.slice oa O1.length oc)) := HQ.out
          generalize hL : O1.length = L at *
          clear hL
          go_wp2_with fail
          go_roundw
          case rel => exact ⟨j + 1, s1, now1, O1, _, by omega, by omega, by go_num, HQ1.out⟩
          case measure => simp [intOf]; omega
    · have HF : Hid (TrueB w (.returned (.bool true)) wr) := ⟨rfl, HBr.out⟩
      clear HP HBr
      rcases (show (j < N ∧ ¬ j < 150) ∨ ¬ j < N by omega) with ⟨q1, q2⟩ | q1
      · have hd1 : decide ((j : Int) < (N : Int)) = true := by simp; omega
        have hd2 : decide ((j : Int) < 150) = false := by simp; omega
        go_wp2_with fail
        go_ret
        exact HF.out
      · have hd1 : decide ((j : Int) < (N : Int)) = false := by simp; omega
        go_wp2_with fail
        go_ret
        exact HF.out
end Go.Proofs.YtkkmfpllgjoceaaGreat.Ro
