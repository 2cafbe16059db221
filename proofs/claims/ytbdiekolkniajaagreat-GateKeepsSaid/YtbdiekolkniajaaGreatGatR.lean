/- Who runs in a tick. -/
import Derived.Test.YtbdiekolkniajaaGreatGatG
import Derived.BigQuiet
namespace Go.Proofs.YtbdiekolkniajaaGreat
open Go.RowKit Tk De Dl Lo Su Sh Gt
set_option linter.unusedVariables false

theorem pick_cases (l e : Nat → Nat) (n : Nat) : pick l e n = -1 ∨ ∃ m : Nat, pick l e n = m ∧ m < n ∧ 0 < l m := by
  rcases pick_near l e n with ⟨h, _⟩ | ⟨m, h, hm, hp, _⟩
  · exact Or.inl h
  · exact Or.inr ⟨m, h, hm, hp⟩
theorem pick_zero {l e : Nat → Nat} {n : Nat} (h : l n = 0) : pick l e (n + 1) = pick l e n := by
  rw [pick, if_neg (by omega)]
theorem pick_first {l e : Nat → Nat} {n : Nat} (h : 0 < l n) (h1 : pick l e n = -1) : pick l e (n + 1) = (n : Int) := by
  rw [pick, if_pos ⟨h, Or.inl h1⟩]
theorem pick_less {l e : Nat → Nat} {n m : Nat} (h : 0 < l n) (h1 : pick l e n = m) (h2 : e n < e m) : pick l e (n + 1) = (n : Int) := by
  rw [pick, if_pos ⟨h, Or.inr (by rw [h1, Int.toNat_natCast]; exact h2)⟩]
theorem pick_keep {l e : Nat → Nat} {n m : Nat} (h1 : pick l e n = m) (h2 : ¬ e n < e m) : pick l e (n + 1) = (m : Int) := by
  rw [pick, if_neg (by rintro ⟨_, h | h⟩; omega; rw [h1, Int.toNat_natCast] at h; exact h2 h), h1]
theorem run_upd {l e : Nat → Nat} {k m : Nat} (h : pick l e k = m) : runL l e k = upd l m (l m - 1) := funext fun i => by
  unfold runL upd
  by_cases e1 : i = m
  · rw [if_pos (by omega), if_pos e1, e1]
  · rw [if_neg (by omega), if_neg e1]
theorem run_none {l e : Nat → Nat} {k : Nat} (h : pick l e k = -1) : runL l e k = l := funext fun i => by
  unfold runL
  rw [if_neg (by omega)]
/-- what goes does -/
def GoP (W0 : World) (q : Bk) (l e jl je nx : Nat → Nat) (d : Nat) (x : Ending) (w' : World) : Prop := x = .returned (.tuple #[]) ∧
  ∃ jl', MS W0 w' q (runL l e q.k) e jl' je nx d ∧ ((pick l e q.k = -1 ∧ jl' = jl) ∨ ∃ m : Nat, pick l e q.k = m ∧ m < q.k ∧ 0 < l m ∧
    (((∀ x, x < 4 → jl (4 * m + x) = 0) ∧ jl' = jl) ∨ ∃ a, a < 4 ∧ 0 < jl (4 * m + a) ∧ (∀ x, x < 4 → 0 < jl (4 * m + x) → je (4 * m + a) ≤ je (4 * m + x)) ∧ jl' = upd jl (4 * m + a) (jl (4 * m + a) - 1)))
set_option maxRecDepth 100000 in
set_option maxHeartbeats 8000000 in
theorem goes_any {W0 W : World} {q : Bk} {l e jl je nx : Nat → Nat} {d : Nat} (hM : MS W0 W q l e jl je nx d) (hq : q.Ok W0.heap.size) (hl : ∀ i, i < q.k → l i ≤ 64 ∧ e i ≤ 1000) (hB : BD q.k jl je nx) :
    Calls Tryz.prog 10 #[.pointer (some ⟨q.rb, 0, none⟩)] W (GoP W0 q l e jl je nx d) := by
  have mixed : Tryz.prog.follows .mixedOrders = true := by kernel_rfl
  have HM := Lib.hid hM
  have HQ := Lib.hid hq
  have hk4 := hq.k4
  have HBD := Lib.hid hB
  have HL := Lib.hid hl
  clear hM hq hB hl
  go_enter Tryz.func10, Tryz.ntmps10
  go_wp2_with fail
  go_loopw [2, 3] (fun f i wr => ∃ i' : Nat, i' ≤ q.k ∧ i = .int .i64 i' ∧ f = .int .i64 (pick l e i') ∧ Hid (MS W0 wr q l e jl je nx d)) (fun _ i _ => q.k - (intOf i).toNat)
  case atStart => exact ⟨0, Nat.zero_le _, rfl, rfl, HM.out⟩
  case round =>
    clear HM
    obtain ⟨i, hi, rfl, rfl, HM⟩ := hrel
    have c3 : wr.cell? ⟨q.rb, 3, none⟩ = some (.slice (some ⟨q.lb, 0, none⟩) q.k q.k) := HM.out.c 3
    have c4 : wr.cell? ⟨q.rb, 4, none⟩ = some (.slice (some ⟨q.eb, 0, none⟩) q.k q.k) := HM.out.c 4
    by_cases hlt : i < q.k
    · have hiI : (i : Int) < q.k := by omega
      have hi0 : (0 : Int) ≤ i := by omega
      have m0 := (HM.out.l.at hlt).1
      have m1 := (HM.out.e.at hlt).1
      have HPZ := Lib.hid (fun h => pick_zero (l := l) (e := e) (n := i) h)
      have HPF := Lib.hid (fun h => pick_first (l := l) (e := e) (n := i) h)
      have HPL := Lib.hid (fun m h => pick_less (l := l) (e := e) (n := i) (m := m) h)
      have HPK := Lib.hid (fun m => pick_keep (l := l) (e := e) (n := i) (m := m))
      have HPC := Lib.hid (pick_cases l e i)
      obtain ⟨li, hli⟩ : ∃ li, li = l i := ⟨_, rfl⟩
      obtain ⟨ei, hei⟩ : ∃ ei, ei = e i := ⟨_, rfl⟩
      rw [← hli] at m0 HPZ HPF HPL
      rw [← hei] at m1 HPL HPK
      clear hli hei
      obtain ⟨pn, hpn⟩ : ∃ pn, pn = pick l e (i + 1) := ⟨_, rfl⟩
      obtain ⟨pi, hpi⟩ : ∃ pi, pi = pick l e i := ⟨_, rfl⟩
      rw [← hpn] at HPZ HPF HPL HPK
      rw [← hpi] at HPZ HPF HPL HPK HPC ⊢
      have HPN := Lib.hid hpn
      clear hpn hpi
      go_wp2_with fail
      by_cases hlz : 0 < li
      · have g0 : decide ((0 : Int) < li) = true := by simp; omega
        have g0' : decide (0 < li) = true := by simp; omega
        rcases HPC.out with h1 | ⟨m, h1, hm, hmp⟩
        · have HE : Hid (pn = (i : Int)) := HPF.out hlz h1
          subst h1
          clear HPZ HPF HPL HPK HPC
          go_quiet (fail)
          go_wp2_with fail
          go_roundw
          case rel => exact ⟨i + 1, by omega, by go_num, by rw [← HPN.out, HE.out], HM.out.drewN _⟩
          case measure => simp [intOf]; omega
        · have m2 := (HM.out.e.at (show m < q.k by omega)).1
          subst h1
          obtain ⟨em, hem⟩ : ∃ em, em = e m := ⟨_, rfl⟩
          rw [← hem] at m2
          have g1 : decide ((m : Int) < 0) = false := by simp
          have hmI : (m : Int) < q.k := by omega
          have hm0 : (0 : Int) ≤ m := by omega
          by_cases hlm : ei < em
          · have HE : Hid (pn = (i : Int)) := HPL.out m hlz rfl (by rw [← hem]; exact hlm)
            have g2 : decide ((ei : Int) < em) = true := by simp; omega
            have g2' : decide (ei < em) = true := by simp; omega
            clear HPZ HPF HPL HPK HPC hem
            go_quiet (fail)
            go_wp2_with fail
            go_roundw
            case rel => exact ⟨i + 1, by omega, by go_num, by rw [← HPN.out, HE.out], HM.out.drewN _⟩
            case measure => simp [intOf]; omega
          · have HE : Hid (pn = (m : Int)) := HPK.out m rfl (by rw [← hem]; exact hlm)
            have g2 : decide ((ei : Int) < em) = false := by simp; omega
            have g2' : decide (ei < em) = false := by simp; omega
            clear HPZ HPF HPL HPK HPC hem
            go_quiet (fail)
            go_wp2_with fail
            go_roundw
            case rel => exact ⟨i + 1, by omega, by go_num, by rw [← HPN.out, HE.out], HM.out.drewN _⟩
            case measure => simp [intOf]; omega
      · have g0 : decide ((0 : Int) < li) = false := by simp; omega
        have g0' : decide (0 < li) = false := by simp; omega
        have HE : Hid (pn = pi) := HPZ.out (by omega)
        clear HPZ HPF HPL HPK HPC
        go_quiet (fail)
        go_wp2_with fail
        go_roundw
        case rel => exact ⟨i + 1, by omega, by go_num, by rw [← HPN.out, HE.out], HM.out.drewN _⟩
        case measure => simp [intOf]; omega
    · obtain rfl : i = q.k := by omega
      rcases pick_cases l e q.k with h1 | ⟨m, h1, hm, hmp⟩
      · have HR := Lib.hid (run_none h1)
        have HP := Lib.hid h1
        rw [h1]
        clear h1
        go_wp2_with fail
        go_end0
        exact ⟨rfl, jl, by rw [HR.out]; exact HM.out, Or.inl ⟨HP.out, rfl⟩⟩
      · have HR := Lib.hid (run_upd h1)
        have HP := Lib.hid h1
        rw [h1]
        have hmI : (m : Int) < q.k := by omega
        have hm0 : (0 : Int) ≤ m := by omega
        have hmf : decide ((m : Int) < 0) = false := by simp
        have hl64 := (HL.out m hm).1
        obtain ⟨m0, m1⟩ := HM.out.l.at hm
        have HLM := Lib.hid hmp
        obtain ⟨lm, hlm⟩ : ∃ lm, lm = l m := ⟨_, rfl⟩
        rw [← hlm] at m0 hmp hl64
        obtain ⟨X, hX⟩ : ∃ X : Nat, (lm : Int) - 1 = (X : Int) := ⟨lm - 1, by omega⟩
        have HM2 : Hid (MS W0 (wr.setCell ⟨q.lb, m, none⟩ (.int .i64 (X : Nat))).drew q (runL l e q.k) e jl je nx d) := by
          rw [HR.out, show l m - 1 = X by omega]
          exact (HM.out.setL HQ.out hm X).drew
        have n0 : wr.drew.cell? ⟨q.lb, m, none⟩ = some (.int .i64 (lm : Nat)) := m0
        have n1 : wr.drew.frozen? ⟨q.lb, m, none⟩ = false := m1
        have n2 : wr.drew.cell? ⟨q.rb, 3, none⟩ = some (.slice (some ⟨q.lb, 0, none⟩) q.k q.k) := c3
        have HX64 : Hid (X ≤ 64) := by unfold Hid; omega
        clear h1 hlm HR
        go_wp2_with fail
        clear m0 m1 c3 c4
        refine wp_region_still_tail 14 mixed (by kernel_rfl) ?_
        simp only [List.take_succ_cons, List.take_zero, List.drop_succ_cons, List.drop_zero]
        change wpStill _ _ wr.drew _ _ _
        repeat still_step
        refine wpStill_nil ?_
        clear n2 HM
        obtain ⟨M, hM4⟩ : ∃ M : Nat, (4 : Int) * (m : Int) = (M : Int) := ⟨4 * m, by push_cast; rfl⟩
        have HM4 : Hid (M = 4 * m) := by unfold Hid; omega
        have hw4 : wrap64 ((4 : Int) * (m : Int)) = (M : Int) := by rw [hM4]; exact wrap_nat (by omega)
        obtain ⟨M4, hMM⟩ : ∃ M4 : Nat, (M : Int) + 4 = (M4 : Int) := ⟨M + 4, by push_cast; rfl⟩
        have HMM : Hid (M4 = M + 4) := by unfold Hid; omega
        have hMk : M4 ≤ 4 * q.k := by omega
        have hM16 : M4 ≤ 16 := by omega
        have HMI := Lib.hid hM4
        clear hM4 hw4
        go_wp2_with fail
        go_loopw [4, 5] (fun jv kv wr => ∃ (x c : Nat) (jn : Int), x ≤ 4 ∧ c = M + x ∧ kv = .int .i64 (c : Nat) ∧ jv = .int .i64 jn ∧ ((pick (fun y => jl (4 * m + y)) (fun y => je (4 * m + y)) x = -1 ∧ jn = -1) ∨ ∃ y c2 : Nat, pick (fun y => jl (4 * m + y)) (fun y => je (4 * m + y)) x = (y : Nat) ∧ y < x ∧ c2 = M + y ∧ jn = (c2 : Nat)) ∧ Hid (MS W0 wr q (runL l e q.k) e jl je nx d)) (fun _ kv _ => M4 - (intOf kv).toNat)
        case atStart => exact ⟨0, M, -1, by omega, by omega, by rw [HMI.out], rfl, Or.inl ⟨rfl, rfl⟩, HM2.out⟩
        case round =>
          clear HM2 n0 n1
          obtain ⟨x, c, jn, hx4, hc, rfl, rfl, hj, HM⟩ := hrel
          have HC := Lib.hid hc
          have c5 : wr.cell? ⟨q.rb, 5, none⟩ = some (.slice (some ⟨q.jb, 0, none⟩) (4 * q.k) (4 * q.k)) := HM.out.c 5
          have HPC := Lib.hid (pick_near (fun y => jl (4 * m + y)) (fun y => je (4 * m + y)) x)
          by_cases hlt : x < 4
          · have hcm : c < M4 := by have := HMM.out; omega
            have hck : c < 4 * q.k := by omega
            have hcI : (c : Int) < 4 * q.k := by omega
            have hcI2 : (c : Int) < ((4 * q.k : Nat) : Int) := by omega
            have hcI3 : (c : Int) < 4 * (m : Int) + 4 := by have := HMI.out; have := HMM.out; omega
            have hcD : decide ((c : Int) < 4 * (m : Int) + 4) = true := by simp; omega
            have hc0 : (0 : Int) ≤ c := by omega
            obtain ⟨m1, m0, _, _⟩ := HM.out.j.at hck
            have HPZ := Lib.hid (fun h => pick_zero (l := fun y => jl (4 * m + y)) (e := fun y => je (4 * m + y)) (n := x) h)
            have HPF := Lib.hid (fun h => pick_first (l := fun y => jl (4 * m + y)) (e := fun y => je (4 * m + y)) (n := x) h)
            have HPL := Lib.hid (fun m' h => pick_less (l := fun y => jl (4 * m + y)) (e := fun y => je (4 * m + y)) (n := x) (m := m') h)
            have HPK := Lib.hid (fun m' => pick_keep (l := fun y => jl (4 * m + y)) (e := fun y => je (4 * m + y)) (n := x) (m := m'))
            try dsimp only at HPZ HPF HPL HPK
            have hcx : 4 * m + x = c := by have := HM4.out; omega
            rw [hcx] at HPZ HPF HPL HPK
            obtain ⟨li, hli⟩ : ∃ li, li = jl c := ⟨_, rfl⟩
            obtain ⟨ei, hei⟩ : ∃ ei, ei = je c := ⟨_, rfl⟩
            rw [← hli] at m0 HPZ HPF HPL
            rw [← hei] at m1 HPL HPK
            clear hli hei hcx HPC
            obtain ⟨pn, hpn⟩ : ∃ pn, pn = pick (fun y => jl (4 * m + y)) (fun y => je (4 * m + y)) (x + 1) := ⟨_, rfl⟩
            obtain ⟨pi, hpi⟩ : ∃ pi, pi = pick (fun y => jl (4 * m + y)) (fun y => je (4 * m + y)) x := ⟨_, rfl⟩
            rw [← hpn] at HPZ HPF HPL HPK
            rw [← hpi] at HPZ HPF HPL HPK hj
            have HPN := Lib.hid hpn
            clear hpn hpi hc
            by_cases hlz : 0 < li
            · have g0 : decide ((0 : Int) < li) = true := by simp; omega
              have g0' : decide (0 < li) = true := by simp; omega
              rcases hj with ⟨h1, rfl⟩ | ⟨y, c2, h1, hy, hc2, rfl⟩
              · have HE : Hid (pn = (x : Int)) := HPF.out hlz h1
                clear HPZ HPF HPL HPK h1
                go_wp2_with fail
                go_quiet (fail)
                go_wp2_with fail
                go_roundw
                case rel => exact ⟨x + 1, c + 1, _, by omega, by have := HC.out; omega, by go_num, rfl, Or.inr ⟨x, c, by rw [← HPN.out, HE.out], by omega, HC.out, rfl⟩, HM.out.drewN _⟩
                case measure => simp [intOf]; omega
              · have hc2k : c2 < 4 * q.k := by have := HMM.out; omega
                have HC2 := Lib.hid hc2
                clear hc2
                obtain ⟨m2, _, _, _⟩ := HM.out.j.at hc2k
                obtain ⟨em, hem⟩ : ∃ em, em = je c2 := ⟨_, rfl⟩
                rw [← hem] at m2
                have g1 : decide ((c2 : Int) < 0) = false := by simp
                have h2I : (c2 : Int) < 4 * q.k := by omega
                have h2I2 : (c2 : Int) < ((4 * q.k : Nat) : Int) := by omega
                have h20 : (0 : Int) ≤ c2 := by omega
                have hye : je (4 * m + y) = em := by rw [hem]; congr 1; have := HM4.out; have := HC2.out; omega
                by_cases hlm : ei < em
                · have HE : Hid (pn = (x : Int)) := HPL.out y hlz h1 (by rw [hye]; exact hlm)
                  have g2 : decide ((ei : Int) < em) = true := by simp; omega
                  have g2' : decide (ei < em) = true := by simp; omega
                  clear HPZ HPF HPL HPK hem h1 hye
                  go_wp2_with fail
                  go_quiet (fail)
                  go_wp2_with fail
                  go_roundw
                  case rel => exact ⟨x + 1, c + 1, _, by omega, by have := HC.out; omega, by go_num, rfl, Or.inr ⟨x, c, by rw [← HPN.out, HE.out], by omega, HC.out, rfl⟩, HM.out.drewN _⟩
                  case measure => simp [intOf]; omega
                · have HE : Hid (pn = (y : Int)) := HPK.out y h1 (by rw [hye]; exact hlm)
                  have g2 : decide ((ei : Int) < em) = false := by simp; omega
                  have g2' : decide (ei < em) = false := by simp; omega
                  clear HPZ HPF HPL HPK hem h1 hye
                  go_wp2_with fail
                  go_quiet (fail)
                  go_wp2_with fail
                  go_roundw
                  case rel => exact ⟨x + 1, c + 1, _, by omega, by have := HC.out; omega, by go_num, rfl, Or.inr ⟨y, c2, by rw [← HPN.out, HE.out], by omega, HC2.out, rfl⟩, HM.out.drewN _⟩
                  case measure => simp [intOf]; omega
            · have g0 : decide ((0 : Int) < li) = false := by simp; omega
              have g0' : decide (0 < li) = false := by simp; omega
              have HE : Hid (pn = pi) := HPZ.out (by omega)
              clear HPZ HPF HPL HPK
              have HJ : Hid ((pick (fun y => jl (4 * m + y)) (fun y => je (4 * m + y)) (x + 1) = -1 ∧ jn = -1) ∨ ∃ y c2 : Nat, pick (fun y => jl (4 * m + y)) (fun y => je (4 * m + y)) (x + 1) = (y : Nat) ∧ y < x + 1 ∧ c2 = M + y ∧ jn = (c2 : Nat)) := by
                rw [← HPN.out, HE.out]
                rcases hj with hj | ⟨y, c2, h1, h2, h3, h4⟩
                · exact Or.inl hj
                · exact Or.inr ⟨y, c2, h1, by omega, h3, h4⟩
              clear hj
              go_wp2_with fail
              go_quiet (fail)
              go_wp2_with fail
              go_roundw
              case rel => exact ⟨x + 1, c + 1, _, by omega, by have := HC.out; omega, by go_num, rfl, HJ.out, HM.out.drewN _⟩
              case measure => simp [intOf]; omega
          · obtain rfl : x = 4 := by omega
            have hcm : decide ((c : Int) < 4 * (m : Int) + 4) = false := by have := HMI.out; simp; omega
            clear hc
            rcases hj with ⟨h1, rfl⟩ | ⟨y, c2, h1, hy, hc2, rfl⟩
            · have HZ : Hid (∀ x, x < 4 → jl (4 * m + x) = 0) := by
                rcases HPC.out with ⟨_, h2⟩ | ⟨m', h2, _⟩
                · exact h2
                · rw [h1] at h2; omega
              clear HPC h1
              go_wp2_with fail
              go_end0
              exact ⟨rfl, jl, HM.out, Or.inr ⟨m, HP.out, hm, HLM.out, Or.inl ⟨HZ.out, rfl⟩⟩⟩
            · have HZ : Hid (0 < jl (4 * m + y) ∧ ∀ x, x < 4 → 0 < jl (4 * m + x) → je (4 * m + y) ≤ je (4 * m + x)) := by
                rcases HPC.out with ⟨h2, _⟩ | ⟨m', h2, _, h4, h5⟩
                · rw [h1] at h2; omega
                · rw [h1] at h2
                  obtain rfl : y = m' := by omega
                  exact ⟨h4, h5⟩
              have HY := Lib.hid hy
              have HCE : Hid (4 * m + y = c2) := by unfold Hid; have := HM4.out; omega
              have hc2k : c2 < 4 * q.k := by have := HMM.out; omega
              clear HPC h1 hc2 hy
              obtain ⟨_, j1, _, g1⟩ := HM.out.j.at hc2k
              have hl64 := (HBD.out c2 hc2k).1
              have hlp : 0 < jl c2 := by have := HZ.out.1; rw [HCE.out] at this; exact this
              obtain ⟨lm, hlm⟩ : ∃ lm, lm = jl c2 := ⟨_, rfl⟩
              rw [← hlm] at j1 hlp hl64
              obtain ⟨Y, hY⟩ : ∃ Y : Nat, (lm : Int) - 1 = (Y : Int) := ⟨lm - 1, by omega⟩
              have HM3 : Hid (MS W0 (wr.setCell ⟨q.jb, c2 * 2 + 1, none⟩ (.int .i64 (Y : Nat))).drew q (runL l e q.k) e (upd jl c2 (jl c2 - 1)) je nx d) := by
                rw [show jl c2 - 1 = Y by omega]
                exact (HM.out.setK HQ.out hc2k Y).drew
              have p0 : wr.drew.cell? ⟨q.jb, c2 * 2 + 1, none⟩ = some (.int .i64 (lm : Nat)) := j1
              have p1 : wr.drew.frozen? ⟨q.jb, c2 * 2 + 1, none⟩ = false := g1
              have p2 : wr.drew.cell? ⟨q.rb, 5, none⟩ = some (.slice (some ⟨q.jb, 0, none⟩) (4 * q.k) (4 * q.k)) := c5
              have h2I : (c2 : Int) < 4 * q.k := by omega
              have h2I2 : (c2 : Int) < ((4 * q.k : Nat) : Int) := by omega
              have h20 : (0 : Int) ≤ c2 := by omega
              have g2 : decide ((0 : Int) ≤ c2) = true := by simp
              clear hlm
              go_wp2_with fail
              clear j1 g1 c5
              refine wp_region_still_tail 16 mixed (by kernel_rfl) ?_
              simp only [List.take_succ_cons, List.take_zero, List.drop_succ_cons, List.drop_zero]
              change wpStill _ _ wr.drew _ _ _
              repeat still_step
              refine wpStill_nil ?_
              clear p2 HM
              go_wp2_with fail
              go_end0
              exact ⟨rfl, _, HM3.out, Or.inr ⟨m, HP.out, hm, HLM.out, Or.inr ⟨y, by have := HY.out; omega, HZ.out.1, HZ.out.2, by rw [HCE.out]⟩⟩⟩
end Go.Proofs.YtbdiekolkniajaaGreat
