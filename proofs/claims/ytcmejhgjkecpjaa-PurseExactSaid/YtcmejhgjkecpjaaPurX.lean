/- PurseExact. -/
import Derived.Test.YtcmejhgjkecpjaaPurB
import Derived.Test.YtcmejhgjkecpjaaPurO
namespace Go.Proofs.Ytcmejhgjkecpjaa
open Go.RowKit Pu
set_option linter.unusedVariables false
set_option maxRecDepth 100000

/-- at the head of a tick: nobody has left; ch has been charged in this period, whose budget is bu, that ends at en, at n or behind; sh was short -/
structure Ex (n : Int) (s : St) (ch bu sh en : Int) : Prop where
  ov : s.ov = false
  lv : s.lv = false
  c0 : 0 ≤ ch
  b : s.b = bu
  h : s.sh = sh
  e : s.e = en
  c : s.n = bu - ch
  le : n ≤ en
  q : n ≤ 37 → s.q = 0
/-- behind its Turn -/
structure Ey (n : Int) (s : St) (ch bu sh en : Int) : Prop where
  ov : s.ov = false
  lv : s.lv = false
  c0 : 0 ≤ ch
  b : s.b = bu
  h : s.sh = sh
  e : s.e = en
  c : s.n = bu - ch
  lt : n < en
  q : n ≤ 37 → s.q = 0
/-- behind a Change, if there was one -/
structure Ez (n : Int) (s : St) (ch bu sh en : Int) : Prop where
  ov : s.ov = false
  lv : s.lv = false
  c0 : 0 ≤ ch
  b : s.b = bu
  h : s.sh = sh
  e : s.e = en
  c : s.n = bu - ch
  lt : n < en
  q : n < 37 → s.q = 0
theorem Ex.turn {k : Nat} {n : Int} {s : St} {ch bu sh en : Int} (h : Ex n s ch bu sh en) (ok : Ok k s) : (n < en ∧ tuB s n = false ∧ tuE s n = 0 ∧ tuS s n = s ∧ Ey n s ch bu sh en) ∨ (en = n ∧ tuB s n = true ∧ tuE s n = 0 ∧ ∃ s1 p1 b1, tuS s n = s1 ∧ s1.p = p1 ∧ s1.b = b1 ∧ (1 ≤ p1 ∧ p1 ≤ 64) ∧ (1 ≤ b1 ∧ b1 ≤ p1) ∧ Ey n s1 0 b1 (sh + bu - ch) (n + p1)) := by
  obtain ⟨hov, hlv, hc0, rfl, rfl, rfl, hc, hle, hq⟩ := h
  rcases tu_cases s n with ⟨h1, _⟩ | ⟨_, h1, _⟩ | ⟨_, h1, e1, e2, e3⟩ | ⟨_, h1, e1, e2, e3⟩
  · rw [hov] at h1; cases h1
  · omega
  · exact Or.inl ⟨h1, e2, e1, e3, hov, hlv, hc0, rfl, rfl, rfl, hc, h1, hq⟩
  · refine Or.inr ⟨h1, e2, e1, _, _, _, e3, rfl, rfl, ?_⟩
    have p1 := ok.m.1.1
    rcases ended_cases s n with ⟨q1, _⟩ | ⟨q1, q2, e⟩ | ⟨q1, q2, e⟩
    · rw [hlv] at q1; cases q1
    · rw [e]
      exact ⟨ok.m.1, ok.m.2, hov, hlv, Int.le_refl _, rfl, by show s.sh + s.n = _; omega, rfl, by show s.b = s.b - 0; omega, by show n < n + s.p; omega, fun _ => q2⟩
    · rw [e]
      have hm : may s.q s.r := by rcases ok.q with h | h; exact absurd h q2; exact h
      have p2 := hm.1.1
      exact ⟨hm.1, hm.2, hov, hlv, Int.le_refl _, rfl, by show s.sh + s.n = _; omega, rfl, by show s.r = s.r - 0; omega, by show n < n + s.q; omega, fun _ => rfl⟩
section
variable {n : Int} {s : St} {ch bu sh en : Int}
theorem Ey.skip (h : Ey n s ch bu sh en) (hn : n ≠ 37) : Ez n s ch bu sh en := ⟨h.ov, h.lv, h.c0, h.b, h.h, h.e, h.c, h.lt, fun hn => h.q (by omega)⟩
theorem Ey.change {p : Int} (h : Ey n s ch bu sh en) (hn : n = 37) (h1 : 1 ≤ p) (h2 : p ≤ 64) : cgE s p 1 = 0 ∧ ∃ s1, cgS s p 1 = s1 ∧ Ez n s1 ch bu sh en := by
  have hb : ¬ busy s := by
    rintro (x | x | x)
    · rw [h.ov] at x; cases x
    · rw [h.lv] at x; cases x
    · exact x (h.q (by omega))
  obtain ⟨e1, e2⟩ := cg_yes hb (p := p) (b := 1) ⟨⟨h1, h2⟩, by omega, h1⟩
  exact ⟨e1, _, e2, h.ov, h.lv, h.c0, h.b, h.h, h.e, h.c, h.lt, fun hn => absurd hn (by omega)⟩
theorem Ez.charge {k : Nat} (h : Ez n s ch bu sh en) (ok : Ok k s) : (ch < bu ∧ chE s = 0 ∧ ∃ s1, chS s = s1 ∧ Ez n s1 (ch + 1) bu sh en) ∨ (ch = bu ∧ chE s = 8 ∧ chS s = s) := by
  have hc := h.c
  have h0 := h.c0
  have n0 := ok.n0
  rcases ch_cases s with ⟨h1, _⟩ | ⟨_, h1, e1, e2⟩ | ⟨_, h1, e1, e2⟩
  · rw [h.ov] at h1; cases h1
  · exact Or.inr ⟨by omega, e1, e2⟩
  · exact Or.inl ⟨by omega, e1, _, e2, h.ov, h.lv, by omega, h.b, h.h, h.e, by show s.n - 1 = bu - (ch + 1); omega, h.lt, h.q⟩
theorem Ez.next (h : Ez n s ch bu sh en) : Ex (n + 1) s ch bu sh en := ⟨h.ov, h.lv, h.c0, h.b, h.h, h.e, h.c, by have := h.lt; omega, fun hn => h.q (by omega)⟩
/-- ranges, for the walk -/
theorem Ex.nums {k : Nat} (h : Ex n s ch bu sh en) (ok : Ok k s) : (0 ≤ ch ∧ ch ≤ bu) ∧ bu ≤ 64 ∧ (0 ≤ sh ∧ sh ≤ 64 * k) := by
  obtain ⟨hov, hlv, hc0, rfl, rfl, rfl, hc, hle, hq⟩ := h
  have := ok.n0
  have a1 := ok.m.2.2
  have a2 := ok.m.1.2
  exact ⟨⟨hc0, by omega⟩, by omega, ok.s0, ok.s1⟩
theorem Ey.nums {k : Nat} (h : Ey n s ch bu sh en) (ok : Ok k s) : (0 ≤ ch ∧ ch ≤ bu) ∧ bu ≤ 64 := by
  obtain ⟨hov, hlv, hc0, rfl, rfl, rfl, hc, hle, hq⟩ := h
  have := ok.n0
  have a1 := ok.m.2.2
  have a2 := ok.m.1.2
  exact ⟨⟨hc0, by omega⟩, by omega⟩
end
theorem bne_self_i (x : Int) : (x != x) = false := by simp
set_option maxHeartbeats 60000000 in
theorem exact_any {w : World} {u : Value} {bs : List Bool} (hd : BL w u bs) (p q : Int) : Calls Try.prog 5 #[.int .i64 p, .int .i64 q, u] w (TrueB w) := by
  obtain ⟨a, cap, rfl, hn1, hn2⟩ := hd.slice
  obtain ⟨m, hm⟩ : ∃ m, m = bs.length := ⟨_, rfl⟩
  rw [← hm] at hd hn1 ⊢
  have hmx : m ≤ 9223372036854775807 := by unfold maxLen at hn2; omega
  have HD := Lib.hid hd
  clear hd hn1 hn2 hm
  have HP := Lib.hid (fun w => bring_any p 64 w (by decide) (by decide))
  have r1 := bring_range p (n := 64) (by decide)
  generalize bring p 64 = p1 at *
  have HQ := Lib.hid (fun w => bring_any q (1 + p1) w (by omega) (by omega))
  have r2 := bring_range q (n := 1 + p1) (by omega)
  generalize bring q (1 + p1) = q1 at *
  have hn : nwE (1 + p1) (1 + q1) 0 = 0 := by
    rcases nwE_cases (1 + p1) (1 + q1) 0 with ⟨x, _⟩ | ⟨_, x, _⟩ | ⟨_, x, _⟩ | ⟨_, _, _, x⟩
    · exact absurd ⟨⟨by omega, by omega⟩, by omega, by omega⟩ x
    · omega
    · omega
    · exact x
  have H0 := Lib.hid (fun w => og_new w hn rfl)
  have HS0 : Hid (Ex 0 (nwS (1 + p1) (1 + q1) 0) 0 (1 + q1) 0 (1 + p1)) := Lib.hid ⟨rfl, rfl, Int.le_refl _, rfl, rfl, by show 0 + (1 + p1) = _; omega, by show 1 + q1 = 1 + q1 - 0; omega, by omega, fun _ => rfl⟩
  generalize nwS (1 + p1) (1 + q1) 0 = s0 at *
  have HV := Lib.hid (fun w => bring_any ((1 + p1) * 7) 64 w (by decide) (by decide))
  have r3 := bring_range ((1 + p1) * 7) (n := 64) (by decide)
  generalize bring ((1 + p1) * 7) 64 = V at *
  clear hn
  go_enter Try.func5, Try.ntmps5
  go_wp2_with fail
  refine (works_any _).mono ?_
  rintro E w0 ⟨rfl, hb0⟩
  have HB0 := Lib.hid hb0
  have HD0 := Lib.hid (HD.out.below hb0)
  clear hb0 HD
  go_wp2_with fail
  refine (HP.out _).mono ?_
  rintro E w1 ⟨rfl, rfl⟩
  go_wp2_with fail
  refine (HQ.out _).mono ?_
  rintro E w1 ⟨rfl, rfl⟩
  go_wp2_with fail
  refine (H0.out _).mono ?_
  rintro E w1 ⟨gb, rfl, hg⟩
  have HG := Lib.hid hg
  clear hg H0 HP HQ
  go_wp2_with fail
  have hbb := HB0.out.size
  go_loopw [1, 9, 10, 11, 12] (fun i1 i9 i10 i11 i12 wr => ∃ (n k : Nat) (s : St) (ch bu sh en : Int), n ≤ m ∧ n ≤ 400 ∧ k ≤ 3 * n ∧ i1 = .int .i64 bu ∧ i9 = .int .i64 ch ∧ i10 = .int .i64 sh ∧ i11 = .int .i64 en ∧ i12 = .int .i64 n ∧ Hid (OG w0.heap.size w0 wr gb k s) ∧ Hid (Ex n s ch bu sh en)) (fun _ _ _ _ i12 _ => m - (intOf i12).toNat)
  case atStart => exact ⟨0, 0, s0, 0, _, 0, _, Nat.zero_le _, by decide, by decide, rfl, rfl, rfl, rfl, rfl, HG.out, HS0.out⟩
  case round =>
    clear HG HS0 r2
    obtain ⟨n, k, s, ch, bu, sh, en, hnm, hn4, hk3, rfl, rfl, rfl, rfl, rfl, HG, HE⟩ := hrel
    have hj1 : Hid (n < m → n < 400 → n + 1 ≤ m ∧ n + 1 ≤ 400 ∧ k + 3 ≤ 3 * (n + 1)) := Lib.hid (by omega)
    by_cases hm1 : n < m
    · by_cases hm2 : n < 400
      · have hd1 : decide ((n : Int) < 400) = true := by simp; omega
        have hnI : (n : Int) < (m : Int) := by omega
        have hj2 := Lib.hid (hj1.out hm1 hm2)
        obtain ⟨⟨u1, u2⟩, u3, u4, u5⟩ := HE.out.nums HG.out.ok
        have hkk : k ≤ 1200 := by omega
        rcases HE.out.turn HG.out.ok with ⟨t1, t2, t3, t4, hy⟩ | ⟨t1, t2, t3, s1, p2, b2, t4, t5, t6, t7, t8, hy⟩
        · have HY := Lib.hid hy
          have dn : ((n : Int) == en) = false := by simp; omega
          clear hy HE
          go_wp2_with fail
          refine (og_turn HG.out (by omega) t2 t3 t4).mono ?_
          rintro E w2 ⟨rfl, hg⟩
          have HG1 := Lib.hid hg
          clear hg HG t2 t3 t4
          by_cases h37 : (n : Int) = 37
          · have d37 : ((n : Int) == 37) = true := by simpa using h37
            obtain ⟨g1, s5, g2, hz⟩ := HY.out.change (p := 1 + V) h37 (by omega) (by omega)
            have HZ := Lib.hid hz
            clear hz h37 HY
            go_wp2_with fail
            refine (HV.out _).mono ?_
            rintro E w5 ⟨rfl, rfl⟩
            go_wp2_with fail
            refine (og_change HG1.out g1 g2).mono ?_
            rintro E w5 ⟨rfl, hg⟩
            have HG5 := Lib.hid hg
            clear hg HG1 g1 g2
            obtain ⟨db, off, rfl, cb⟩ := (HD0.out.below HG5.out.bel).at hm1
            have z0 := bne_self_i (bu - ch)
            have z1 := bne_self_i sh
            have z2 := bne_self_i en
            cases hbit : bs.getD n false
            · rw [hbit] at cb
              go_wp2_with fail
              refine (og_left HG5.out HZ.out.c).mono ?_
              rintro E wr0 ⟨rfl, hq⟩
              have HR0 := Lib.hid (HG5.out.below hq)
              clear hq HG5
              go_wp2_with fail
              refine (og_short HR0.out HZ.out.h).mono ?_
              rintro E wr1 ⟨rfl, hq⟩
              have HR1 := Lib.hid (HR0.out.below hq)
              clear hq HR0
              go_wp2_with fail
              refine (og_ends HR1.out HZ.out.e).mono ?_
              rintro E wr2 ⟨rfl, hq⟩
              have HR2 := Lib.hid (HR1.out.below hq)
              clear hq HR1
              go_wp2_with fail
              go_roundw
              case rel => exact ⟨n + 1, (k + 1) + 1, s5, ch, bu, sh, en, hj2.out.1, hj2.out.2.1, by omega, rfl, rfl, rfl, rfl, by go_num, HR2.out, by have := HZ.out.next; show Ex _ _ _ _ _ _; simpa using this⟩
              case measure => simp [intOf]; omega
            · rw [hbit] at cb
              rcases HZ.out.charge HG5.out.ok with ⟨v1, e1, s9, e2, hz⟩ | ⟨v1, e1, e2⟩
              · have HZ9 := Lib.hid hz
                have z3 := bne_self_i (bu - (ch + 1))
                have d9 : decide (ch < bu) = true := by simpa using v1
                clear hz z0 HZ
                go_wp2_with fail
                refine (og_charge HG5.out e1 e2).mono ?_
                rintro E w9 ⟨rfl, hg⟩
                have HG9 := Lib.hid hg
                clear hg HG5 e1 e2
                go_wp2_with fail
                refine (og_left HG9.out HZ9.out.c).mono ?_
                rintro E wr0 ⟨rfl, hq⟩
                have HR0 := Lib.hid (HG9.out.below hq)
                clear hq HG9
                go_wp2_with fail
                refine (og_short HR0.out HZ9.out.h).mono ?_
                rintro E wr1 ⟨rfl, hq⟩
                have HR1 := Lib.hid (HR0.out.below hq)
                clear hq HR0
                go_wp2_with fail
                refine (og_ends HR1.out HZ9.out.e).mono ?_
                rintro E wr2 ⟨rfl, hq⟩
                have HR2 := Lib.hid (HR1.out.below hq)
                clear hq HR1
                go_wp2_with fail
                go_roundw
                case rel => exact ⟨n + 1, (k + 1) + 1 + 1, s9, ch + 1, bu, sh, en, hj2.out.1, hj2.out.2.1, by omega, rfl, rfl, rfl, rfl, by go_num, HR2.out, by have := HZ9.out.next; show Ex _ _ _ _ _ _; simpa using this⟩
                case measure => simp [intOf]; omega
              · have d9 : decide (ch < bu) = false := by simp; omega
                clear v1
                go_wp2_with fail
                refine (og_charge HG5.out e1 e2).mono ?_
                rintro E w9 ⟨rfl, hg⟩
                have HG9 := Lib.hid hg
                clear hg HG5 e1 e2
                go_wp2_with fail
                refine (og_left HG9.out HZ.out.c).mono ?_
                rintro E wr0 ⟨rfl, hq⟩
                have HR0 := Lib.hid (HG9.out.below hq)
                clear hq HG9
                go_wp2_with fail
                refine (og_short HR0.out HZ.out.h).mono ?_
                rintro E wr1 ⟨rfl, hq⟩
                have HR1 := Lib.hid (HR0.out.below hq)
                clear hq HR0
                go_wp2_with fail
                refine (og_ends HR1.out HZ.out.e).mono ?_
                rintro E wr2 ⟨rfl, hq⟩
                have HR2 := Lib.hid (HR1.out.below hq)
                clear hq HR1
                go_wp2_with fail
                go_roundw
                case rel => exact ⟨n + 1, (k + 1) + 1 + 1, s5, ch, bu, sh, en, hj2.out.1, hj2.out.2.1, by omega, rfl, rfl, rfl, rfl, by go_num, HR2.out, by have := HZ.out.next; show Ex _ _ _ _ _ _; simpa using this⟩
                case measure => simp [intOf]; omega
          · have d37 : ((n : Int) == 37) = false := by simpa using h37
            have HZ := Lib.hid (HY.out.skip h37)
            clear h37 HY
            obtain ⟨db, off, rfl, cb⟩ := (HD0.out.below HG1.out.bel).at hm1
            have z0 := bne_self_i (bu - ch)
            have z1 := bne_self_i sh
            have z2 := bne_self_i en
            cases hbit : bs.getD n false
            · rw [hbit] at cb
              go_wp2_with fail
              refine (og_left HG1.out HZ.out.c).mono ?_
              rintro E wr0 ⟨rfl, hq⟩
              have HR0 := Lib.hid (HG1.out.below hq)
              clear hq HG1
              go_wp2_with fail
              refine (og_short HR0.out HZ.out.h).mono ?_
              rintro E wr1 ⟨rfl, hq⟩
              have HR1 := Lib.hid (HR0.out.below hq)
              clear hq HR0
              go_wp2_with fail
              refine (og_ends HR1.out HZ.out.e).mono ?_
              rintro E wr2 ⟨rfl, hq⟩
              have HR2 := Lib.hid (HR1.out.below hq)
              clear hq HR1
              go_wp2_with fail
              go_roundw
              case rel => exact ⟨n + 1, (k + 1), s, ch, bu, sh, en, hj2.out.1, hj2.out.2.1, by omega, rfl, rfl, rfl, rfl, by go_num, HR2.out, by have := HZ.out.next; show Ex _ _ _ _ _ _; simpa using this⟩
              case measure => simp [intOf]; omega
            · rw [hbit] at cb
              rcases HZ.out.charge HG1.out.ok with ⟨v1, e1, s9, e2, hz⟩ | ⟨v1, e1, e2⟩
              · have HZ9 := Lib.hid hz
                have z3 := bne_self_i (bu - (ch + 1))
                have d9 : decide (ch < bu) = true := by simpa using v1
                clear hz z0 HZ
                go_wp2_with fail
                refine (og_charge HG1.out e1 e2).mono ?_
                rintro E w9 ⟨rfl, hg⟩
                have HG9 := Lib.hid hg
                clear hg HG1 e1 e2
                go_wp2_with fail
                refine (og_left HG9.out HZ9.out.c).mono ?_
                rintro E wr0 ⟨rfl, hq⟩
                have HR0 := Lib.hid (HG9.out.below hq)
                clear hq HG9
                go_wp2_with fail
                refine (og_short HR0.out HZ9.out.h).mono ?_
                rintro E wr1 ⟨rfl, hq⟩
                have HR1 := Lib.hid (HR0.out.below hq)
                clear hq HR0
                go_wp2_with fail
                refine (og_ends HR1.out HZ9.out.e).mono ?_
                rintro E wr2 ⟨rfl, hq⟩
                have HR2 := Lib.hid (HR1.out.below hq)
                clear hq HR1
                go_wp2_with fail
                go_roundw
                case rel => exact ⟨n + 1, (k + 1) + 1, s9, ch + 1, bu, sh, en, hj2.out.1, hj2.out.2.1, by omega, rfl, rfl, rfl, rfl, by go_num, HR2.out, by have := HZ9.out.next; show Ex _ _ _ _ _ _; simpa using this⟩
                case measure => simp [intOf]; omega
              · have d9 : decide (ch < bu) = false := by simp; omega
                clear v1
                go_wp2_with fail
                refine (og_charge HG1.out e1 e2).mono ?_
                rintro E w9 ⟨rfl, hg⟩
                have HG9 := Lib.hid hg
                clear hg HG1 e1 e2
                go_wp2_with fail
                refine (og_left HG9.out HZ.out.c).mono ?_
                rintro E wr0 ⟨rfl, hq⟩
                have HR0 := Lib.hid (HG9.out.below hq)
                clear hq HG9
                go_wp2_with fail
                refine (og_short HR0.out HZ.out.h).mono ?_
                rintro E wr1 ⟨rfl, hq⟩
                have HR1 := Lib.hid (HR0.out.below hq)
                clear hq HR0
                go_wp2_with fail
                refine (og_ends HR1.out HZ.out.e).mono ?_
                rintro E wr2 ⟨rfl, hq⟩
                have HR2 := Lib.hid (HR1.out.below hq)
                clear hq HR1
                go_wp2_with fail
                go_roundw
                case rel => exact ⟨n + 1, (k + 1) + 1, s, ch, bu, sh, en, hj2.out.1, hj2.out.2.1, by omega, rfl, rfl, rfl, rfl, by go_num, HR2.out, by have := HZ.out.next; show Ex _ _ _ _ _ _; simpa using this⟩
                case measure => simp [intOf]; omega
        · have HY := Lib.hid hy
          have dn : ((n : Int) == en) = true := by simp; omega
          clear hy HE
          go_wp2_with fail
          refine (og_turn HG.out (by omega) t2 t3 t4).mono ?_
          rintro E w2 ⟨rfl, hg⟩
          have HG1 := Lib.hid hg
          clear hg HG t2 t3 t4
          have y1 : decide (p2 < 1) = false := by simp; omega
          have y2 : decide (b2 < 1) = false := by simp; omega
          have y3 : decide (p2 < b2) = false := by simp; omega
          go_wp2_with fail
          refine (og_is HG1.out t5 t6).mono ?_
          rintro E w3 ⟨rfl, hq⟩
          have HG2 := Lib.hid (HG1.out.below hq)
          clear hq HG1 t5 t6
          by_cases h37 : (n : Int) = 37
          · have d37 : ((n : Int) == 37) = true := by simpa using h37
            obtain ⟨g1, s5, g2, hz⟩ := HY.out.change (p := 1 + V) h37 (by omega) (by omega)
            have HZ := Lib.hid hz
            clear hz h37 HY
            go_wp2_with fail
            refine (HV.out _).mono ?_
            rintro E w5 ⟨rfl, rfl⟩
            go_wp2_with fail
            refine (og_change HG2.out g1 g2).mono ?_
            rintro E w5 ⟨rfl, hg⟩
            have HG5 := Lib.hid hg
            clear hg HG2 g1 g2
            obtain ⟨db, off, rfl, cb⟩ := (HD0.out.below HG5.out.bel).at hm1
            have z0 := bne_self_i (b2 - 0)
            have z1 := bne_self_i (sh + bu - ch)
            have z2 := bne_self_i ((n : Int) + p2)
            cases hbit : bs.getD n false
            · rw [hbit] at cb
              go_wp2_with fail
              refine (og_left HG5.out HZ.out.c).mono ?_
              rintro E wr0 ⟨rfl, hq⟩
              have HR0 := Lib.hid (HG5.out.below hq)
              clear hq HG5
              go_wp2_with fail
              refine (og_short HR0.out HZ.out.h).mono ?_
              rintro E wr1 ⟨rfl, hq⟩
              have HR1 := Lib.hid (HR0.out.below hq)
              clear hq HR0
              go_wp2_with fail
              refine (og_ends HR1.out HZ.out.e).mono ?_
              rintro E wr2 ⟨rfl, hq⟩
              have HR2 := Lib.hid (HR1.out.below hq)
              clear hq HR1
              go_wp2_with fail
              go_roundw
              case rel => exact ⟨n + 1, (k + 1) + 1, s5, 0, b2, (sh + bu - ch), ((n : Int) + p2), hj2.out.1, hj2.out.2.1, by omega, rfl, rfl, rfl, rfl, by go_num, HR2.out, by have := HZ.out.next; show Ex _ _ _ _ _ _; simpa using this⟩
              case measure => simp [intOf]; omega
            · rw [hbit] at cb
              rcases HZ.out.charge HG5.out.ok with ⟨v1, e1, s9, e2, hz⟩ | ⟨v1, e1, e2⟩
              · have HZ9 := Lib.hid hz
                have z3 := bne_self_i (b2 - (0 + 1))
                have d9 : decide (0 < b2) = true := by simpa using v1
                clear hz z0 HZ
                go_wp2_with fail
                refine (og_charge HG5.out e1 e2).mono ?_
                rintro E w9 ⟨rfl, hg⟩
                have HG9 := Lib.hid hg
                clear hg HG5 e1 e2
                go_wp2_with fail
                refine (og_left HG9.out HZ9.out.c).mono ?_
                rintro E wr0 ⟨rfl, hq⟩
                have HR0 := Lib.hid (HG9.out.below hq)
                clear hq HG9
                go_wp2_with fail
                refine (og_short HR0.out HZ9.out.h).mono ?_
                rintro E wr1 ⟨rfl, hq⟩
                have HR1 := Lib.hid (HR0.out.below hq)
                clear hq HR0
                go_wp2_with fail
                refine (og_ends HR1.out HZ9.out.e).mono ?_
                rintro E wr2 ⟨rfl, hq⟩
                have HR2 := Lib.hid (HR1.out.below hq)
                clear hq HR1
                go_wp2_with fail
                go_roundw
                case rel => exact ⟨n + 1, (k + 1) + 1 + 1, s9, 0 + 1, b2, (sh + bu - ch), ((n : Int) + p2), hj2.out.1, hj2.out.2.1, by omega, rfl, rfl, rfl, rfl, by go_num, HR2.out, by have := HZ9.out.next; show Ex _ _ _ _ _ _; simpa using this⟩
                case measure => simp [intOf]; omega
              · exfalso; omega
          · have d37 : ((n : Int) == 37) = false := by simpa using h37
            have HZ := Lib.hid (HY.out.skip h37)
            clear h37 HY
            obtain ⟨db, off, rfl, cb⟩ := (HD0.out.below HG2.out.bel).at hm1
            have z0 := bne_self_i (b2 - 0)
            have z1 := bne_self_i (sh + bu - ch)
            have z2 := bne_self_i ((n : Int) + p2)
            cases hbit : bs.getD n false
            · rw [hbit] at cb
              go_wp2_with fail
              refine (og_left HG2.out HZ.out.c).mono ?_
              rintro E wr0 ⟨rfl, hq⟩
              have HR0 := Lib.hid (HG2.out.below hq)
              clear hq HG2
              go_wp2_with fail
              refine (og_short HR0.out HZ.out.h).mono ?_
              rintro E wr1 ⟨rfl, hq⟩
              have HR1 := Lib.hid (HR0.out.below hq)
              clear hq HR0
              go_wp2_with fail
              refine (og_ends HR1.out HZ.out.e).mono ?_
              rintro E wr2 ⟨rfl, hq⟩
              have HR2 := Lib.hid (HR1.out.below hq)
              clear hq HR1
              go_wp2_with fail
              go_roundw
              case rel => exact ⟨n + 1, (k + 1), s1, 0, b2, (sh + bu - ch), ((n : Int) + p2), hj2.out.1, hj2.out.2.1, by omega, rfl, rfl, rfl, rfl, by go_num, HR2.out, by have := HZ.out.next; show Ex _ _ _ _ _ _; simpa using this⟩
              case measure => simp [intOf]; omega
            · rw [hbit] at cb
              rcases HZ.out.charge HG2.out.ok with ⟨v1, e1, s9, e2, hz⟩ | ⟨v1, e1, e2⟩
              · have HZ9 := Lib.hid hz
                have z3 := bne_self_i (b2 - (0 + 1))
                have d9 : decide (0 < b2) = true := by simpa using v1
                clear hz z0 HZ
                go_wp2_with fail
                refine (og_charge HG2.out e1 e2).mono ?_
                rintro E w9 ⟨rfl, hg⟩
                have HG9 := Lib.hid hg
                clear hg HG2 e1 e2
                go_wp2_with fail
                refine (og_left HG9.out HZ9.out.c).mono ?_
                rintro E wr0 ⟨rfl, hq⟩
                have HR0 := Lib.hid (HG9.out.below hq)
                clear hq HG9
                go_wp2_with fail
                refine (og_short HR0.out HZ9.out.h).mono ?_
                rintro E wr1 ⟨rfl, hq⟩
                have HR1 := Lib.hid (HR0.out.below hq)
                clear hq HR0
                go_wp2_with fail
                refine (og_ends HR1.out HZ9.out.e).mono ?_
                rintro E wr2 ⟨rfl, hq⟩
                have HR2 := Lib.hid (HR1.out.below hq)
                clear hq HR1
                go_wp2_with fail
                go_roundw
                case rel => exact ⟨n + 1, (k + 1) + 1, s9, 0 + 1, b2, (sh + bu - ch), ((n : Int) + p2), hj2.out.1, hj2.out.2.1, by omega, rfl, rfl, rfl, rfl, by go_num, HR2.out, by have := HZ9.out.next; show Ex _ _ _ _ _ _; simpa using this⟩
                case measure => simp [intOf]; omega
              · exfalso; omega
      · have hd1 : decide ((n : Int) < 400) = false := by simp; omega
        have hnI : (n : Int) < (m : Int) := by omega
        have HB := Lib.hid (HB0.out.trans (HG.out.bel.mono hbb))
        go_wp2_with fail
        go_ret
        exact ⟨rfl, HB.out⟩
    · obtain rfl : n = m := by omega
      have HB := Lib.hid (HB0.out.trans (HG.out.bel.mono hbb))
      go_wp2_with fail
      go_ret
      exact ⟨rfl, HB.out⟩
end Go.Proofs.Ytcmejhgjkecpjaa
