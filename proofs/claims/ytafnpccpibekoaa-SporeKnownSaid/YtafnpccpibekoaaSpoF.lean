/- SporeMany. -/
import Derived.Test.YtafnpccpibekoaaSpoE
import Derived.Test.YtafnpccpibekoaaSpoO
namespace Go.Proofs.Ytafnpccpibekoaa
open Go.RowKit Sp
set_option linter.unusedVariables false

theorem bring_q (a n : Int) (h : 1 ≤ n) (hn : n ≤ 100000) (w : World) : Calls Try.prog 9 #[.int .i64 a, .int .i64 n] w (fun e w' => e = .returned (.int .i64 (bring a n)) ∧ w' = w) := (bring_any a n w h (by omega)).mono fun e w' q => ⟨q.1, q.2.symm⟩
theorem below_drewN {B : Nat} {a b : World} (h : Below B a b) (n : Nat) : Below B a (b.drewN n) := ⟨h.os, h.tape, h.output, h.size, h.block⟩
theorem below_drew {B : Nat} {a b : World} (h : Below B a b) : Below B a b.drew := ⟨h.os, h.tape, h.output, h.size, h.block⟩
/-- many releases in the row of n ticks from f on -/
def Mn (p f n e many : Int) : Prop := many = 0 ∨ (1 ≤ many ∧ f + many * p ≤ e ∧ (many - 1) * p < n)
theorem mn_in {p f n e many now : Int} (h : Mn p f n e many) (hp : 1 ≤ p) (h0 : 0 ≤ many) (h1 : e ≤ now) (h2 : f ≤ now) (h3 : now < f + n) : Mn p f n (now + p) (many + 1) := by
  refine Or.inr ⟨by omega, ?_, ?_⟩
  · rw [Int.add_mul, Int.one_mul]
    rcases h with rfl | ⟨_, q, _⟩
    · rw [Int.zero_mul]; omega
    · generalize many * p = M at *
      omega
  · rw [show many + 1 - 1 = many by omega]
    rcases h with rfl | ⟨_, q, _⟩
    · rw [Int.zero_mul]; omega
    · generalize many * p = M at *
      omega
theorem mn_out {p f n e e' many : Int} (h : Mn p f n e many) (h1 : e ≤ e') : Mn p f n e' many := by
  rcases h with h | ⟨h1, h2, h3⟩
  · exact Or.inl h
  · exact Or.inr ⟨h1, by omega, h3⟩
theorem mn_end {p f n e many : Int} (h : Mn p f n e many) (hp : 1 ≤ p) (hn : 0 ≤ n) : many ≤ (n + p - 1).tdiv p := by
  rw [Int.tdiv_eq_ediv_of_nonneg (by omega)]
  rw [Int.le_ediv_iff_mul_le (by omega)]
  rcases h with rfl | ⟨_, _, q⟩
  · rw [Int.zero_mul]; omega
  · rw [Int.sub_mul, Int.one_mul] at q
    omega
theorem quo_range {p n : Int} (hp : 1 ≤ p) (hp2 : p ≤ 64) (hn : 0 ≤ n) (hn2 : n < 300) : 0 ≤ (n + p - 1).tdiv p ∧ (n + p - 1).tdiv p ≤ 364 := by
  rw [Int.tdiv_eq_ediv_of_nonneg (by omega)]
  refine ⟨Int.ediv_nonneg (by omega) (by omega), ?_⟩
  have := Int.ediv_le_self p (show 0 ≤ n + p - 1 by omega)
  omega
set_option maxHeartbeats 8000000 in
theorem many_any {w : World} {u : Value} {l : List Int} (hd : IS w u l) (x r0 r1 : Int) : Calls Try.prog 5 #[.int .i64 x, .agg #[.int .i64 r0, .int .i64 r1], u] w (TrueB w) := by
  obtain ⟨a, cap, rfl, hn1, hn2⟩ := hd.slice
  obtain ⟨m, hm⟩ : ∃ m, m = l.length := ⟨_, rfl⟩
  have hmx : m ≤ 9223372036854775807 := by unfold maxLen at hn2; omega
  have HD := Lib.hid hd
  rw [← hm] at HD hn1 ⊢
  have HBX := Lib.hid (fun w => bring_any x 64 w (by decide) (by decide))
  have hr := bring_range x (n := 64) (by decide)
  generalize bring x 64 = y at *
  obtain ⟨y1, y2⟩ := hr
  have HQ := Lib.hid (wp_in (q := 1 + y) (by omega) (by omega))
  clear hd hm
  go_enter Try.func5, Try.ntmps5
  go_wp2_with fail
  refine (HBX.out _).mono ?_
  rintro E w0 ⟨rfl, rfl⟩
  clear HBX
  go_wp2_with fail
  refine (og_new _ HQ.out).mono ?_
  rintro E w1 ⟨rfl, hg⟩
  have hbx := (Below.refl _ w).alloc (Nat.le_refl _) (.cells #[.int .i64 r0, .int .i64 r1] 38)
  have e0 : w1.cell? ⟨w.heap.size, 0, none⟩ = some (.int .i64 r0) := (hg.bel.cell (by simp)).trans (cell_of_row _ _ 0 _ _ _ (heap_alloc_new w _))
  have e1 : w1.cell? ⟨w.heap.size, 1, none⟩ = some (.int .i64 r1) := (hg.bel.cell (by simp)).trans (cell_of_row _ _ 1 _ _ _ (heap_alloc_new w _))
  have HO : Hid (OG w.heap.size w w1 (w.alloc (.cells #[.int .i64 r0, .int .i64 r1] 38)).heap.size (1 + y) 0) := ⟨hg.g, hg.ok, hbx.size, hbx.trans (hg.bel.mono hbx.size)⟩
  clear hg hbx HQ
  generalize (w.alloc (.cells #[.int .i64 r0, .int .i64 r1] 38)).heap.size = b at *
  obtain ⟨p, hp⟩ : ∃ p, p = 1 + y := ⟨_, rfl⟩
  have hp1 : 1 ≤ p := by omega
  have hp2 : p ≤ 64 := by omega
  rw [← hp] at HO ⊢
  clear hp y1 y2
  have hr1 := bring_range r0 (n := 300) (by decide)
  have hr2 := bring_range r1 (n := 1000) (by decide)
  go_wp2_with fail
  go_quiet ((go_at_call 9; exact Calls.quiet_of_same (bring_q _ _ (by omega) (by omega) _)))
  clear e0 e1
  generalize bring r0 300 = n at *
  generalize bring r1 1000 = f at *
  rename_i nq _
  have HO2 : Hid (OG w.heap.size w (w1.drewN nq) b p 0) := HO.out.below (below_drewN (Below.refl _ _) _)
  generalize w1.drewN nq = w2 at *
  obtain ⟨f1, f2⟩ := hr2
  obtain ⟨n1, n2⟩ := hr1
  clear HO
  go_wp2_with fail
  go_loopw [12, 13, 14] (fun vn vm i wr => ∃ (k : Nat) (now many e : Int), k ≤ m ∧ k ≤ 300 ∧ vn = .int .i64 now ∧ vm = .int .i64 many ∧ i = .int .i64 k ∧ 0 ≤ now ∧ now ≤ 20 * k ∧ 0 ≤ many ∧ many ≤ k ∧ Hid (Mn p f n e many) ∧ Hid (OG w.heap.size w wr b p e)) (fun _ _ i _ => m - (intOf i).toNat)
  case atStart => exact ⟨0, 0, 0, 0, Nat.zero_le _, by omega, rfl, rfl, rfl, by omega, by omega, by omega, by omega, Or.inl rfl, HO2.out⟩
  case round =>
    clear HO2
    obtain ⟨k, now, many, e, hk, hk2, rfl, rfl, rfl, hn0, hn9, hm0, hm9, HM, HO⟩ := hrel
    by_cases hgo : k < m ∧ k < 300
    · obtain ⟨hkm, hk3⟩ := hgo
      obtain ⟨db, off, rfl, c0⟩ := (HD.out.below HO.out.bel).at hkm
      have hk1 : decide ((k : Int) < 300) = true := by simp; omega
      have hkI : (k : Int) < (m : Int) := by omega
      have hk0 : (0 : Int) ≤ k := by omega
      generalize l.getD k 0 = y at *
      have HB6 := Lib.hid (fun w => bring_any y 20 w (by decide) (by decide))
      have hr := bring_range y (n := 20) (by decide)
      generalize bring y 20 = z at *
      obtain ⟨z1, z2⟩ := hr
      by_cases he : e ≤ now + z
      · have HR := Lib.hid (og_rel0 HO.out (n := now + z) (by omega) (by omega) (by omega))
        have HN := Lib.hid (mn_out HM.out (e' := now + z + p) (by omega))
        have HI : Hid (f ≤ now + z → now + z < f + n → Mn p f n (now + z + p) (many + 1)) := fun h1 h2 => mn_in HM.out hp1 hm0 he h1 h2
        clear he HO HM
        by_cases hf1 : f ≤ now + z
        · have hf1d : decide (f ≤ now + z) = true := by simpa using hf1
          by_cases hf2 : now + z < f + n
          · have hf2d : decide (now + z < f + n) = true := by simpa using hf2
            have HI2 := Lib.hid (HI.out hf1 hf2)
            clear HI HN
            go_wp2_with fail
            refine (HB6.out _).mono ?_
            rintro E w3 ⟨rfl, rfl⟩
            clear c0
            go_wp2_with fail
            refine HR.out.mono ?_
            rintro E w4 ⟨rfl, ho⟩
            have HO := Lib.hid ho
            clear ho HR
            go_wp2_with fail
            go_roundw
            case rel => exact ⟨k + 1, _, _, _, by omega, by omega, rfl, rfl, by go_num, by omega, by omega, by omega, by omega, HI2.out, HO.out⟩
            case measure => simp [intOf]; omega
          · have hf2d : decide (now + z < f + n) = false := by simpa using hf2
            clear HI
            go_wp2_with fail
            refine (HB6.out _).mono ?_
            rintro E w3 ⟨rfl, rfl⟩
            clear c0
            go_wp2_with fail
            refine HR.out.mono ?_
            rintro E w4 ⟨rfl, ho⟩
            have HO := Lib.hid ho
            clear ho HR
            go_wp2_with fail
            go_roundw
            case rel => exact ⟨k + 1, _, _, _, by omega, by omega, rfl, rfl, by go_num, by omega, by omega, by omega, by omega, HN.out, HO.out⟩
            case measure => simp [intOf]; omega
        · have hf1d : decide (f ≤ now + z) = false := by simpa using hf1
          clear HI
          go_wp2_with fail
          refine (HB6.out _).mono ?_
          rintro E w3 ⟨rfl, rfl⟩
          clear c0
          go_wp2_with fail
          refine HR.out.mono ?_
          rintro E w4 ⟨rfl, ho⟩
          have HO := Lib.hid ho
          clear ho HR
          go_wp2_with fail
          go_roundw
          case rel => exact ⟨k + 1, _, _, _, by omega, by omega, rfl, rfl, by go_num, by omega, by omega, by omega, by omega, HN.out, HO.out⟩
          case measure => simp [intOf]; omega
      · have HR := Lib.hid (og_relE HO.out (n := now + z) (by omega) (by omega) (by omega))
        clear he HO
        go_wp2_with fail
        refine (HB6.out _).mono ?_
        rintro E w3 ⟨rfl, rfl⟩
        clear c0
        go_wp2_with fail
        refine HR.out.mono ?_
        rintro E w4 ⟨rfl, ho⟩
        have HO := Lib.hid ho
        clear ho HR
        go_wp2_with fail
        go_roundw
        case rel => exact ⟨k + 1, _, _, _, by omega, by omega, rfl, rfl, by go_num, by omega, by omega, by omega, by omega, HM.out, HO.out⟩
        case measure => simp [intOf]; omega
    · have hstop : k = m ∨ k < m ∧ k = 300 := by omega
      have hq := quo_range hp1 hp2 n1 n2
      have hen := mn_end HM.out hp1 n1
      have hz : (p == 0) = false := by simp; omega
      have hz2 : ¬ p = 0 := by omega
      rcases hstop with rfl | ⟨hkm, rfl⟩
      all_goals
        go_wp2_with fail
        refine (works_any _).mono ?_
        rintro E w5 ⟨rfl, hb5⟩
        have HB5 := Lib.hid (HO.out.bel.trans (hb5.mono HO.out.bel.size))
        clear hb5
        go_wp2_with fail
        go_ret
        exact ⟨rfl, HB5.out⟩
end Go.Proofs.Ytafnpccpibekoaa
