/- RankOrder where there is no call. -/
import Derived.Test.YtoiegoehebkjgaaWalksK
namespace Go.Proofs.Ytoiegoehebkjgaa
open Go.RowKit Rk
set_option linter.unusedVariables false

set_option maxRecDepth 100000 in
set_option maxHeartbeats 8000000 in
theorem order_nil (a : Option Addr) (cap : Nat) (w : World) : Calls Try.prog 4 #[.slice a 0 cap] w (TrueB w) := by
  go_enter Try.func4, Try.ntmps4
  go_wp2_with fail
  refine (works_any w).mono ?_
  rintro e w1 ⟨rfl, hb1⟩
  have HB1 := Lib.hid hb1; clear hb1
  go_wp2_with fail
  refine (own_new w1).mono ?_
  rintro e w2 ⟨rfl, h2⟩
  have HS : ∀ c1 c2 : Array Value, c1 = Array.replicate 64 (.bool false) → c2 = Array.replicate 64 (.int .i64 0) → Hid (OA w.heap.size w ((w2.alloc (.cells c1 36)).alloc (.cells c2 37)) (w1.heap.size + 1) w1.heap.size w2.heap.size (w2.heap.size + 1) 0 (fun _ => none) (fun _ => false) (fun _ => 0)) :=
    fun c1 c2 e1 e2 => oa_start HB1.out h2 e1 e2
  clear h2 HB1
  go_wp2_with fail
  generalize w1.heap.size + 1 = rb at *
  generalize w1.heap.size = hb at *
  generalize w2.heap.size + 1 = kb at *
  generalize w2.heap.size = tb at *
  go_loopw [6, 7] (fun c i wr => ∃ c' i' : Nat, c' ≤ i' ∧ i' ≤ 0 ∧ c = .int .i64 c' ∧ i = .int .i64 i' ∧ Hid (OrdI w rb hb tb kb c' wr)) (fun _ i _ => 200 - (intOf i).toNat)
  case atStart => exact ⟨0, 0, Nat.le_refl _, by omega, rfl, rfl, ⟨_, _, _, HS _ _ rfl rfl, Rl.start⟩⟩
  case round =>
    clear HS
    obtain ⟨c, i, hci, hi2, rfl, rfl, HI⟩ := hrel
    obtain ⟨m, th, ks, hoa, hrl⟩ := HI.out
    have HO := Lib.hid hoa
    have HRl := Lib.hid hrl
    clear HI hoa hrl
    have hd0 : decide ((i : Int) < 0) = false := by simp
    go_wp2_with fail
    refine (oa_len HO.out).mono ?_
    rintro e w0 ⟨rfl, rfl⟩
    have HP : Hid (PopI w rb hb tb kb c 0 0 0 wr) := ⟨m, th, ks, HO.out, HRl.out, fun h => by omega⟩
    clear HO HRl
    go_wp2_with fail
    go_loopw [12, 13, 14] (fun l b0 j wr => ∃ (l' b0' : Int) (j' : Nat), j' ≤ c ∧ l = .int .i64 l' ∧ b0 = .int .i64 b0' ∧ j = .int .i64 j' ∧ Hid (PopI w rb hb tb kb c j' l' b0' wr)) (fun _ _ j _ => c - (intOf j).toNat)
    case atStart => exact ⟨0, 0, 0, Nat.zero_le _, rfl, rfl, rfl, HP⟩
    case round =>
      clear HP
      obtain ⟨l, b0, j, hj, rfl, rfl, rfl, HP⟩ := hrel
      obtain ⟨m, th, ks, hoa, hrl, hbeh⟩ := HP.out
      clear HP
      by_cases hlt : j < c
      · exact absurd hlt (by omega)
      · obtain rfl : c = j := by omega
        have ho : OA w.heap.size w wr rb hb tb kb 0 m th ks := by have := hoa; rwa [Nat.sub_self] at this
        have HO := Lib.hid ho
        clear ho hoa hrl hbeh
        go_wp2_with fail
        refine (oa_pop0 HO.out).mono ?_
        rintro e w3 ⟨rfl, h3⟩
        have H3 := Lib.hid h3
        clear h3 HO
        go_wp2_with fail
        refine (oa_len H3.out).mono ?_
        rintro e w0 ⟨rfl, rfl⟩
        go_wp2_with fail
        go_ret
        exact ⟨rfl, H3.out.bel⟩


/-- the law of any calls that came in -/
theorem order_any (a : Option Addr) (cap n : Nat) (w : World) (hc : (a = none ∧ n = 0 ∧ cap = 0) ∨ ∃ (x : Addr) (z : Nat → Nat → Int), a = some x ∧ n ≤ cap ∧ cap ≤ maxLen ∧ (0 < n → ∃ b off, x = ⟨b, off, none⟩ ∧ ∀ i j, i < n → j < 3 → w.cell? ⟨b, off + i * 3 + j, none⟩ = some (.int .i64 (z i j)))) :
    Calls Try.prog 4 #[.slice a n cap] w (TrueB w) := by
  rcases hc with ⟨rfl, rfl, rfl⟩ | ⟨x, z, rfl, hl, hm, hx⟩
  · exact order_nil none 0 w
  · by_cases h0 : n = 0
    · subst h0; exact order_nil _ cap w
    · obtain ⟨b, off, rfl, h⟩ := hx (by omega)
      unfold maxLen at hm
      exact order_law b off cap n (fun i => z i 0) (fun i => z i 1) (fun i => z i 2) w (by omega) (fun i hi => ⟨h i 0 hi (by omega), h i 1 hi (by omega), h i 2 hi (by omega)⟩)

end Go.Proofs.Ytoiegoehebkjgaa
