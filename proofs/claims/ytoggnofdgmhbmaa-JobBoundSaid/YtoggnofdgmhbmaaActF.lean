/- The document's Check. -/
import Derived.Test.YtoggnofdgmhbmaaActA
namespace Go.Proofs.Ytoggnofdgmhbmaa
open Go.RowKit Ac
set_option linter.unusedVariables false

theorem empty_or (s : ByteArray) : s = ⟨#[]⟩ ∨ (0 < s.size ∧ s.toList ≠ [] ∧ s.toList.isEmpty = false) := by
  by_cases h : s.size = 0
  · left
    obtain ⟨d⟩ := s
    have hd : d = #[] := Array.size_eq_zero_iff.1 h
    rw [hd]
  · right
    have hl : s.toList ≠ [] := by
      intro e
      apply h
      have : s.toList.length = s.size := by rw [ByteArray.toList_eq]; rfl
      rw [← this, e]; rfl
    exact ⟨by omega, hl, by cases hs : s.toList with
      | nil => exact absurd hs hl
      | cons _ _ => rfl⟩
theorem below_drewN {B : Nat} {a b : World} (h : Below B a b) (n : Nat) : Below B a (b.drewN n) := ⟨h.os, h.tape, h.output, h.size, h.block⟩
set_option maxHeartbeats 1000000 in
theorem c1a (w : World) {n : Int} (h1 : 1 ≤ n) (h2 : n ≤ 64) (s : ByteArray) (hs : s = ⟨#[]⟩) : Calls Try.prog 51 #[.agg #[.int .i64 1, .int .i64 n, .string s]] w (VB (.int .i64 (chk ⟨1, n, s⟩)) w) := by
  have hchk : chk ⟨1, n, s⟩ = 0 := chk_yes (x := ⟨1, n, s⟩) (may_of (a := 1) (b := 64) (c := 0) rfl h1 h2 (by rw [hs]; exact (show ((0 : Nat) : Int) ≤ 0 by decide)))
  have HC := Lib.hid hchk
  have HA := Lib.hid ((Below.refl _ w).alloc (Nat.le_refl _) (.cells #[.int .i64 1, .int .i64 n, .string s] 49))
  clear hchk
  subst hs
  have e1 : decide (1 ≤ n) = true := by simpa using h1
  have e2 : decide (n ≤ 64) = true := by simpa using h2
  go_enter Try.func51, Try.ntmps51
  go_wp2_with fail
  go_quiet (fail)
  go_wp2_with fail
  go_ret
  exact ⟨by rw [HC.out]; rfl, below_drewN HA.out _⟩
set_option maxHeartbeats 1000000 in
theorem c1b (w : World) {n : Int} (h1 : 1 ≤ n) (h2 : n ≤ 64) (s : ByteArray) (hs1 : 0 < s.size) (hs2 : s.toList ≠ []) (hs3 : s.toList.isEmpty = false) : Calls Try.prog 51 #[.agg #[.int .i64 1, .int .i64 n, .string s]] w (VB (.int .i64 (chk ⟨1, n, s⟩)) w) := by
  have HC := Lib.hid (chk_no (x := ⟨1, n, s⟩) (not_may (a := 1) (b := 64) (c := 0) rfl (Or.inr (Or.inr (by simp only; omega)))))
  have HA := Lib.hid ((Below.refl _ w).alloc (Nat.le_refl _) (.cells #[.int .i64 1, .int .i64 n, .string s] 49))
  have e1 : decide (1 ≤ n) = true := by simpa using h1
  have e2 : decide (n ≤ 64) = true := by simpa using h2
  go_enter Try.func51, Try.ntmps51
  go_wp2_with fail
  go_quiet (fail)
  go_wp2_with fail
  go_ret
  exact ⟨by rw [HC.out]; rfl, below_drewN HA.out _⟩
set_option maxHeartbeats 1000000 in
theorem c1e (w : World) {n : Int} (h1 : n < 1) (s : ByteArray) : Calls Try.prog 51 #[.agg #[.int .i64 1, .int .i64 n, .string s]] w (VB (.int .i64 (chk ⟨1, n, s⟩)) w) := by
  have HC := Lib.hid (chk_no (x := ⟨1, n, s⟩) (not_may (a := 1) (b := 64) (c := 0) rfl (Or.inl h1)))
  have HA := Lib.hid ((Below.refl _ w).alloc (Nat.le_refl _) (.cells #[.int .i64 1, .int .i64 n, .string s] 49))
  have e1 : decide (1 ≤ n) = false := by simp; omega
  go_enter Try.func51, Try.ntmps51
  go_wp2_with fail
  go_quiet (fail)
  go_wp2_with fail
  go_ret
  exact ⟨by rw [HC.out]; rfl, below_drewN HA.out _⟩
set_option maxHeartbeats 1000000 in
theorem c1f (w : World) {n : Int} (h1 : 64 < n) (s : ByteArray) : Calls Try.prog 51 #[.agg #[.int .i64 1, .int .i64 n, .string s]] w (VB (.int .i64 (chk ⟨1, n, s⟩)) w) := by
  have HC := Lib.hid (chk_no (x := ⟨1, n, s⟩) (not_may (a := 1) (b := 64) (c := 0) rfl (Or.inr (Or.inl h1))))
  have HA := Lib.hid ((Below.refl _ w).alloc (Nat.le_refl _) (.cells #[.int .i64 1, .int .i64 n, .string s] 49))
  have e1 : decide (1 ≤ n) = true := by simp; omega
  have e2 : decide (n ≤ 64) = false := by simp; omega
  go_enter Try.func51, Try.ntmps51
  go_wp2_with fail
  go_quiet (fail)
  go_wp2_with fail
  go_ret
  exact ⟨by rw [HC.out]; rfl, below_drewN HA.out _⟩
set_option maxHeartbeats 1000000 in
theorem c2a (w : World) {n : Int} (h1 : 0 ≤ n) (h2 : n ≤ 7) (s : ByteArray) (hs : s = ⟨#[]⟩) : Calls Try.prog 51 #[.agg #[.int .i64 2, .int .i64 n, .string s]] w (VB (.int .i64 (chk ⟨2, n, s⟩)) w) := by
  have hchk : chk ⟨2, n, s⟩ = 0 := chk_yes (x := ⟨2, n, s⟩) (may_of (a := 0) (b := 7) (c := 0) rfl h1 h2 (by rw [hs]; exact (show ((0 : Nat) : Int) ≤ 0 by decide)))
  have HC := Lib.hid hchk
  have HA := Lib.hid ((Below.refl _ w).alloc (Nat.le_refl _) (.cells #[.int .i64 2, .int .i64 n, .string s] 49))
  clear hchk
  subst hs
  have e1 : decide (0 ≤ n) = true := by simpa using h1
  have e2 : decide (n ≤ 7) = true := by simpa using h2
  go_enter Try.func51, Try.ntmps51
  go_wp2_with fail
  go_quiet (fail)
  go_wp2_with fail
  go_ret
  exact ⟨by rw [HC.out]; rfl, below_drewN HA.out _⟩
set_option maxHeartbeats 1000000 in
theorem c2b (w : World) {n : Int} (h1 : 0 ≤ n) (h2 : n ≤ 7) (s : ByteArray) (hs1 : 0 < s.size) (hs2 : s.toList ≠ []) (hs3 : s.toList.isEmpty = false) : Calls Try.prog 51 #[.agg #[.int .i64 2, .int .i64 n, .string s]] w (VB (.int .i64 (chk ⟨2, n, s⟩)) w) := by
  have HC := Lib.hid (chk_no (x := ⟨2, n, s⟩) (not_may (a := 0) (b := 7) (c := 0) rfl (Or.inr (Or.inr (by simp only; omega)))))
  have HA := Lib.hid ((Below.refl _ w).alloc (Nat.le_refl _) (.cells #[.int .i64 2, .int .i64 n, .string s] 49))
  have e1 : decide (0 ≤ n) = true := by simpa using h1
  have e2 : decide (n ≤ 7) = true := by simpa using h2
  go_enter Try.func51, Try.ntmps51
  go_wp2_with fail
  go_quiet (fail)
  go_wp2_with fail
  go_ret
  exact ⟨by rw [HC.out]; rfl, below_drewN HA.out _⟩
set_option maxHeartbeats 1000000 in
theorem c2e (w : World) {n : Int} (h1 : n < 0) (s : ByteArray) : Calls Try.prog 51 #[.agg #[.int .i64 2, .int .i64 n, .string s]] w (VB (.int .i64 (chk ⟨2, n, s⟩)) w) := by
  have HC := Lib.hid (chk_no (x := ⟨2, n, s⟩) (not_may (a := 0) (b := 7) (c := 0) rfl (Or.inl h1)))
  have HA := Lib.hid ((Below.refl _ w).alloc (Nat.le_refl _) (.cells #[.int .i64 2, .int .i64 n, .string s] 49))
  have e1 : decide (0 ≤ n) = false := by simp; omega
  go_enter Try.func51, Try.ntmps51
  go_wp2_with fail
  go_quiet (fail)
  go_wp2_with fail
  go_ret
  exact ⟨by rw [HC.out]; rfl, below_drewN HA.out _⟩
set_option maxHeartbeats 1000000 in
theorem c2f (w : World) {n : Int} (h1 : 7 < n) (s : ByteArray) : Calls Try.prog 51 #[.agg #[.int .i64 2, .int .i64 n, .string s]] w (VB (.int .i64 (chk ⟨2, n, s⟩)) w) := by
  have HC := Lib.hid (chk_no (x := ⟨2, n, s⟩) (not_may (a := 0) (b := 7) (c := 0) rfl (Or.inr (Or.inl h1))))
  have HA := Lib.hid ((Below.refl _ w).alloc (Nat.le_refl _) (.cells #[.int .i64 2, .int .i64 n, .string s] 49))
  have e1 : decide (0 ≤ n) = true := by simp; omega
  have e2 : decide (n ≤ 7) = false := by simp; omega
  go_enter Try.func51, Try.ntmps51
  go_wp2_with fail
  go_quiet (fail)
  go_wp2_with fail
  go_ret
  exact ⟨by rw [HC.out]; rfl, below_drewN HA.out _⟩
set_option maxHeartbeats 1000000 in
theorem c3a (w : World) {n : Int} (h1 : n = 0) (s : ByteArray) (hs : s = ⟨#[]⟩) : Calls Try.prog 51 #[.agg #[.int .i64 3, .int .i64 n, .string s]] w (VB (.int .i64 (chk ⟨3, n, s⟩)) w) := by
  have hchk : chk ⟨3, n, s⟩ = 0 := chk_yes (x := ⟨3, n, s⟩) (may_of (a := 0) (b := 0) (c := 0) rfl (by rw [h1]; exact Int.le_refl _) (by rw [h1]; exact Int.le_refl _) (by rw [hs]; exact (show ((0 : Nat) : Int) ≤ 0 by decide)))
  have HC := Lib.hid hchk
  have HA := Lib.hid ((Below.refl _ w).alloc (Nat.le_refl _) (.cells #[.int .i64 3, .int .i64 n, .string s] 49))
  clear hchk
  subst hs
  subst h1
  go_enter Try.func51, Try.ntmps51
  go_wp2_with fail
  go_quiet (fail)
  go_wp2_with fail
  go_ret
  exact ⟨by rw [HC.out]; rfl, below_drewN HA.out _⟩
set_option maxHeartbeats 1000000 in
theorem c3b (w : World) {n : Int} (h1 : n = 0) (s : ByteArray) (hs1 : 0 < s.size) (hs2 : s.toList ≠ []) (hs3 : s.toList.isEmpty = false) : Calls Try.prog 51 #[.agg #[.int .i64 3, .int .i64 n, .string s]] w (VB (.int .i64 (chk ⟨3, n, s⟩)) w) := by
  have HC := Lib.hid (chk_no (x := ⟨3, n, s⟩) (not_may (a := 0) (b := 0) (c := 0) rfl (Or.inr (Or.inr (by simp only; omega)))))
  have HA := Lib.hid ((Below.refl _ w).alloc (Nat.le_refl _) (.cells #[.int .i64 3, .int .i64 n, .string s] 49))
  subst h1
  go_enter Try.func51, Try.ntmps51
  go_wp2_with fail
  go_quiet (fail)
  go_wp2_with fail
  go_ret
  exact ⟨by rw [HC.out]; rfl, below_drewN HA.out _⟩
set_option maxHeartbeats 1000000 in
theorem c3e (w : World) {n : Int} (h1 : n ≠ 0) (s : ByteArray) : Calls Try.prog 51 #[.agg #[.int .i64 3, .int .i64 n, .string s]] w (VB (.int .i64 (chk ⟨3, n, s⟩)) w) := by
  have HC := Lib.hid (chk_no (x := ⟨3, n, s⟩) (not_may (a := 0) (b := 0) (c := 0) rfl (by simp only; omega)))
  have HA := Lib.hid ((Below.refl _ w).alloc (Nat.le_refl _) (.cells #[.int .i64 3, .int .i64 n, .string s] 49))
  have e1 : (n == 0) = false := by simpa using h1
  go_enter Try.func51, Try.ntmps51
  go_wp2_with fail
  go_quiet (fail)
  go_wp2_with fail
  go_ret
  exact ⟨by rw [HC.out]; rfl, below_drewN HA.out _⟩
set_option maxHeartbeats 1000000 in
theorem c4a (w : World) {n : Int} (h1 : n = 0) (s : ByteArray) (hs : s = ⟨#[]⟩) : Calls Try.prog 51 #[.agg #[.int .i64 4, .int .i64 n, .string s]] w (VB (.int .i64 (chk ⟨4, n, s⟩)) w) := by
  have hchk : chk ⟨4, n, s⟩ = 0 := chk_yes (x := ⟨4, n, s⟩) (may_of (a := 0) (b := 0) (c := 0) rfl (by rw [h1]; exact Int.le_refl _) (by rw [h1]; exact Int.le_refl _) (by rw [hs]; exact (show ((0 : Nat) : Int) ≤ 0 by decide)))
  have HC := Lib.hid hchk
  have HA := Lib.hid ((Below.refl _ w).alloc (Nat.le_refl _) (.cells #[.int .i64 4, .int .i64 n, .string s] 49))
  clear hchk
  subst hs
  subst h1
  go_enter Try.func51, Try.ntmps51
  go_wp2_with fail
  go_quiet (fail)
  go_wp2_with fail
  go_ret
  exact ⟨by rw [HC.out]; rfl, below_drewN HA.out _⟩
set_option maxHeartbeats 1000000 in
theorem c4b (w : World) {n : Int} (h1 : n = 0) (s : ByteArray) (hs1 : 0 < s.size) (hs2 : s.toList ≠ []) (hs3 : s.toList.isEmpty = false) : Calls Try.prog 51 #[.agg #[.int .i64 4, .int .i64 n, .string s]] w (VB (.int .i64 (chk ⟨4, n, s⟩)) w) := by
  have HC := Lib.hid (chk_no (x := ⟨4, n, s⟩) (not_may (a := 0) (b := 0) (c := 0) rfl (Or.inr (Or.inr (by simp only; omega)))))
  have HA := Lib.hid ((Below.refl _ w).alloc (Nat.le_refl _) (.cells #[.int .i64 4, .int .i64 n, .string s] 49))
  subst h1
  go_enter Try.func51, Try.ntmps51
  go_wp2_with fail
  go_quiet (fail)
  go_wp2_with fail
  go_ret
  exact ⟨by rw [HC.out]; rfl, below_drewN HA.out _⟩
set_option maxHeartbeats 1000000 in
theorem c4e (w : World) {n : Int} (h1 : n ≠ 0) (s : ByteArray) : Calls Try.prog 51 #[.agg #[.int .i64 4, .int .i64 n, .string s]] w (VB (.int .i64 (chk ⟨4, n, s⟩)) w) := by
  have HC := Lib.hid (chk_no (x := ⟨4, n, s⟩) (not_may (a := 0) (b := 0) (c := 0) rfl (by simp only; omega)))
  have HA := Lib.hid ((Below.refl _ w).alloc (Nat.le_refl _) (.cells #[.int .i64 4, .int .i64 n, .string s] 49))
  have e1 : (n == 0) = false := by simpa using h1
  go_enter Try.func51, Try.ntmps51
  go_wp2_with fail
  go_quiet (fail)
  go_wp2_with fail
  go_ret
  exact ⟨by rw [HC.out]; rfl, below_drewN HA.out _⟩
set_option maxHeartbeats 1000000 in
theorem c5a (w : World) {n : Int} (h1 : n = 0) (s : ByteArray) (hs : s = ⟨#[]⟩) : Calls Try.prog 51 #[.agg #[.int .i64 5, .int .i64 n, .string s]] w (VB (.int .i64 (chk ⟨5, n, s⟩)) w) := by
  have hchk : chk ⟨5, n, s⟩ = 0 := chk_yes (x := ⟨5, n, s⟩) (may_of (a := 0) (b := 0) (c := 0) rfl (by rw [h1]; exact Int.le_refl _) (by rw [h1]; exact Int.le_refl _) (by rw [hs]; exact (show ((0 : Nat) : Int) ≤ 0 by decide)))
  have HC := Lib.hid hchk
  have HA := Lib.hid ((Below.refl _ w).alloc (Nat.le_refl _) (.cells #[.int .i64 5, .int .i64 n, .string s] 49))
  clear hchk
  subst hs
  subst h1
  go_enter Try.func51, Try.ntmps51
  go_wp2_with fail
  go_quiet (fail)
  go_wp2_with fail
  go_ret
  exact ⟨by rw [HC.out]; rfl, below_drewN HA.out _⟩
set_option maxHeartbeats 1000000 in
theorem c5b (w : World) {n : Int} (h1 : n = 0) (s : ByteArray) (hs1 : 0 < s.size) (hs2 : s.toList ≠ []) (hs3 : s.toList.isEmpty = false) : Calls Try.prog 51 #[.agg #[.int .i64 5, .int .i64 n, .string s]] w (VB (.int .i64 (chk ⟨5, n, s⟩)) w) := by
  have HC := Lib.hid (chk_no (x := ⟨5, n, s⟩) (not_may (a := 0) (b := 0) (c := 0) rfl (Or.inr (Or.inr (by simp only; omega)))))
  have HA := Lib.hid ((Below.refl _ w).alloc (Nat.le_refl _) (.cells #[.int .i64 5, .int .i64 n, .string s] 49))
  subst h1
  go_enter Try.func51, Try.ntmps51
  go_wp2_with fail
  go_quiet (fail)
  go_wp2_with fail
  go_ret
  exact ⟨by rw [HC.out]; rfl, below_drewN HA.out _⟩
set_option maxHeartbeats 1000000 in
theorem c5e (w : World) {n : Int} (h1 : n ≠ 0) (s : ByteArray) : Calls Try.prog 51 #[.agg #[.int .i64 5, .int .i64 n, .string s]] w (VB (.int .i64 (chk ⟨5, n, s⟩)) w) := by
  have HC := Lib.hid (chk_no (x := ⟨5, n, s⟩) (not_may (a := 0) (b := 0) (c := 0) rfl (by simp only; omega)))
  have HA := Lib.hid ((Below.refl _ w).alloc (Nat.le_refl _) (.cells #[.int .i64 5, .int .i64 n, .string s] 49))
  have e1 : (n == 0) = false := by simpa using h1
  go_enter Try.func51, Try.ntmps51
  go_wp2_with fail
  go_quiet (fail)
  go_wp2_with fail
  go_ret
  exact ⟨by rw [HC.out]; rfl, below_drewN HA.out _⟩
set_option maxHeartbeats 1000000 in
theorem c6a (w : World) {n : Int} (h1 : 0 ≤ n) (h2 : n ≤ 7) (s : ByteArray) (hs : s = ⟨#[]⟩) : Calls Try.prog 51 #[.agg #[.int .i64 6, .int .i64 n, .string s]] w (VB (.int .i64 (chk ⟨6, n, s⟩)) w) := by
  have hchk : chk ⟨6, n, s⟩ = 0 := chk_yes (x := ⟨6, n, s⟩) (may_of (a := 0) (b := 7) (c := 16) rfl h1 h2 (by rw [hs]; exact (show ((0 : Nat) : Int) ≤ 16 by decide)))
  have HC := Lib.hid hchk
  have HA := Lib.hid ((Below.refl _ w).alloc (Nat.le_refl _) (.cells #[.int .i64 6, .int .i64 n, .string s] 49))
  clear hchk
  subst hs
  have e1 : decide (0 ≤ n) = true := by simpa using h1
  have e2 : decide (n ≤ 7) = true := by simpa using h2
  go_enter Try.func51, Try.ntmps51
  go_wp2_with fail
  go_quiet (fail)
  go_wp2_with fail
  go_ret
  exact ⟨by rw [HC.out]; rfl, below_drewN HA.out _⟩
set_option maxHeartbeats 1000000 in
theorem c6b (w : World) {n : Int} (h1 : 0 ≤ n) (h2 : n ≤ 7) (s : ByteArray) (hs1 : 0 < s.size) (hs2 : s.toList ≠ []) (hs3 : s.toList.isEmpty = false) (h3 : (s.size : Int) ≤ 16) : Calls Try.prog 51 #[.agg #[.int .i64 6, .int .i64 n, .string s]] w (VB (.int .i64 (chk ⟨6, n, s⟩)) w) := by
  have HC := Lib.hid (chk_yes (x := ⟨6, n, s⟩) (may_of (a := 0) (b := 7) (c := 16) rfl h1 h2 h3))
  have HA := Lib.hid ((Below.refl _ w).alloc (Nat.le_refl _) (.cells #[.int .i64 6, .int .i64 n, .string s] 49))
  have e1 : decide (0 ≤ n) = true := by simpa using h1
  have e2 : decide (n ≤ 7) = true := by simpa using h2
  have e3 : decide ((s.size : Int) ≤ 16) = true := by simpa using h3
  go_enter Try.func51, Try.ntmps51
  go_wp2_with fail
  go_quiet (fail)
  go_wp2_with fail
  go_ret
  exact ⟨by rw [HC.out]; rfl, below_drewN HA.out _⟩
set_option maxHeartbeats 1000000 in
theorem c6d (w : World) {n : Int} (h1 : 0 ≤ n) (h2 : n ≤ 7) (s : ByteArray) (hs1 : 0 < s.size) (hs2 : s.toList ≠ []) (hs3 : s.toList.isEmpty = false) (h3 : ¬ (s.size : Int) ≤ 16) : Calls Try.prog 51 #[.agg #[.int .i64 6, .int .i64 n, .string s]] w (VB (.int .i64 (chk ⟨6, n, s⟩)) w) := by
  have HC := Lib.hid (chk_no (x := ⟨6, n, s⟩) (not_may (a := 0) (b := 7) (c := 16) rfl (Or.inr (Or.inr (by simp only; omega)))))
  have HA := Lib.hid ((Below.refl _ w).alloc (Nat.le_refl _) (.cells #[.int .i64 6, .int .i64 n, .string s] 49))
  have e1 : decide (0 ≤ n) = true := by simpa using h1
  have e2 : decide (n ≤ 7) = true := by simpa using h2
  have e3 : decide ((s.size : Int) ≤ 16) = false := by simpa using h3
  go_enter Try.func51, Try.ntmps51
  go_wp2_with fail
  go_quiet (fail)
  go_wp2_with fail
  go_ret
  exact ⟨by rw [HC.out]; rfl, below_drewN HA.out _⟩
set_option maxHeartbeats 1000000 in
theorem c6e (w : World) {n : Int} (h1 : n < 0) (s : ByteArray) : Calls Try.prog 51 #[.agg #[.int .i64 6, .int .i64 n, .string s]] w (VB (.int .i64 (chk ⟨6, n, s⟩)) w) := by
  have HC := Lib.hid (chk_no (x := ⟨6, n, s⟩) (not_may (a := 0) (b := 7) (c := 16) rfl (Or.inl h1)))
  have HA := Lib.hid ((Below.refl _ w).alloc (Nat.le_refl _) (.cells #[.int .i64 6, .int .i64 n, .string s] 49))
  have e1 : decide (0 ≤ n) = false := by simp; omega
  go_enter Try.func51, Try.ntmps51
  go_wp2_with fail
  go_quiet (fail)
  go_wp2_with fail
  go_ret
  exact ⟨by rw [HC.out]; rfl, below_drewN HA.out _⟩
set_option maxHeartbeats 1000000 in
theorem c6f (w : World) {n : Int} (h1 : 7 < n) (s : ByteArray) : Calls Try.prog 51 #[.agg #[.int .i64 6, .int .i64 n, .string s]] w (VB (.int .i64 (chk ⟨6, n, s⟩)) w) := by
  have HC := Lib.hid (chk_no (x := ⟨6, n, s⟩) (not_may (a := 0) (b := 7) (c := 16) rfl (Or.inr (Or.inl h1))))
  have HA := Lib.hid ((Below.refl _ w).alloc (Nat.le_refl _) (.cells #[.int .i64 6, .int .i64 n, .string s] 49))
  have e1 : decide (0 ≤ n) = true := by simp; omega
  have e2 : decide (n ≤ 7) = false := by simp; omega
  go_enter Try.func51, Try.ntmps51
  go_wp2_with fail
  go_quiet (fail)
  go_wp2_with fail
  go_ret
  exact ⟨by rw [HC.out]; rfl, below_drewN HA.out _⟩
set_option maxHeartbeats 1000000 in
theorem c7a (w : World) {n : Int} (h1 : 0 ≤ n) (h2 : n ≤ 7) (s : ByteArray) (hs : s = ⟨#[]⟩) : Calls Try.prog 51 #[.agg #[.int .i64 7, .int .i64 n, .string s]] w (VB (.int .i64 (chk ⟨7, n, s⟩)) w) := by
  have hchk : chk ⟨7, n, s⟩ = 0 := chk_yes (x := ⟨7, n, s⟩) (may_of (a := 0) (b := 7) (c := 0) rfl h1 h2 (by rw [hs]; exact (show ((0 : Nat) : Int) ≤ 0 by decide)))
  have HC := Lib.hid hchk
  have HA := Lib.hid ((Below.refl _ w).alloc (Nat.le_refl _) (.cells #[.int .i64 7, .int .i64 n, .string s] 49))
  clear hchk
  subst hs
  have e1 : decide (0 ≤ n) = true := by simpa using h1
  have e2 : decide (n ≤ 7) = true := by simpa using h2
  go_enter Try.func51, Try.ntmps51
  go_wp2_with fail
  go_quiet (fail)
  go_wp2_with fail
  go_ret
  exact ⟨by rw [HC.out]; rfl, below_drewN HA.out _⟩
set_option maxHeartbeats 1000000 in
theorem c7b (w : World) {n : Int} (h1 : 0 ≤ n) (h2 : n ≤ 7) (s : ByteArray) (hs1 : 0 < s.size) (hs2 : s.toList ≠ []) (hs3 : s.toList.isEmpty = false) : Calls Try.prog 51 #[.agg #[.int .i64 7, .int .i64 n, .string s]] w (VB (.int .i64 (chk ⟨7, n, s⟩)) w) := by
  have HC := Lib.hid (chk_no (x := ⟨7, n, s⟩) (not_may (a := 0) (b := 7) (c := 0) rfl (Or.inr (Or.inr (by simp only; omega)))))
  have HA := Lib.hid ((Below.refl _ w).alloc (Nat.le_refl _) (.cells #[.int .i64 7, .int .i64 n, .string s] 49))
  have e1 : decide (0 ≤ n) = true := by simpa using h1
  have e2 : decide (n ≤ 7) = true := by simpa using h2
  go_enter Try.func51, Try.ntmps51
  go_wp2_with fail
  go_quiet (fail)
  go_wp2_with fail
  go_ret
  exact ⟨by rw [HC.out]; rfl, below_drewN HA.out _⟩
set_option maxHeartbeats 1000000 in
theorem c7e (w : World) {n : Int} (h1 : n < 0) (s : ByteArray) : Calls Try.prog 51 #[.agg #[.int .i64 7, .int .i64 n, .string s]] w (VB (.int .i64 (chk ⟨7, n, s⟩)) w) := by
  have HC := Lib.hid (chk_no (x := ⟨7, n, s⟩) (not_may (a := 0) (b := 7) (c := 0) rfl (Or.inl h1)))
  have HA := Lib.hid ((Below.refl _ w).alloc (Nat.le_refl _) (.cells #[.int .i64 7, .int .i64 n, .string s] 49))
  have e1 : decide (0 ≤ n) = false := by simp; omega
  go_enter Try.func51, Try.ntmps51
  go_wp2_with fail
  go_quiet (fail)
  go_wp2_with fail
  go_ret
  exact ⟨by rw [HC.out]; rfl, below_drewN HA.out _⟩
set_option maxHeartbeats 1000000 in
theorem c7f (w : World) {n : Int} (h1 : 7 < n) (s : ByteArray) : Calls Try.prog 51 #[.agg #[.int .i64 7, .int .i64 n, .string s]] w (VB (.int .i64 (chk ⟨7, n, s⟩)) w) := by
  have HC := Lib.hid (chk_no (x := ⟨7, n, s⟩) (not_may (a := 0) (b := 7) (c := 0) rfl (Or.inr (Or.inl h1))))
  have HA := Lib.hid ((Below.refl _ w).alloc (Nat.le_refl _) (.cells #[.int .i64 7, .int .i64 n, .string s] 49))
  have e1 : decide (0 ≤ n) = true := by simp; omega
  have e2 : decide (n ≤ 7) = false := by simp; omega
  go_enter Try.func51, Try.ntmps51
  go_wp2_with fail
  go_quiet (fail)
  go_wp2_with fail
  go_ret
  exact ⟨by rw [HC.out]; rfl, below_drewN HA.out _⟩
set_option maxHeartbeats 1000000 in
theorem c8a (w : World) {n : Int} (h1 : 1 ≤ n) (h2 : n ≤ 64) (s : ByteArray) (hs : s = ⟨#[]⟩) : Calls Try.prog 51 #[.agg #[.int .i64 8, .int .i64 n, .string s]] w (VB (.int .i64 (chk ⟨8, n, s⟩)) w) := by
  have hchk : chk ⟨8, n, s⟩ = 0 := chk_yes (x := ⟨8, n, s⟩) (may_of (a := 1) (b := 64) (c := 0) rfl h1 h2 (by rw [hs]; exact (show ((0 : Nat) : Int) ≤ 0 by decide)))
  have HC := Lib.hid hchk
  have HA := Lib.hid ((Below.refl _ w).alloc (Nat.le_refl _) (.cells #[.int .i64 8, .int .i64 n, .string s] 49))
  clear hchk
  subst hs
  have e1 : decide (1 ≤ n) = true := by simpa using h1
  have e2 : decide (n ≤ 64) = true := by simpa using h2
  go_enter Try.func51, Try.ntmps51
  go_wp2_with fail
  go_quiet (fail)
  go_wp2_with fail
  go_ret
  exact ⟨by rw [HC.out]; rfl, below_drewN HA.out _⟩
set_option maxHeartbeats 1000000 in
theorem c8b (w : World) {n : Int} (h1 : 1 ≤ n) (h2 : n ≤ 64) (s : ByteArray) (hs1 : 0 < s.size) (hs2 : s.toList ≠ []) (hs3 : s.toList.isEmpty = false) : Calls Try.prog 51 #[.agg #[.int .i64 8, .int .i64 n, .string s]] w (VB (.int .i64 (chk ⟨8, n, s⟩)) w) := by
  have HC := Lib.hid (chk_no (x := ⟨8, n, s⟩) (not_may (a := 1) (b := 64) (c := 0) rfl (Or.inr (Or.inr (by simp only; omega)))))
  have HA := Lib.hid ((Below.refl _ w).alloc (Nat.le_refl _) (.cells #[.int .i64 8, .int .i64 n, .string s] 49))
  have e1 : decide (1 ≤ n) = true := by simpa using h1
  have e2 : decide (n ≤ 64) = true := by simpa using h2
  go_enter Try.func51, Try.ntmps51
  go_wp2_with fail
  go_quiet (fail)
  go_wp2_with fail
  go_ret
  exact ⟨by rw [HC.out]; rfl, below_drewN HA.out _⟩
set_option maxHeartbeats 1000000 in
theorem c8e (w : World) {n : Int} (h1 : n < 1) (s : ByteArray) : Calls Try.prog 51 #[.agg #[.int .i64 8, .int .i64 n, .string s]] w (VB (.int .i64 (chk ⟨8, n, s⟩)) w) := by
  have HC := Lib.hid (chk_no (x := ⟨8, n, s⟩) (not_may (a := 1) (b := 64) (c := 0) rfl (Or.inl h1)))
  have HA := Lib.hid ((Below.refl _ w).alloc (Nat.le_refl _) (.cells #[.int .i64 8, .int .i64 n, .string s] 49))
  have e1 : decide (1 ≤ n) = false := by simp; omega
  go_enter Try.func51, Try.ntmps51
  go_wp2_with fail
  go_quiet (fail)
  go_wp2_with fail
  go_ret
  exact ⟨by rw [HC.out]; rfl, below_drewN HA.out _⟩
set_option maxHeartbeats 1000000 in
theorem c8f (w : World) {n : Int} (h1 : 64 < n) (s : ByteArray) : Calls Try.prog 51 #[.agg #[.int .i64 8, .int .i64 n, .string s]] w (VB (.int .i64 (chk ⟨8, n, s⟩)) w) := by
  have HC := Lib.hid (chk_no (x := ⟨8, n, s⟩) (not_may (a := 1) (b := 64) (c := 0) rfl (Or.inr (Or.inl h1))))
  have HA := Lib.hid ((Below.refl _ w).alloc (Nat.le_refl _) (.cells #[.int .i64 8, .int .i64 n, .string s] 49))
  have e1 : decide (1 ≤ n) = true := by simp; omega
  have e2 : decide (n ≤ 64) = false := by simp; omega
  go_enter Try.func51, Try.ntmps51
  go_wp2_with fail
  go_quiet (fail)
  go_wp2_with fail
  go_ret
  exact ⟨by rw [HC.out]; rfl, below_drewN HA.out _⟩
set_option maxHeartbeats 1000000 in
theorem c9 (w : World) {k : Int} (q : (k == 1) = false ∧ (k == 2) = false ∧ (k == 3) = false ∧ (k == 4) = false ∧ (k == 5) = false ∧ (k == 6) = false ∧ (k == 7) = false ∧ (k == 8) = false) (n : Int) (s : ByteArray) : Calls Try.prog 51 #[.agg #[.int .i64 k, .int .i64 n, .string s]] w (VB (.int .i64 (chk ⟨k, n, s⟩)) w) := by
  have HC := Lib.hid (chk_no (x := ⟨k, n, s⟩) (not_may_none (bnd_none q)))
  have HA := Lib.hid ((Below.refl _ w).alloc (Nat.le_refl _) (.cells #[.int .i64 k, .int .i64 n, .string s] 49))
  obtain ⟨q1, q2, q3, q4, q5, q6, q7, q8⟩ := q
  go_enter Try.func51, Try.ntmps51
  go_wp2_with fail
  go_quiet (fail)
  go_wp2_with fail
  go_ret
  exact ⟨by rw [HC.out]; rfl, below_drewN HA.out _⟩
theorem rcheck_any (x : Ak) (w : World) : Calls Try.prog 51 #[.agg #[.int .i64 x.k, .int .i64 x.n, .string x.s]] w (VB (.int .i64 (chk x)) w) := by
  obtain ⟨k, n, s⟩ := x
  simp only
  rcases kinds k with rfl | rfl | rfl | rfl | rfl | rfl | rfl | rfl | q
  · by_cases h1 : n < 1
    · exact c1e w h1 s
    by_cases h2 : 64 < n
    · exact c1f w h2 s
    · rcases empty_or s with hs | ⟨s1, s2, s3⟩
      · exact c1a w (by omega) (by omega) s hs
      · exact c1b w (by omega) (by omega) s s1 s2 s3
  · by_cases h1 : n < 0
    · exact c2e w h1 s
    by_cases h2 : 7 < n
    · exact c2f w h2 s
    · rcases empty_or s with hs | ⟨s1, s2, s3⟩
      · exact c2a w (by omega) (by omega) s hs
      · exact c2b w (by omega) (by omega) s s1 s2 s3
  · by_cases h1 : n = 0
    · rcases empty_or s with hs | ⟨s1, s2, s3⟩
      · exact c3a w h1 s hs
      · exact c3b w h1 s s1 s2 s3
    · exact c3e w h1 s
  · by_cases h1 : n = 0
    · rcases empty_or s with hs | ⟨s1, s2, s3⟩
      · exact c4a w h1 s hs
      · exact c4b w h1 s s1 s2 s3
    · exact c4e w h1 s
  · by_cases h1 : n = 0
    · rcases empty_or s with hs | ⟨s1, s2, s3⟩
      · exact c5a w h1 s hs
      · exact c5b w h1 s s1 s2 s3
    · exact c5e w h1 s
  · by_cases h1 : n < 0
    · exact c6e w h1 s
    by_cases h2 : 7 < n
    · exact c6f w h2 s
    · rcases empty_or s with hs | ⟨s1, s2, s3⟩
      · exact c6a w (by omega) (by omega) s hs
      · by_cases h3 : (s.size : Int) ≤ 16
        · exact c6b w (by omega) (by omega) s s1 s2 s3 h3
        · exact c6d w (by omega) (by omega) s s1 s2 s3 h3
  · by_cases h1 : n < 0
    · exact c7e w h1 s
    by_cases h2 : 7 < n
    · exact c7f w h2 s
    · rcases empty_or s with hs | ⟨s1, s2, s3⟩
      · exact c7a w (by omega) (by omega) s hs
      · exact c7b w (by omega) (by omega) s s1 s2 s3
  · by_cases h1 : n < 1
    · exact c8e w h1 s
    by_cases h2 : 64 < n
    · exact c8f w h2 s
    · rcases empty_or s with hs | ⟨s1, s2, s3⟩
      · exact c8a w (by omega) (by omega) s hs
      · exact c8b w (by omega) (by omega) s s1 s2 s3
  · exact c9 w q n s
end Go.Proofs.Ytoggnofdgmhbmaa
