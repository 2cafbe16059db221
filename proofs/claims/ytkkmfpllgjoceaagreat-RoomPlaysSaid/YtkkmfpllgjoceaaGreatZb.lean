/- The document's Check. -/
import Derived.Test.YtkkmfpllgjoceaaGreatZa
namespace Go.Proofs.YtkkmfpllgjoceaaGreat
open Go.RowKit Ac
set_option linter.unusedVariables false
set_option maxRecDepth 100000

theorem empty_or (s : ByteArray) : s = ⟨#[]⟩ ∨ (0 < s.size ∧ s.toList ≠ [] ∧ s.toList.isEmpty = false) := by
  by_cases h : s.size = 0
  · left
    obtain ⟨d⟩ := s
    have hd : d = #[] := Array.size_eq_zero_iff.1 h
    rw [hd]
  · right
    have hl : s.toList ≠ [] := by
      intro e
      apply h
      have : s.toList.length = s.size := by rw [ByteArray.toList_eq]; rfl
      rw [← this, e]; rfl
    exact ⟨by omega, hl, by cases hs : s.toList with
      | nil => exact absurd hs hl
      | cons _ _ => rfl⟩
theorem below_drewN {B : Nat} {a b : World} (h : Below B a b) (n : Nat) : Below B a (b.drewN n) := ⟨h.os, h.tape, h.output, h.size, h.block⟩
set_option maxHeartbeats 1000000 in
theorem c1a (w : World) {n : Int} (h1 : 1 ≤ n) (h2 : n ≤ 64) (s : ByteArray) (hs : s = ⟨#[]⟩) : Calls Tryz.prog 198 #[.agg #[.int .i64 1, .int .i64 n, .string s]] w (VB (.int .i64 (chk ⟨1, n, s⟩)) w) := by
  have hchk : chk ⟨1, n, s⟩ = 0 := chk_yes (x := ⟨1, n, s⟩) (may_of (a := 1) (b := 64) (c := 0) rfl h1 h2 (by rw [hs]; exact (show ((0 : Nat) : Int) ≤ 0 by decide)))
  have HC := Lib.hid hchk
  have HA := Lib.hid ((Below.refl _ w).alloc (Nat.le_refl _) (.cells #[.int .i64 1, .int .i64 n, .string s] 57))
  clear hchk
  subst hs
  have e1 : decide (1 ≤ n) = true := by simpa using h1
  have e2 : decide (n ≤ 64) = true := by simpa using h2
  go_enter Tryz.func198, Tryz.ntmps198
  go_wp2_with fail
  go_quiet (fail)
  go_wp2_with fail
  go_ret
  exact ⟨by rw [HC.out]; rfl, below_drewN HA.out _⟩
set_option maxHeartbeats 1000000 in
theorem c1b (w : World) {n : Int} (h1 : 1 ≤ n) (h2 : n ≤ 64) (s : ByteArray) (hs1 : 0 < s.size) (hs2 : s.toList ≠ []) (hs3 : s.toList.isEmpty = false) : Calls Tryz.prog 198 #[.agg #[.int .i64 1, .int .i64 n, .string s]] w (VB (.int .i64 (chk ⟨1, n, s⟩)) w) := by
  have HC := Lib.hid (chk_no (x := ⟨1, n, s⟩) (not_may (a := 1) (b := 64) (c := 0) rfl (Or.inr (Or.inr (by simp only; omega)))))
  have HA := Lib.hid ((Below.refl _ w).alloc (Nat.le_refl _) (.cells #[.int .i64 1, .int .i64 n, .string s] 57))
  have e1 : decide (1 ≤ n) = true := by simpa using h1
  have e2 : decide (n ≤ 64) = true := by simpa using h2
  go_enter Tryz.func198, Tryz.ntmps198
  go_wp2_with fail
  go_quiet (fail)
  go_wp2_with fail
  go_ret
  exact ⟨by rw [HC.out]; rfl, below_drewN HA.out _⟩
set_option maxHeartbeats 1000000 in
theorem c1e (w : World) {n : Int} (h1 : n < 1) (s : ByteArray) : Calls Tryz.prog 198 #[.agg #[.int .i64 1, .int .i64 n, .string s]] w (VB (.int .i64 (chk ⟨1, n, s⟩)) w) := by
  have HC := Lib.hid (chk_no (x := ⟨1, n, s⟩) (not_may (a := 1) (b := 64) (c := 0) rfl (Or.inl h1)))
  have HA := Lib.hid ((Below.refl _ w).alloc (Nat.le_refl _) (.cells #[.int .i64 1, .int .i64 n, .string s] 57))
  have e1 : decide (1 ≤ n) = false := by simp; omega
  go_enter Tryz.func198, Tryz.ntmps198
  go_wp2_with fail
  go_quiet (fail)
  go_wp2_with fail
  go_ret
  exact ⟨by rw [HC.out]; rfl, below_drewN HA.out _⟩
set_option maxHeartbeats 1000000 in
theorem c1f (w : World) {n : Int} (h1 : 64 < n) (s : ByteArray) : Calls Tryz.prog 198 #[.agg #[.int .i64 1, .int .i64 n, .string s]] w (VB (.int .i64 (chk ⟨1, n, s⟩)) w) := by
  have HC := Lib.hid (chk_no (x := ⟨1, n, s⟩) (not_may (a := 1) (b := 64) (c := 0) rfl (Or.inr (Or.inl h1))))
  have HA := Lib.hid ((Below.refl _ w).alloc (Nat.le_refl _) (.cells #[.int .i64 1, .int .i64 n, .string s] 57))
  have e1 : decide (1 ≤ n) = true := by simp; omega
  have e2 : decide (n ≤ 64) = false := by simp; omega
  go_enter Tryz.func198, Tryz.ntmps198
  go_wp2_with fail
  go_quiet (fail)
  go_wp2_with fail
  go_ret
  exact ⟨by rw [HC.out]; rfl, below_drewN HA.out _⟩
set_option maxHeartbeats 1000000 in
theorem c2a (w : World) {n : Int} (h1 : 0 ≤ n) (h2 : n ≤ 7) (s : ByteArray) (hs : s = ⟨#[]⟩) : Calls Tryz.prog 198 #[.agg #[.int .i64 2, .int .i64 n, .string s]] w (VB (.int .i64 (chk ⟨2, n, s⟩)) w) := by
  have hchk : chk ⟨2, n, s⟩ = 0 := chk_yes (x := ⟨2, n, s⟩) (may_of (a := 0) (b := 7) (c := 0) rfl h1 h2 (by rw [hs]; exact (show ((0 : Nat) : Int) ≤ 0 by decide)))
  have HC := Lib.hid hchk
  have HA := Lib.hid ((Below.refl _ w).alloc (Nat.le_refl _) (.cells #[.int .i64 2, .int .i64 n, .string s] 57))
  clear hchk
  subst hs
  have e1 : decide (0 ≤ n) = true := by simpa using h1
  have e2 : decide (n ≤ 7) = true := by simpa using h2
  go_enter Tryz.func198, Tryz.ntmps198
  go_wp2_with fail
  go_quiet (fail)
  go_wp2_with fail
  go_ret
  exact ⟨by rw [HC.out]; rfl, below_drewN HA.out _⟩
set_option maxHeartbeats 1000000 in
theorem c2b (w : World) {n : Int} (h1 : 0 ≤ n) (h2 : n ≤ 7) (s : ByteArray) (hs1 : 0 < s.size) (hs2 : s.toList ≠ []) (hs3 : s.toList.isEmpty = false) : Calls Tryz.prog 198 #[.agg #[.int .i64 2, .int .i64 n, .string s]] w (VB (.int .i64 (chk ⟨2, n, s⟩)) w) := by
  have HC := Lib.hid (chk_no (x := ⟨2, n, s⟩) (not_may (a := 0) (b := 7) (c := 0) rfl (Or.inr (Or.inr (by simp only; omega)))))
  have HA := Lib.hid ((Below.refl _ w).alloc (Nat.le_refl _) (.cells #[.int .i64 2, .int .i64 n, .string s] 57))
  have e1 : decide (0 ≤ n) = true := by simpa using h1
  have e2 : decide (n ≤ 7) = true := by simpa using h2
  go_enter Tryz.func198, Tryz.ntmps198
  go_wp2_with fail
  go_quiet (fail)
  go_wp2_with fail
  go_ret
  exact ⟨by rw [HC.out]; rfl, below_drewN HA.out _⟩
set_option maxHeartbeats 1000000 in
theorem c2e (w : World) {n : Int} (h1 : n < 0) (s : ByteArray) : Calls Tryz.prog 198 #[.agg #[.int .i64 2, .int .i64 n, .string s]] w (VB (.int .i64 (chk ⟨2, n, s⟩)) w) := by
  have HC := Lib.hid (chk_no (x := ⟨2, n, s⟩) (not_may (a := 0) (b := 7) (c := 0) rfl (Or.inl h1)))
  have HA := Lib.hid ((Below.refl _ w).alloc (Nat.le_refl _) (.cells #[.int .i64 2, .int .i64 n, .string s] 57))
  have e1 : decide (0 ≤ n) = false := by simp; omega
  go_enter Tryz.func198, Tryz.ntmps198
  go_wp2_with fail
  go_quiet (fail)
  go_wp2_with fail
  go_ret
  exact ⟨by rw [HC.out]; rfl, below_drewN HA.out _⟩
set_option maxHeartbeats 1000000 in
theorem c2f (w : World) {n : Int} (h1 : 7 < n) (s : ByteArray) : Calls Tryz.prog 198 #[.agg #[.int .i64 2, .int .i64 n, .string s]] w (VB (.int .i64 (chk ⟨2, n, s⟩)) w) := by
  have HC := Lib.hid (chk_no (x := ⟨2, n, s⟩) (not_may (a := 0) (b := 7) (c := 0) rfl (Or.inr (Or.inl h1))))
  have HA := Lib.hid ((Below.refl _ w).alloc (Nat.le_refl _) (.cells #[.int .i64 2, .int .i64 n, .string s] 57))
  have e1 : decide (0 ≤ n) = true := by simp; omega
  have e2 : decide (n ≤ 7) = false := by simp; omega
  go_enter Tryz.func198, Tryz.ntmps198
  go_wp2_with fail
  go_quiet (fail)
  go_wp2_with fail
  go_ret
  exact ⟨by rw [HC.out]; rfl, below_drewN HA.out _⟩
set_option maxHeartbeats 1000000 in
theorem c3a (w : World) {n : Int} (h1 : n = 0) (s : ByteArray) (hs : s = ⟨#[]⟩) : Calls Tryz.prog 198 #[.agg #[.int .i64 3, .int .i64 n, .string s]] w (VB (.int .i64 (chk ⟨3, n, s⟩)) w) := by
  have hchk : chk ⟨3, n, s⟩ = 0 := chk_yes (x := ⟨3, n, s⟩) (may_of (a := 0) (b := 0) (c := 0) rfl (by rw [h1]; exact Int.le_refl _) (by rw [h1]; exact Int.le_refl _) (by rw [hs]; exact (show ((0 : Nat) : Int) ≤ 0 by decide)))
  have HC := Lib.hid hchk
  have HA := Lib.hid ((Below.refl _ w).alloc (Nat.le_refl _) (.cells #[.int .i64 3, .int .i64 n, .string s] 57))
  clear hchk
  subst hs
  subst h1
  go_enter Tryz.func198, Tryz.ntmps198
  go_wp2_with fail
  go_quiet (fail)
  go_wp2_with fail
  go_ret
  exact ⟨by rw [HC.out]; rfl, below_drewN HA.out _⟩
set_option maxHeartbeats 1000000 in
theorem c3b (w : World) {n : Int} (h1 : n = 0) (s : ByteArray) (hs1 : 0 < s.size) (hs2 : s.toList ≠ []) (hs3 : s.toList.isEmpty = false) : Calls Tryz.prog 198 #[.agg #[.int .i64 3, .int .i64 n, .string s]] w (VB (.int .i64 (chk ⟨3, n, s⟩)) w) := by
  have HC := Lib.hid (chk_no (x := ⟨3, n, s⟩) (not_may (a := 0) (b := 0) (c := 0) rfl (Or.inr (Or.inr (by simp only; omega)))))
  have HA := Lib.hid ((Below.refl _ w).alloc (Nat.le_refl _) (.cells #[.int .i64 3, .int .i64 n, .string s] 57))
  subst h1
  go_enter Tryz.func198, Tryz.ntmps198
  go_wp2_with fail
  go_quiet (fail)
  go_wp2_with fail
  go_ret
  exact ⟨by rw [HC.out]; rfl, below_drewN HA.out _⟩
set_option maxHeartbeats 1000000 in
theorem c3e (w : World) {n : Int} (h1 : n ≠ 0) (s : ByteArray) : Calls Tryz.prog 198 #[.agg #[.int .i64 3, .int .i64 n, .string s]] w (VB (.int .i64 (chk ⟨3, n, s⟩)) w) := by
  have HC := Lib.hid (chk_no (x := ⟨3, n, s⟩) (not_may (a := 0) (b := 0) (c := 0) rfl (by simp only; omega)))
  have HA := Lib.hid ((Below.refl _ w).alloc (Nat.le_refl _) (.cells #[.int .i64 3, .int .i64 n, .string s] 57))
  have e1 : (n == 0) = false := by simpa using h1
  go_enter Tryz.func198, Tryz.ntmps198
  go_wp2_with fail
  go_quiet (fail)
  go_wp2_with fail
  go_ret
  exact ⟨by rw [HC.out]; rfl, below_drewN HA.out _⟩
set_option maxHeartbeats 1000000 in
theorem c4a (w : World) {n : Int} (h1 : n = 0) (s : ByteArray) (hs : s = ⟨#[]⟩) : Calls Tryz.prog 198 #[.agg #[.int .i64 4, .int .i64 n, .string s]] w (VB (.int .i64 (chk ⟨4, n, s⟩)) w) := by
  have hchk : chk ⟨4, n, s⟩ = 0 := chk_yes (x := ⟨4, n, s⟩) (may_of (a := 0) (b := 0) (c := 0) rfl (by rw [h1]; exact Int.le_refl _) (by rw [h1]; exact Int.le_refl _) (by rw [hs]; exact (show ((0 : Nat) : Int) ≤ 0 by decide)))
  have HC := Lib.hid hchk
  have HA := Lib.hid ((Below.refl _ w).alloc (Nat.le_refl _) (.cells #[.int .i64 4, .int .i64 n, .string s] 57))
  clear hchk
  subst hs
  subst h1
  go_enter Tryz.func198, Tryz.ntmps198
  go_wp2_with fail
  go_quiet (fail)
  go_wp2_with fail
  go_ret
  exact ⟨by rw [HC.out]; rfl, below_drewN HA.out _⟩
set_option maxHeartbeats 1000000 in
theorem c4b (w : World) {n : Int} (h1 : n = 0) (s : ByteArray) (hs1 : 0 < s.size) (hs2 : s.toList ≠ []) (hs3 : s.toList.isEmpty = false) : Calls Tryz.prog 198 #[.agg #[.int .i64 4, .int .i64 n, .string s]] w (VB (.int .i64 (chk ⟨4, n, s⟩)) w) := by
  have HC := Lib.hid (chk_no (x := ⟨4, n, s⟩) (not_may (a := 0) (b := 0) (c := 0) rfl (Or.inr (Or.inr (by simp only; omega)))))
  have HA := Lib.hid ((Below.refl _ w).alloc (Nat.le_refl _) (.cells #[.int .i64 4, .int .i64 n, .string s] 57))
  subst h1
  go_enter Tryz.func198, Tryz.ntmps198
  go_wp2_with fail
  go_quiet (fail)
  go_wp2_with fail
  go_ret
  exact ⟨by rw [HC.out]; rfl, below_drewN HA.out _⟩
set_option maxHeartbeats 1000000 in
theorem c4e (w : World) {n : Int} (h1 : n ≠ 0) (s : ByteArray) : Calls Tryz.prog 198 #[.agg #[.int .i64 4, .int .i64 n, .string s]] w (VB (.int .i64 (chk ⟨4, n, s⟩)) w) := by
  have HC := Lib.hid (chk_no (x := ⟨4, n, s⟩) (not_may (a := 0) (b := 0) (c := 0) rfl (by simp only; omega)))
  have HA := Lib.hid ((Below.refl _ w).alloc (Nat.le_refl _) (.cells #[.int .i64 4, .int .i64 n, .string s] 57))
  have e1 : (n == 0) = false := by simpa using h1
  go_enter Tryz.func198, Tryz.ntmps198
  go_wp2_with fail
  go_quiet (fail)
  go_wp2_with fail
  go_ret
  exact ⟨by rw [HC.out]; rfl, below_drewN HA.out _⟩
set_option maxHeartbeats 1000000 in
theorem c5a (w : World) {n : Int} (h1 : n = 0) (s : ByteArray) (hs : s = ⟨#[]⟩) : Calls Tryz.prog 198 #[.agg #[.int .i64 5, .int .i64 n, .string s]] w (VB (.int .i64 (chk ⟨5, n, s⟩)) w) := by
  have hchk : chk ⟨5, n, s⟩ = 0 := chk_yes (x := ⟨5, n, s⟩) (may_of (a := 0) (b := 0) (c := 0) rfl (by rw [h1]; exact Int.le_refl _) (by rw [h1]; exact Int.le_refl _) (by rw [hs]; exact (show ((0 : Nat) : Int) ≤ 0 by decide)))
  have HC := Lib.hid hchk
  have HA := Lib.hid ((Below.refl _ w).alloc (Nat.le_refl _) (.cells #[.int .i64 5, .int .i64 n, .string s] 57))
  clear hchk
  subst hs
  subst h1
  go_enter Tryz.func198, Tryz.ntmps198
  go_wp2_with fail
  go_quiet (fail)
  go_wp2_with fail
  go_ret
  exact ⟨by rw [HC.out]; rfl, below_drewN HA.out _⟩
set_option maxHeartbeats 1000000 in
theorem c5b (w : World) {n : Int} (h1 : n = 0) (s : ByteArray) (hs1 : 0 < s.size) (hs2 : s.toList ≠ []) (hs3 : s.toList.isEmpty = false) : Calls Tryz.prog 198 #[.agg #[.int .i64 5, .int .i64 n, .string s]] w (VB (.int .i64 (chk ⟨5, n, s⟩)) w) := by
  have HC := Lib.hid (chk_no (x := ⟨5, n, s⟩) (not_may (a := 0) (b := 0) (c := 0) rfl (Or.inr (Or.inr (by simp only; omega)))))
  have HA := Lib.hid ((Below.refl _ w).alloc (Nat.le_refl _) (.cells #[.int .i64 5, .int .i64 n, .string s] 57))
  subst h1
  go_enter Tryz.func198, Tryz.ntmps198
  go_wp2_with fail
  go_quiet (fail)
  go_wp2_with fail
  go_ret
  exact ⟨by rw [HC.out]; rfl, below_drewN HA.out _⟩
set_option maxHeartbeats 1000000 in
theorem c5e (w : World) {n : Int} (h1 : n ≠ 0) (s : ByteArray) : Calls Tryz.prog 198 #[.agg #[.int .i64 5, .int .i64 n, .string s]] w (VB (.int .i64 (chk ⟨5, n, s⟩)) w) := by
  have HC := Lib.hid (chk_no (x := ⟨5, n, s⟩) (not_may (a := 0) (b := 0) (c := 0) rfl (by simp only; omega)))
  have HA := Lib.hid ((Below.refl _ w).alloc (Nat.le_refl _) (.cells #[.int .i64 5, .int .i64 n, .string s] 57))
  have e1 : (n == 0) = false := by simpa using h1
  go_enter Tryz.func198, Tryz.ntmps198
  go_wp2_with fail
  go_quiet (fail)
  go_wp2_with fail
  go_ret
  exact ⟨by rw [HC.out]; rfl, below_drewN HA.out _⟩
set_option maxHeartbeats 1000000 in
theorem c6a (w : World) {n : Int} (h1 : 0 ≤ n) (h2 : n ≤ 7) (s : ByteArray) (hs : s = ⟨#[]⟩) : Calls Tryz.prog 198 #[.agg #[.int .i64 6, .int .i64 n, .string s]] w (VB (.int .i64 (chk ⟨6, n, s⟩)) w) := by
  have hchk : chk ⟨6, n, s⟩ = 0 := chk_yes (x := ⟨6, n, s⟩) (may_of (a := 0) (b := 7) (c := 16) rfl h1 h2 (by rw [hs]; exact (show ((0 : Nat) : Int) ≤ 16 by decide)))
  have HC := Lib.hid hchk
  have HA := Lib.hid ((Below.refl _ w).alloc (Nat.le_refl _) (.cells #[.int .i64 6, .int .i64 n, .string s] 57))
  clear hchk
  subst hs
  have e1 : decide (0 ≤ n) = true := by simpa using h1
  have e2 : decide (n ≤ 7) = true := by simpa using h2
  go_enter Tryz.func198, Tryz.ntmps198
  go_wp2_with fail
  go_quiet (fail)
  go_wp2_with fail
  go_ret
  exact ⟨by rw [HC.out]; rfl, below_drewN HA.out _⟩
set_option maxHeartbeats 1000000 in
theorem c6b (w : World) {n : Int} (h1 : 0 ≤ n) (h2 : n ≤ 7) (s : ByteArray) (hs1 : 0 < s.size) (hs2 : s.toList ≠ []) (hs3 : s.toList.isEmpty = false) (h3 : (s.size : Int) ≤ 16) : Calls Tryz.prog 198 #[.agg #[.int .i64 6, .int .i64 n, .string s]] w (VB (.int .i64 (chk ⟨6, n, s⟩)) w) := by
  have HC := Lib.hid (chk_yes (x := ⟨6, n, s⟩) (may_of (a := 0) (b := 7) (c := 16) rfl h1 h2 h3))
  have HA := Lib.hid ((Below.refl _ w).alloc (Nat.le_refl _) (.cells #[.int .i64 6, .int .i64 n, .string s] 57))
  have e1 : decide (0 ≤ n) = true := by simpa using h1
  have e2 : decide (n ≤ 7) = true := by simpa using h2
  have e3 : decide ((s.size : Int) ≤ 16) = true := by simpa using h3
  go_enter Tryz.func198, Tryz.ntmps198
  go_wp2_with fail
  go_quiet (fail)
  go_wp2_with fail
  go_ret
  exact ⟨by rw [HC.out]; rfl, below_drewN HA.out _⟩
set_option maxHeartbeats 1000000 in
theorem c6d (w : World) {n : Int} (h1 : 0 ≤ n) (h2 : n ≤ 7) (s : ByteArray) (hs1 : 0 < s.size) (hs2 : s.toList ≠ []) (hs3 : s.toList.isEmpty = false) (h3 : ¬ (s.size : Int) ≤ 16) : Calls Tryz.prog 198 #[.agg #[.int .i64 6, .int .i64 n, .string s]] w (VB (.int .i64 (chk ⟨6, n, s⟩)) w) := by
  have HC := Lib.hid (chk_no (x := ⟨6, n, s⟩) (not_may (a := 0) (b := 7) (c := 16) rfl (Or.inr (Or.inr (by simp only; omega)))))
  have HA := Lib.hid ((Below.refl _ w).alloc (Nat.le_refl _) (.cells #[.int .i64 6, .int .i64 n, .string s] 57))
  have e1 : decide (0 ≤ n) = true := by simpa using h1
  have e2 : decide (n ≤ 7) = true := by simpa using h2
  have e3 : decide ((s.size : Int) ≤ 16) = false := by simpa using h3
  go_enter Tryz.func198, Tryz.ntmps198
  go_wp2_with fail
  go_quiet (fail)
  go_wp2_with fail
  go_ret
  exact ⟨by rw [HC.out]; rfl, below_drewN HA.out _⟩
set_option maxHeartbeats 1000000 in
theorem c6e (w : World) {n : Int} (h1 : n < 0) (s : ByteArray) : Calls Tryz.prog 198 #[.agg #[.int .i64 6, .int .i64 n, .string s]] w (VB (.int .i64 (chk ⟨6, n, s⟩)) w) := by
  have HC := Lib.hid (chk_no (x := ⟨6, n, s⟩) (not_may (a := 0) (b := 7) (c := 16) rfl (Or.inl h1)))
  have HA := Lib.hid ((Below.refl _ w).alloc (Nat.le_refl _) (.cells #[.int .i64 6, .int .i64 n, .string s] 57))
  have e1 : decide (0 ≤ n) = false := by simp; omega
  go_enter Tryz.func198, Tryz.ntmps198
  go_wp2_with fail
  go_quiet (fail)
  go_wp2_with fail
  go_ret
  exact ⟨by rw [HC.out]; rfl, below_drewN HA.out _⟩
set_option maxHeartbeats 1000000 in
theorem c6f (w : World) {n : Int} (h1 : 7 < n) (s : ByteArray) : Calls Tryz.prog 198 #[.agg #[.int .i64 6, .int .i64 n, .string s]] w (VB (.int .i64 (chk ⟨6, n, s⟩)) w) := by
  have HC := Lib.hid (chk_no (x := ⟨6, n, s⟩) (not_may (a := 0) (b := 7) (c := 16) rfl (Or.inr (Or.inl h1))))
  have HA := Lib.hid ((Below.refl _ w).alloc (Nat.le_refl _) (.cells #[.int .i64 6, .int .i64 n, .string s] 57))
  have e1 : decide (0 ≤ n) = true := by simp; omega
  have e2 : decide (n ≤ 7) = false := by simp; omega
  go_enter Tryz.func198, Tryz.ntmps198
  go_wp2_with fail
  go_quiet (fail)
  go_wp2_with fail
  go_ret
  exact ⟨by rw [HC.out]; rfl, below_drewN HA.out _⟩
set_option maxHeartbeats 1000000 in
theorem c7a (w : World) {n : Int} (h1 : 0 ≤ n) (h2 : n ≤ 7) (s : ByteArray) (hs : s = ⟨#[]⟩) : Calls Tryz.prog 198 #[.agg #[.int .i64 7, .int .i64 n, .string s]] w (VB (.int .i64 (chk ⟨7, n, s⟩)) w) := by
  have hchk : chk ⟨7, n, s⟩ = 0 := chk_yes (x := ⟨7, n, s⟩) (may_of (a := 0) (b := 7) (c := 0) rfl h1 h2 (by rw [hs]; exact (show ((0 : Nat) : Int) ≤ 0 by decide)))
  have HC := Lib.hid hchk
  have HA := Lib.hid ((Below.refl _ w).alloc (Nat.le_refl _) (.cells #[.int .i64 7, .int .i64 n, .string s] 57))
  clear hchk
  subst hs
  have e1 : decide (0 ≤ n) = true := by simpa using h1
  have e2 : decide (n ≤ 7) = true := by simpa using h2
  go_enter Tryz.func198, Tryz.ntmps198
  go_wp2_with fail
  go_quiet (fail)
  go_wp2_with fail
  go_ret
  exact ⟨by rw [HC.out]; rfl, below_drewN HA.out _⟩
set_option maxHeartbeats 1000000 in
theorem c7b (w : World) {n : Int} (h1 : 0 ≤ n) (h2 : n ≤ 7) (s : ByteArray) (hs1 : 0 < s.size) (hs2 : s.toList ≠ []) (hs3 : s.toList.isEmpty = false) : Calls Tryz.prog 198 #[.agg #[.int .i64 7, .int .i64 n, .string s]] w (VB (.int .i64 (chk ⟨7, n, s⟩)) w) := by
  have HC := Lib.hid (chk_no (x := ⟨7, n, s⟩) (not_may (a := 0) (b := 7) (c := 0) rfl (Or.inr (Or.inr (by simp only; omega)))))
  have HA := Lib.hid ((Below.refl _ w).alloc (Nat.le_refl _) (.cells #[.int .i64 7, .int .i64 n, .string s] 57))
  have e1 : decide (0 ≤ n) = true := by simpa using h1
  have e2 : decide (n ≤ 7) = true := by simpa using h2
  go_enter Tryz.func198, Tryz.ntmps198
  go_wp2_with fail
  go_quiet (fail)
  go_wp2_with fail
  go_ret
  exact ⟨by rw [HC.out]; rfl, below_drewN HA.out _⟩
set_option maxHeartbeats 1000000 in
theorem c7e (w : World) {n : Int} (h1 : n < 0) (s : ByteArray) : Calls Tryz.prog 198 #[.agg #[.int .i64 7, .int .i64 n, .string s]] w (VB (.int .i64 (chk ⟨7, n, s⟩)) w) := by
  have HC := Lib.hid (chk_no (x := ⟨7, n, s⟩) (not_may (a := 0) (b := 7) (c := 0) rfl (Or.inl h1)))
  have HA := Lib.hid ((Below.refl _ w).alloc (Nat.le_refl _) (.cells #[.int .i64 7, .int .i64 n, .string s] 57))
  have e1 : decide (0 ≤ n) = false := by simp; omega
  go_enter Tryz.func198, Tryz.ntmps198
  go_wp2_with fail
  go_quiet (fail)
  go_wp2_with fail
  go_ret
  exact ⟨by rw [HC.out]; rfl, below_drewN HA.out _⟩
set_option maxHeartbeats 1000000 in
theorem c7f (w : World) {n : Int} (h1 : 7 < n) (s : ByteArray) : Calls Tryz.prog 198 #[.agg #[.int .i64 7, .int .i64 n, .string s]] w (VB (.int .i64 (chk ⟨7, n, s⟩)) w) := by
  have HC := Lib.hid (chk_no (x := ⟨7, n, s⟩) (not_may (a := 0) (b := 7) (c := 0) rfl (Or.inr (Or.inl h1))))
  have HA := Lib.hid ((Below.refl _ w).alloc (Nat.le_refl _) (.cells #[.int .i64 7, .int .i64 n, .string s] 57))
  have e1 : decide (0 ≤ n) = true := by simp; omega
  have e2 : decide (n ≤ 7) = false := by simp; omega
  go_enter Tryz.func198, Tryz.ntmps198
  go_wp2_with fail
  go_quiet (fail)
  go_wp2_with fail
  go_ret
  exact ⟨by rw [HC.out]; rfl, below_drewN HA.out _⟩
set_option maxHeartbeats 1000000 in
theorem c8a (w : World) {n : Int} (h1 : 1 ≤ n) (h2 : n ≤ 64) (s : ByteArray) (hs : s = ⟨#[]⟩) : Calls Tryz.prog 198 #[.agg #[.int .i64 8, .int .i64 n, .string s]] w (VB (.int .i64 (chk ⟨8, n, s⟩)) w) := by
  have hchk : chk ⟨8, n, s⟩ = 0 := chk_yes (x := ⟨8, n, s⟩) (may_of (a := 1) (b := 64) (c := 0) rfl h1 h2 (by rw [hs]; exact (show ((0 : Nat) : Int) ≤ 0 by decide)))
  have HC := Lib.hid hchk
  have HA := Lib.hid ((Below.refl _ w).alloc (Nat.le_refl _) (.cells #[.int .i64 8, .int .i64 n, .string s] 57))
  clear hchk
  subst hs
  have e1 : decide (1 ≤ n) = true := by simpa using h1
  have e2 : decide (n ≤ 64) = true := by simpa using h2
  go_enter Tryz.func198, Tryz.ntmps198
  go_wp2_with fail
  go_quiet (fail)
  go_wp2_with fail
  go_ret
  exact ⟨by rw [HC.out]; rfl, below_drewN HA.out _⟩
set_option maxHeartbeats 1000000 in
theorem c8b (w : World) {n : Int} (h1 : 1 ≤ n) (h2 : n ≤ 64) (s : ByteArray) (hs1 : 0 < s.size) (hs2 : s.toList ≠ []) (hs3 : s.toList.isEmpty = false) : Calls Tryz.prog 198 #[.agg #[.int .i64 8, .int .i64 n, .string s]] w (VB (.int .i64 (chk ⟨8, n, s⟩)) w) := by
  have HC := Lib.hid (chk_no (x := ⟨8, n, s⟩) (not_may (a := 1) (b := 64) (c := 0) rfl (Or.inr (Or.inr (by simp only; omega)))))
  have HA := Lib.hid ((Below.refl _ w).alloc (Nat.le_refl _) (.cells #[.int .i64 8, .int .i64 n, .string s] 57))
  have e1 : decide (1 ≤ n) = true := by simpa using h1
  have e2 : decide (n ≤ 64) = true := by simpa using h2
  go_enter Tryz.func198, Tryz.ntmps198
  go_wp2_with fail
  go_quiet (fail)
  go_wp2_with fail
  go_ret
  exact ⟨by rw [HC.out]; rfl, below_drewN HA.out _⟩
set_option maxHeartbeats 1000000 in
theorem c8e (w : World) {n : Int} (h1 : n < 1) (s : ByteArray) : Calls Tryz.prog 198 #[.agg #[.int .i64 8, .int .i64 n, .string s]] w (VB (.int .i64 (chk ⟨8, n, s⟩)) w) := by
  have HC := Lib.hid (chk_no (x := ⟨8, n, s⟩) (not_may (a := 1) (b := 64) (c := 0) rfl (Or.inl h1)))
  have HA := Lib.hid ((Below.refl _ w).alloc (Nat.le_refl _) (.cells #[.int .i64 8, .int .i64 n, .string s] 57))
  have e1 : decide (1 ≤ n) = false := by simp; omega
  go_enter Tryz.func198, Tryz.ntmps198
  go_wp2_with fail
  go_quiet (fail)
  go_wp2_with fail
  go_ret
  exact ⟨by rw [HC.out]; rfl, below_drewN HA.out _⟩
set_option maxHeartbeats 1000000 in
theorem c8f (w : World) {n : Int} (h1 : 64 < n) (s : ByteArray) : Calls Tryz.prog 198 #[.agg #[.int .i64 8, .int .i64 n, .string s]] w (VB (.int .i64 (chk ⟨8, n, s⟩)) w) := by
  have HC := Lib.hid (chk_no (x := ⟨8, n, s⟩) (not_may (a := 1) (b := 64) (c := 0) rfl (Or.inr (Or.inl h1))))
  have HA := Lib.hid ((Below.refl _ w).alloc (Nat.le_refl _) (.cells #[.int .i64 8, .int .i64 n, .string s] 57))
  have e1 : decide (1 ≤ n) = true := by simp; omega
  have e2 : decide (n ≤ 64) = false := by simp; omega
  go_enter Tryz.func198, Tryz.ntmps198
  go_wp2_with fail
  go_quiet (fail)
  go_wp2_with fail
  go_ret
  exact ⟨by rw [HC.out]; rfl, below_drewN HA.out _⟩
set_option maxHeartbeats 1000000 in
theorem c9 (w : World) {k : Int} (q : (k == 1) = false ∧ (k == 2) = false ∧ (k == 3) = false ∧ (k == 4) = false ∧ (k == 5) = false ∧ (k == 6) = false ∧ (k == 7) = false ∧ (k == 8) = false) (n : Int) (s : ByteArray) : Calls Tryz.prog 198 #[.agg #[.int .i64 k, .int .i64 n, .string s]] w (VB (.int .i64 (chk ⟨k, n, s⟩)) w) := by
  have HC := Lib.hid (chk_no (x := ⟨k, n, s⟩) (not_may_none (bnd_none q)))
  have HA := Lib.hid ((Below.refl _ w).alloc (Nat.le_refl _) (.cells #[.int .i64 k, .int .i64 n, .string s] 57))
  obtain ⟨q1, q2, q3, q4, q5, q6, q7, q8⟩ := q
  go_enter Tryz.func198, Tryz.ntmps198
  go_wp2_with fail
  go_quiet (fail)
  go_wp2_with fail
  go_ret
  exact ⟨by rw [HC.out]; rfl, below_drewN HA.out _⟩
theorem rcheck_any (x : Ak) (w : World) : Calls Tryz.prog 198 #[.agg #[.int .i64 x.k, .int .i64 x.n, .string x.s]] w (VB (.int .i64 (chk x)) w) := by
  obtain ⟨k, n, s⟩ := x
  simp only
  rcases kinds k with rfl | rfl | rfl | rfl | rfl | rfl | rfl | rfl | q
  · by_cases h1 : n < 1
    · exact c1e w h1 s
    by_cases h2 : 64 < n
    · exact c1f w h2 s
    · rcases empty_or s with hs | ⟨s1, s2, s3⟩
      · exact c1a w (by omega) (by omega) s hs
      · exact c1b w (by omega) (by omega) s s1 s2 s3
  · by_cases h1 : n < 0
    · exact c2e w h1 s
    by_cases h2 : 7 < n
    · exact c2f w h2 s
    · rcases empty_or s with hs | ⟨s1, s2, s3⟩
      · exact c2a w (by omega) (by omega) s hs
      · exact c2b w (by omega) (by omega) s s1 s2 s3
  · by_cases h1 : n = 0
    · rcases empty_or s with hs | ⟨s1, s2, s3⟩
      · exact c3a w h1 s hs
      · exact c3b w h1 s s1 s2 s3
    · exact c3e w h1 s
  · by_cases h1 : n = 0
    · rcases empty_or s with hs | ⟨s1, s2, s3⟩
      · exact c4a w h1 s hs
      · exact c4b w h1 s s1 s2 s3
    · exact c4e w h1 s
  · by_cases h1 : n = 0
    · rcases empty_or s with hs | ⟨s1, s2, s3⟩
      · exact c5a w h1 s hs
      · exact c5b w h1 s s1 s2 s3
    · exact c5e w h1 s
  · by_cases h1 : n < 0
    · exact c6e w h1 s
    by_cases h2 : 7 < n
    · exact c6f w h2 s
    · rcases empty_or s with hs | ⟨s1, s2, s3⟩
      · exact c6a w (by omega) (by omega) s hs
      · by_cases h3 : (s.size : Int) ≤ 16
        · exact c6b w (by omega) (by omega) s s1 s2 s3 h3
        · exact c6d w (by omega) (by omega) s s1 s2 s3 h3
  · by_cases h1 : n < 0
    · exact c7e w h1 s
    by_cases h2 : 7 < n
    · exact c7f w h2 s
    · rcases empty_or s with hs | ⟨s1, s2, s3⟩
      · exact c7a w (by omega) (by omega) s hs
      · exact c7b w (by omega) (by omega) s s1 s2 s3
  · by_cases h1 : n < 1
    · exact c8e w h1 s
    by_cases h2 : 64 < n
    · exact c8f w h2 s
    · rcases empty_or s with hs | ⟨s1, s2, s3⟩
      · exact c8a w (by omega) (by omega) s hs
      · exact c8b w (by omega) (by omega) s s1 s2 s3
  · exact c9 w q n s
end Go.Proofs.YtkkmfpllgjoceaaGreat

namespace Go.Proofs.YtkkmfpllgjoceaaGreat
open Go.RowKit Ac
set_option linter.unusedVariables false
set_option maxRecDepth 100000

/-- the first act is another one -/
theorem RW.put {T : TypeId} {w w' : World} {rb g : Nat} {x : Ak} {t : List Ak} (h : RW T w rb g (x :: t)) (q : Below w.heap.size w w') {b off cap : Nat} (h0 : w.cell? ⟨rb, 0, none⟩ = some (.slice (some ⟨b, off, none⟩) (x :: t).length cap)) (y : Ak) :
    RW T (((w'.setCell ⟨b, off, none⟩ (.int .i64 y.k)).setCell ⟨b, off + 1, none⟩ (.int .i64 y.n)).setCell ⟨b, off + 2, none⟩ (.string y.s)) rb g (y :: t) ∧
    Only (Two rb g) w (((w'.setCell ⟨b, off, none⟩ (.int .i64 y.k)).setCell ⟨b, off + 1, none⟩ (.int .i64 y.n)).setCell ⟨b, off + 2, none⟩ (.string y.s)) ∧
    (w'.frozen? ⟨b, off, none⟩ = false ∧ w'.frozen? ⟨b, off + 1, none⟩ = false ∧ w'.frozen? ⟨b, off + 2, none⟩ = false) ∧
    (((w'.setCell ⟨b, off, none⟩ (.int .i64 y.k)).setCell ⟨b, off + 1, none⟩ (.int .i64 y.n)).setCell ⟨b, off + 2, none⟩ (.string y.s)).cell? ⟨rb, 0, none⟩ = some (.slice (some ⟨b, off, none⟩) (y :: t).length cap) := by
  have h' := h.below q
  have hlt := h.lt
  obtain ⟨a, cap', h1, h2, h3, h4, h5, h6⟩ := h'
  obtain ⟨off', cs, e, e1, e2, e3⟩ := h6 (by simp)
  have hsame : w'.cell? ⟨rb, 0, none⟩ = some (.slice (some ⟨b, off, none⟩) (x :: t).length cap) := (q.cell (p := ⟨rb, 0, none⟩) hlt).trans h0
  have hsame2 := cell_of_row _ _ 0 _ _ _ h1
  rw [hsame] at hsame2
  subst e
  obtain ⟨⟨rfl, rfl⟩, rfl⟩ : (b = g ∧ off = off') ∧ cap = cap' := by simpa using hsame2
  have hne : ∀ o : Nat, rb ≠ (⟨b, o, none⟩ : Addr).block := fun o e => e2 e.symm
  have hrb := (Below.heap_setCell ((w'.setCell ⟨b, off, none⟩ (.int .i64 y.k)).setCell ⟨b, off + 1, none⟩ (.int .i64 y.n)) ⟨b, off + 2, none⟩ (.string y.s) rb (hne _)).trans ((Below.heap_setCell (w'.setCell ⟨b, off, none⟩ (.int .i64 y.k)) ⟨b, off + 1, none⟩ (.int .i64 y.n) rb (hne _)).trans ((Below.heap_setCell w' ⟨b, off, none⟩ (.int .i64 y.k) rb (hne _)).trans h1))
  have hg := heap_setCell_same _ _ (off + 2) _ _ (.string y.s) (heap_setCell_same _ _ (off + 1) _ _ (.int .i64 y.n) (heap_setCell_same _ _ off _ _ (.int .i64 y.k) e1))
  refine ⟨⟨_, cap, hrb, h2, h3, h4, h5, fun _ => ⟨off, _, rfl, hg, e2, fun j u hj => ?_⟩⟩, ?_, ⟨frozen_of_row _ _ _ _ _ e1, frozen_of_row _ _ _ _ _ e1, frozen_of_row _ _ _ _ _ e1⟩, cell_of_row _ _ 0 _ _ _ hrb⟩
  · rw [acells_cons] at hj
    have hsz : off + 2 < cs.size := by have := e3 2 (.string x.s) rfl; exact (Array.getElem?_eq_some_iff.1 this).1
    match j, hj with
    | 0, hj =>
      rw [Array.getElem?_setIfInBounds_ne (by omega), Array.getElem?_setIfInBounds_ne (by omega), Nat.add_zero, Array.getElem?_setIfInBounds_self_of_lt (by omega)]
      exact hj
    | 1, hj =>
      rw [Array.getElem?_setIfInBounds_ne (by omega), Array.getElem?_setIfInBounds_self_of_lt (by simp; omega)]
      exact hj
    | 2, hj =>
      rw [Array.getElem?_setIfInBounds_self_of_lt (by simp; omega)]
      exact hj
    | j + 3, hj =>
      rw [Array.getElem?_setIfInBounds_ne (by omega), Array.getElem?_setIfInBounds_ne (by omega), Array.getElem?_setIfInBounds_ne (by omega)]
      exact e3 (j + 3) u (by rw [acells_cons]; exact hj)
  · exact (((Only.of_below q).trans (Only.set w' _ _ (Or.inr rfl))).trans (Only.set _ _ _ (Or.inr rfl))).trans (Only.set _ _ _ (Or.inr rfl))
theorem put_far (W : World) {b k : Nat} (off : Nat) (x y z : Value) (h : k ≠ b) : (((W.setCell ⟨b, off, none⟩ x).setCell ⟨b, off + 1, none⟩ y).setCell ⟨b, off + 2, none⟩ z).heap[k]? = W.heap[k]? :=
  (Below.heap_setCell _ _ _ k h).trans ((Below.heap_setCell _ _ _ k h).trans (Below.heap_setCell _ _ _ k h))
theorem pr_rb_free {T : TypeId} {w : World} {rb g : Nat} {l : List Ak} (h : RW T w rb g l) : w.frozen? ⟨rb, 0, none⟩ = false := by obtain ⟨a, cap, h1, _⟩ := h; exact frozen_of_row _ _ 0 _ _ h1
/-- what is known of a row with an act -/
theorem dr_head {w : World} {rb g : Nat} {x : Ak} {t : List Ak} (h : DR w rb g (x :: t)) : ∃ b off cap, w.cell? ⟨rb, 0, none⟩ = some (.slice (some ⟨b, off, none⟩) (x :: t).length cap) ∧ w.cell? ⟨b, off, none⟩ = some (.int .i64 x.k) ∧ w.cell? ⟨b, off + 1, none⟩ = some (.int .i64 x.n) ∧ w.cell? ⟨b, off + 2, none⟩ = some (.string x.s) ∧ (x :: t).length ≤ cap ∧ cap ≤ maxLen ∧ w.frozen? ⟨rb, 0, none⟩ = false := by
  obtain ⟨a, cap, c0, hs, _⟩ := h.as
  obtain ⟨b, off, e, d0, d1, d2⟩ := hs.at (i := 0) (by simp)
  simp only [Nat.zero_mul, Nat.add_zero, List.getD_cons_zero] at d0 d1 d2
  subst e
  obtain ⟨a', cap', e, hc1, hc2⟩ := hs.slice
  obtain ⟨rfl, rfl⟩ : some ⟨b, off, none⟩ = a' ∧ cap = cap' := by simpa using e
  obtain ⟨a, cap', h1, _⟩ := h
  exact ⟨b, off, cap, c0, d0, d1, d2, hc1, hc2, frozen_of_row _ _ 0 _ _ h1⟩
theorem dr_nil {w : World} {rb g : Nat} (h : DR w rb g []) : ∃ a cap, w.cell? ⟨rb, 0, none⟩ = some (.slice a 0 cap) := by
  obtain ⟨a, cap, c0, hs, _⟩ := h.as
  exact ⟨a, cap, c0⟩
section
variable {w : World} {rb g : Nat} {l : List Ak}
set_option maxHeartbeats 1000000 in
theorem rnext_any (h : DR w rb g l) : Calls Tryz.prog 169 #[.pointer (some ⟨rb, 0, none⟩)] w (VB (nv l) w) := by
  have h' := h.below (below_al w (.cells #[.int .i64 0, .int .i64 0, .string ⟨#[]⟩] 57))
  cases l with
  | nil =>
    obtain ⟨a, cap, c0⟩ := dr_nil h'
    clear h h'
    go_enter Tryz.func169, Tryz.ntmps169
    go_wp2_with fail
    go_returns
    exact ⟨rfl, (Below.refl _ _).alloc (Nat.le_refl _) _⟩
  | cons x t =>
    obtain ⟨b, off, cap, c0, d0, d1, d2, _⟩ := dr_head h'
    have hlen : (x :: t).length = t.length + 1 := rfl
    rw [hlen] at c0
    generalize t.length = m at *
    have hd : ((m : Int) + 1 == 0) = false := by simp; omega
    clear h h' hlen
    go_enter Tryz.func169, Tryz.ntmps169
    go_wp2_with fail
    go_returns
    exact ⟨rfl, (Below.refl _ _).alloc (Nat.le_refl _) _⟩
set_option maxHeartbeats 1000000 in
theorem rdid_any (h : DR w rb g l) (hl : l.length ≤ 32) : Calls Tryz.prog 167 #[.pointer (some ⟨rb, 0, none⟩)] w (RP 211 (.int .i64 (didE l)) rb g (didL l) w) := by
  have HP := Lib.hid h
  cases l with
  | nil =>
    obtain ⟨a, cap, c0⟩ := dr_nil h
    clear h
    go_enter Tryz.func167, Tryz.ntmps167
    go_wp2_with fail
    go_ret
    exact ⟨rfl, HP.out, Only.refl _ _⟩
  | cons x t =>
    obtain ⟨b, off, cap, c0, d0, d1, d2, hc1, hc2, hf⟩ := dr_head h
    have HCut := fun z => Lib.hid (HP.out.cut (Below.refl _ _) (cap - 1) (by simp at hc1; omega) (by omega) c0 z)
    obtain ⟨k, n, s⟩ := x
    simp only at d0 d1 d2
    have hlen : (⟨k, n, s⟩ :: t : List Ak).length = t.length + 1 := rfl
    rw [hlen] at c0 hc1 hl
    have HM := Lib.hid (show t.length + 1 ≤ cap from hc1)
    generalize hm : t.length = m at *
    have hd : ((m : Int) + 1 == 0) = false := by simp; omega
    by_cases hk : k = 1
    · subst hk
      clear h hlen HCut hm
      go_enter Tryz.func167, Tryz.ntmps167
      go_wp2_with fail
      go_ret
      exact ⟨rfl, HP.out, Only.refl _ _⟩
    · have hd1 : (k == 1) = false := by simpa using hk
      have HK := Lib.hid hk
      by_cases hcap : cap = 1
      · subst hcap
        have hm0 : m = 0 := by omega
        have HC := HCut (fun _ => hm0)
        rw [hm0] at HC
        subst hm0
        clear h hlen HCut hk hm d1 d2
        go_enter Tryz.func167, Tryz.ntmps167
        go_wp2_with fail
        go_ret
        exact ⟨by rw [didE_no HK.out]; rfl, by rw [didL_no HK.out]; exact HC.out.1, HC.out.2⟩
      · have hcap1 : ¬ cap - 1 = 0 := by omega
        have HC := HCut (fun e => absurd e hcap1)
        have hcc : (cap == 1) = false := by simpa using hcap
        have hmx : cap ≤ 9223372036854775807 := by unfold maxLen at hc2; omega
        clear h hlen HCut hk hm d1 d2 hc2
        go_enter Tryz.func167, Tryz.ntmps167
        go_wp2_with fail
        go_ret
        have H := HC.out
        rw [if_neg hcap1] at H
        exact ⟨by rw [didE_no HK.out]; rfl, by rw [didL_no HK.out]; exact H.1, H.2⟩
set_option maxHeartbeats 2000000 in
theorem rran_any (h : DR w rb g l) (hg : Gd l) : Calls Tryz.prog 168 #[.pointer (some ⟨rb, 0, none⟩)] w (RP 211 (.int .i64 (ranE l)) rb g (ranL l) w) := by
  have HP := Lib.hid h
  cases l with
  | nil =>
    obtain ⟨a, cap, c0⟩ := dr_nil h
    clear h
    go_enter Tryz.func168, Tryz.ntmps168
    go_wp2_with fail
    go_ret
    exact ⟨rfl, HP.out, Only.refl _ _⟩
  | cons x t =>
    obtain ⟨b, off, cap, c0, d0, d1, d2, hc1, hc2, hf⟩ := dr_head h
    have hgh := good_head hg
    have hl := hg.len
    obtain ⟨k, n, s⟩ := x
    simp only at d0 d1 d2
    by_cases hk : k = 1
    · subst hk
      obtain ⟨hn1, hn2⟩ := may_run hgh rfl
      simp only at hn1 hn2
      have hb1 := below_al w (.cells #[.int .i64 1, .int .i64 (n - 1), .string s] 57)
      obtain ⟨hput, honly, ⟨f0, f1, f2⟩, hcell⟩ := RW.put HP.out hb1 c0 ⟨1, n - 1, s⟩
      have c0a := (hb1.cell (p := ⟨rb, 0, none⟩) HP.out.lt).trans c0
      have d0a := (hb1.cell (p := ⟨b, off, none⟩) (lt_of_cell d0)).trans d0
      have d1a := (hb1.cell (p := ⟨b, off + 1, none⟩) (lt_of_cell d1)).trans d1
      have d2a := (hb1.cell (p := ⟨b, off + 2, none⟩) (lt_of_cell d2)).trans d2
      have hbx := heap_alloc_new w (.cells #[.int .i64 1, .int .i64 (n - 1), .string s] 57)
      have v0 := cell_of_row _ _ 0 _ _ _ hbx
      have v1 := cell_of_row _ _ 1 _ _ _ hbx
      have v2 := cell_of_row _ _ 2 _ _ _ hbx
      have hne : w.heap.size ≠ b := by have h1 : b < w.heap.size := lt_of_cell d0; omega
      have far := put_far (w.alloc (.cells #[.int .i64 1, .int .i64 (n - 1), .string s] 57)) off (.int .i64 1) (.int .i64 (n - 1)) (.string s) hne
      have g1 := (World.cell?_of_block (a := ⟨w.heap.size, 1, none⟩) far).trans v1
      have hlen : (⟨1, n, s⟩ :: t : List Ak).length = t.length + 1 := rfl
      have hlen2 : (⟨1, n - 1, s⟩ :: t : List Ak).length = t.length + 1 := rfl
      simp only at hput honly hcell
      have hfr := pr_rb_free hput
      have HCut := fun c hc hm z => Lib.hid (RW.cut hput (Below.refl _ _) c hc hm hcell z)
      have HPUT := Lib.hid hput
      have HONLY := Lib.hid honly
      rw [hlen] at c0 c0a hc1 hl
      rw [hlen2] at hcell
      have hd : ((t.length : Int) + 1 == 0) = false := by simp; omega
      have HN := Lib.hid (show n = n from rfl)
      clear h hgh hg hb1 hput honly hbx far hlen hlen2
      go_enter Tryz.func168, Tryz.ntmps168
      go_wp2_with fail
      generalize w.alloc (.cells #[.int .i64 1, .int .i64 (n - 1), .string s] 57) = W at *
      generalize w.heap.size = vb at *
      go_region
      all_goals go_wp2_with fail
      · rename_i hz
        rename cap = 1 => hcap
        have hn : n = 1 := by simp at hz; omega
        have hm0 : t.length = 0 := by omega
        have HC := (HCut 0 (by omega) (by omega) (fun _ => hm0)).out
        go_ret
        exact ⟨rfl, by rw [ranL_end hn]; exact HC.1, (HONLY.out.trans HC.2).drew⟩
      · rename_i hz
        rename ¬ cap = 1 => hcap
        have hn : n = 1 := by simp at hz; omega
        have hcap1 : ¬ cap - 1 = 0 := by omega
        have HC := (HCut (cap - 1) (by omega) (by omega) (fun e => absurd e hcap1)).out
        rw [if_neg hcap1] at HC
        go_ret
        exact ⟨rfl, by rw [ranL_end hn]; exact HC.1, (HONLY.out.trans HC.2).drew⟩
      · rename_i hz
        have hn : n ≠ 1 := by simp at hz; omega
        go_ret
        exact ⟨rfl, by rw [ranL_less hn]; exact HPUT.out, HONLY.out.drew⟩
    · have hlen : (⟨k, n, s⟩ :: t : List Ak).length = t.length + 1 := rfl
      rw [hlen] at c0
      have hd : ((t.length : Int) + 1 == 0) = false := by simp; omega
      generalize t.length = m at *
      have hd1 : (k == 1) = false := by simpa using hk
      have HK := Lib.hid hk
      clear h hlen hk hgh hg hc1 hl d1 d2
      go_enter Tryz.func168, Tryz.ntmps168
      go_wp2_with fail
      go_ret
      exact ⟨by rw [ranE_no HK.out]; rfl, by rw [ranL_no HK.out]; exact HP.out, Only.refl _ _⟩
set_option maxHeartbeats 1000000 in
theorem rleft_is (h : DR w rb g l) (hg : Gd l) : Calls Tryz.prog 170 #[.pointer (some ⟨rb, 0, none⟩)] w (IsI (left l) w) := by
  obtain ⟨a, cap, c0, hs, _⟩ := h.as
  have HS := Lib.hid hs
  have HG := Lib.hid hg
  have hlen := hg.len
  obtain ⟨m, hm⟩ : ∃ m, m = l.length := ⟨_, rfl⟩
  have HM := Lib.hid hm
  rw [← hm] at HS hlen c0
  clear hs hg hm h
  go_enter Tryz.func170, Tryz.ntmps170
  go_wp2_with fail
  go_loopw [3, 4] (fun v i wr => wr = w ∧ ∃ k : Nat, k ≤ m ∧ i = .int .i64 k ∧ ∃ q : Int, v = .int .i64 q ∧ 0 ≤ q ∧ q ≤ 64 * k ∧ Hid (q = left (l.take k))) (fun _ i _ => m - (intOf i).toNat)
  case atStart => exact ⟨rfl, 0, Nat.zero_le _, rfl, 0, rfl, by omega, by omega, rfl⟩
  case round =>
    obtain ⟨rfl, k, hk, rfl, q, rfl, hq0, hq1, HQ⟩ := hrel
    by_cases hlt : k < m
    · obtain ⟨b, off, rfl, d0, d1, d2⟩ := HS.out.at hlt
      have hkl : k < l.length := by rw [← HM.out]; exact hlt
      have HL := Lib.hid (left_take l k hkl)
      have hbd := one_bd (HG.out.all (l.getD k o0) (by rw [List.getD_eq_getElem?_getD, List.getElem?_eq_getElem hkl]; exact List.getElem_mem hkl))
      have HO : Hid (one (l.getD k o0) = if (l.getD k o0).k = 1 then (l.getD k o0).n else 0) := rfl
      generalize one (l.getD k o0) = z at *
      generalize (l.getD k o0).k = yk at *
      generalize (l.getD k o0).n = yn at *
      generalize (l.getD k o0).s = ys at *
      clear hkl d2
      by_cases hk1 : yk = 1
      · subst hk1
        have hz : z = yn := by rw [HO.out]; rfl
        subst hz
        go_wp2_with fail
        go_roundw
        case rel => exact ⟨trivial, k + 1, by omega, by go_num, q + z, rfl, by omega, by omega, Lib.hid (by rw [HL.out, ← HQ.out])⟩
        case measure => simp [intOf]; omega
      · have hz : z = 0 := by rw [HO.out, if_neg hk1]
        subst hz
        have hd : (yk == 1) = false := by simpa using hk1
        clear hk1 d1
        go_wp2_with fail
        go_roundw
        case rel => exact ⟨trivial, k + 1, by omega, by go_num, q, rfl, by omega, by omega, Lib.hid (by rw [HL.out, ← HQ.out, Int.add_zero])⟩
        case measure => simp [intOf]; omega
    · obtain rfl : k = m := by omega
      have HE := Lib.hid (show q = left l by rw [HQ.out, HM.out, List.take_length])
      go_wp2_with fail
      go_ret
      rw [← HE.out]
      exact ⟨rfl, rfl⟩
theorem rleft_any (h : DR w rb g l) (hg : Gd l) : Calls Tryz.prog 170 #[.pointer (some ⟨rb, 0, none⟩)] w (VB (.int .i64 (left l)) w) :=
  (rleft_is h hg).mono fun e w' ⟨e1, e2⟩ => ⟨e1, by subst e2; exact Below.refl _ _⟩
end
/-- a row is answered, or an error -/
def NewD (l : List Ak) (w : World) (e : Ending) (w' : World) : Prop := ∃ rb g, e = .returned (.tuple #[.pointer (some ⟨rb, 0, none⟩), .int .i64 0]) ∧ DR w' rb g l ∧ w.heap.size ≤ rb ∧ w.heap.size ≤ g ∧ g < w'.heap.size ∧ Below w.heap.size w w'
def NewQ (l : List Ak) (w : World) (e : Ending) (w' : World) : Prop := ((∀ x ∈ l, may x) ∧ NewD l w e w') ∨ ((¬ ∀ x ∈ l, may x) ∧ NoP 2 w e w')
theorem rnew_lim {w : World} {v : Value} {l : List Ak} (h : AS w v l) (hl : 32 < l.length) : Calls Tryz.prog 165 #[v] w (NoP 5 w) := by
  obtain ⟨a, cap, rfl, h1, h2⟩ := h.slice
  have hd : decide (32 < (l.length : Int)) = true := by simp; omega
  generalize l.length = m at *
  clear h
  go_enter Tryz.func165, Tryz.ntmps165
  go_wp2_with fail
  go_ret2
  exact ⟨rfl, Below.refl _ _⟩
/-- the document's row, laid -/
theorem dr_new {w2 : World} {B mb : Nat} {v : Value} {l : List Ak} (hm : w2.heap[mb]? = some (.cells #[.slice none 0 0] 211 (0, 0))) (h : NA w2 B v l) (hmb : mb < B) :
    ∃ g, DR (w2.setCell ⟨mb, 0, none⟩ v) mb g l ∧ mb ≤ g ∧ g < w2.heap.size := by
  have hs := heap_setCell_same w2 mb 0 _ _ v hm
  rcases h.2 with ⟨rfl, h0⟩ | ⟨g, cap, cur, rfl, hb, hh, hnc, hcm, hcs, htk⟩
  · obtain rfl : l = [] := List.eq_nil_of_length_eq_zero h0
    exact ⟨mb, ⟨none, 0, hs, Nat.le_refl _, Nat.zero_le _, fun _ => rfl, (fun e => absurd e (by decide)), fun hn => absurd hn (by simp)⟩, Nat.le_refl _, lt_of_block hm⟩
  · refine ⟨g, ⟨_, cap, hs, hnc, hcm, (fun e => by cases e), (fun e => absurd e (by decide)), fun hn => ⟨0, cur, rfl, (Below.heap_setCell _ _ _ g (show g ≠ mb by omega)).trans hh, (by omega), fun j u hj => ?_⟩⟩, by omega, lt_of_block hh⟩
    rw [← htk, List.getElem?_take] at hj
    split at hj
    · rw [Nat.zero_add, ← Array.getElem?_toList]; exact hj
    · cases hj
set_option maxHeartbeats 4000000 in
theorem rnew_fit {w : World} {v : Value} {l : List Ak} (h : AS w v l) (hl : l.length ≤ 32) : Calls Tryz.prog 165 #[v] w (NewQ l w) := by
  obtain ⟨a, cap, rfl, h1, h2⟩ := h.slice
  have hd : decide (32 < (l.length : Int)) = false := by simp; omega
  have HS := Lib.hid h
  obtain ⟨m, hm⟩ : ∃ m, m = l.length := ⟨_, rfl⟩
  have HM := Lib.hid hm
  rw [← hm] at HS hl hd h1 ⊢
  clear h hm
  go_enter Tryz.func165, Tryz.ntmps165
  go_wp2_with fail
  go_loopw [4] (fun i wr => ∃ k : Nat, k ≤ m ∧ i = .int .i64 k ∧ Hid (∀ j, j < k → may (l.getD j o0)) ∧ Hid (Below w.heap.size w wr)) (fun i _ => m - (intOf i).toNat)
  case atStart => exact ⟨0, Nat.zero_le _, rfl, Lib.hid (fun j hj => absurd hj (by omega)), Below.refl _ _⟩
  case round =>
    obtain ⟨k, hk, rfl, HY, HB⟩ := hrel
    by_cases hlt : k < m
    · obtain ⟨b, off, rfl, d0, d1, d2⟩ := (HS.out.below HB.out).at hlt
      have HCH : Hid (∀ W, Calls Tryz.prog 198 #[.agg #[.int .i64 (l.getD k o0).k, .int .i64 (l.getD k o0).n, .string (l.getD k o0).s]] W (VB (.int .i64 (chk (l.getD k o0))) W)) := fun W => rcheck_any _ W
      rcases chk_or (l.getD k o0) with ⟨hy, hc⟩ | ⟨hn, hc⟩
      · rw [hc] at HCH
        have HY2 : Hid (∀ j, j < k + 1 → may (l.getD j o0)) := fun j hj => by
          rcases Nat.lt_or_ge j k with h | h
          · exact HY.out j h
          · obtain rfl : j = k := by omega
            exact hy
        generalize (l.getD k o0).k = yk at *
        generalize (l.getD k o0).n = yn at *
        generalize (l.getD k o0).s = ys at *
        clear hc hy HY
        go_wp2_with fail
        refine (HCH.out _).mono ?_
        rintro e w1 ⟨rfl, hb⟩
        have HB1 := Lib.hid (chn HB.out hb)
        clear hb
        go_wp2_with fail
        go_roundw
        case rel => exact ⟨k + 1, by omega, by go_num, HY2, HB1⟩
        case measure => simp [intOf]; omega
      · rw [hc] at HCH
        have HN := Lib.hid (fun h : ∀ x ∈ l, may x => hn (may_at h (by rw [← HM.out]; exact hlt)))
        generalize (l.getD k o0).k = yk at *
        generalize (l.getD k o0).n = yn at *
        generalize (l.getD k o0).s = ys at *
        clear hc hn HY
        go_wp2_with fail
        refine (HCH.out _).mono ?_
        rintro e w1 ⟨rfl, hb⟩
        have HB1 := Lib.hid (chn HB.out hb)
        clear hb
        go_wp2_with fail
        go_ret2
        exact Or.inr ⟨HN.out, rfl, HB1.out⟩
    · obtain rfl : k = m := by omega
      have hall : ∀ x ∈ l, may x := all_of (by rw [← HM.out]; exact HY.out)
      have hs2 := (HS.out.below HB.out).below (below_al wr (.cells #[.slice none 0 0] 211))
      rw [HM.out] at hs2
      obtain ⟨xa, c, w2, hrun, hown, hb, _⟩ := app_acts (NA.nil (wr.alloc (.cells #[.slice none 0 0] 211)) (wr.heap.size + 1)) hs2 (by simp) (by rw [← HM.out]; simp; omega) 31
      rw [List.nil_append] at hrun hown
      have hmb : w2.heap[wr.heap.size]? = some (.cells #[.slice none 0 0] 211 (0, 0)) := (hb.block _ (by omega)).trans (heap_alloc_new wr _)
      obtain ⟨g, hdr, hg, hgl⟩ := dr_new hmb hown (Nat.lt_succ_self _)
      have hbW : Below w.heap.size w (w2.setCell ⟨wr.heap.size, 0, none⟩ (.slice xa l.length c)) := ((HB.out.alloc HB.out.size _).trans (hb.mono (by have := HB.out.size; omega))).setCell (p := ⟨wr.heap.size, 0, none⟩) HB.out.size _
      have HNEW := Lib.hid (show NewQ l w (.returned (.tuple #[.pointer (some ⟨wr.heap.size, 0, none⟩), .int .i64 0])) _ from Or.inl ⟨hall, wr.heap.size, g, rfl, hdr, HB.out.size, Nat.le_trans HB.out.size hg, (by simp [World.setCell]; exact hgl), hbW⟩)
      rw [← HM.out] at hrun HNEW
      have HRUN := Lib.hid hrun
      have s1 : w2.cell? ⟨wr.heap.size, 0, none⟩ = some (.slice none 0 0) := cell_of_row _ _ 0 _ _ _ hmb
      have s2 : w2.frozen? ⟨wr.heap.size, 0, none⟩ = false := frozen_of_row _ _ 0 _ _ hmb
      clear hrun hown hb hs2 hall HY hdr hbW hmb
      go_wp2_with (at_builtin; refine wpList_append_eq rfl (.tmp 27) (.tmp 28) 31 31 rfl _ _ _ _ rfl rfl HRUN.out ?_)
      go_ret2
      exact HNEW.out
theorem rnew_yes {w : World} {v : Value} {l : List Ak} (h : AS w v l) (hg : Gd l) : Calls Tryz.prog 165 #[v] w (NewD l w) :=
  (rnew_fit h hg.len).mono fun e w' q => by
    rcases q with ⟨_, q⟩ | ⟨q, _⟩
    · exact q
    · exact absurd hg.all q
theorem rnew_no {w : World} {v : Value} {l : List Ak} (h : AS w v l) (hl : l.length ≤ 32) (hn : ¬ ∀ x ∈ l, may x) : Calls Tryz.prog 165 #[v] w (NoP 2 w) :=
  (rnew_fit h hl).mono fun e w' q => by
    rcases q with ⟨q, _⟩ | ⟨_, q⟩
    · exact absurd q hn
    · exact q
end Go.Proofs.YtkkmfpllgjoceaaGreat

namespace Go.Proofs.YtkkmfpllgjoceaaGreat
open Go.RowKit Ac
set_option linter.unusedVariables false
set_option maxRecDepth 100000

theorem as_lit {w : World} {g : Nat} {l : List Ak} (h : w.heap[g]? = some (.cells (acells l).toArray 57 (0, 0))) (hl : l.length ≤ maxLen) : AS w (.slice (some ⟨g, 0, none⟩) l.length l.length) l :=
  ⟨_, _, rfl, Nat.le_refl _, hl, (fun e => by cases e), fun _ => ⟨g, 0, rfl, fun j u hj => by rw [cell_of_row _ _ _ _ _ _ h, Nat.zero_add, List.getElem?_toArray]; exact hj⟩⟩
/-- a row of the call's own, of T's objects: its blocks are B's or above -/
structure OW (T : TypeId) (B : Nat) (W w : World) (rb g : Nat) (l : List Ak) : Prop where
  r : RW T w rb g l
  gd : Gd l
  b1 : B ≤ rb
  b2 : B ≤ g
  lt : g < w.heap.size
  sz : B ≤ W.heap.size
  bel : Below B W w
theorem OW.step {T : TypeId} {B : Nat} {W w w' : World} {rb g : Nat} {l l' : List Ak} (h : OW T B W w rb g l) (hr : RW T w' rb g l') (hg : Gd l') (o : Only (Two rb g) w w') : OW T B W w' rb g l' :=
  ⟨hr, hg, h.b1, h.b2, Nat.lt_of_lt_of_le h.lt o.size, h.sz, h.bel.trans (o.below (Nat.le_trans h.sz h.bel.size) (by rintro k (rfl | rfl); exact h.b1; exact h.b2))⟩
theorem OW.below {T : TypeId} {B : Nat} {W w w' : World} {rb g : Nat} {l : List Ak} (h : OW T B W w rb g l) (q : Below w.heap.size w w') : OW T B W w' rb g l :=
  ⟨h.r.below q, h.gd, h.b1, h.b2, Nat.lt_of_lt_of_le h.lt q.size, h.sz, h.bel.trans (q.mono (Nat.le_trans h.sz h.bel.size))⟩
/-- an answer; the row behind it -/
def OP (T : TypeId) (v : Value) (B : Nat) (W : World) (rb g : Nat) (l : List Ak) (w : World) (e : Ending) (w' : World) : Prop := e = .returned v ∧ OW T B W w' rb g l ∧ Only (Two rb g) w w'
/-- an act in a block -/
def AB (w : World) (b : Nat) (k n : Int) (s : ByteArray) : Prop := w.heap[b]? = some (.cells #[.int .i64 k, .int .i64 n, .string s] 57 (0, 0))
theorem AB.new (w : World) (k n : Int) (s : ByteArray) : AB (w.alloc (.cells #[.int .i64 k, .int .i64 n, .string s] 57)) w.heap.size k n s := heap_alloc_new w _
theorem AB.cells {w : World} {b : Nat} {k n : Int} {s : ByteArray} (h : AB w b k n s) : w.cell? ⟨b, 0, none⟩ = some (.int .i64 k) ∧ w.cell? ⟨b, 0 + 1, none⟩ = some (.int .i64 n) ∧ w.cell? ⟨b, 0 + 2, none⟩ = some (.string s) := ⟨cell_of_row _ _ 0 _ _ _ h, cell_of_row _ _ 1 _ _ _ h, cell_of_row _ _ 2 _ _ _ h⟩
theorem AB.free {w : World} {b : Nat} {k n : Int} {s : ByteArray} (h : AB w b k n s) : w.frozen? ⟨b, 0, none⟩ = false ∧ w.frozen? ⟨b, 0 + 1, none⟩ = false ∧ w.frozen? ⟨b, 0 + 2, none⟩ = false := ⟨frozen_of_row _ _ 0 _ _ h, frozen_of_row _ _ 1 _ _ h, frozen_of_row _ _ 2 _ _ h⟩
theorem AB.below {w w' : World} {b : Nat} {k n : Int} {s : ByteArray} (h : AB w b k n s) (q : Below w.heap.size w w') : AB w' b k n s := (q.block b (lt_of_block h)).trans h
theorem AB.only {w w' : World} {b rb g : Nat} {k n : Int} {s : ByteArray} (h : AB w b k n s) (q : Only (Two rb g) w w') (h1 : b ≠ rb) (h2 : b ≠ g) : AB w' b k n s := (q.block b (lt_of_block h) (by rintro (e | e); exact h1 e; exact h2 e)).trans h
theorem AB.set {w : World} {b : Nat} {k n : Int} {s : ByteArray} (h : AB w b k n s) (k' n' : Int) (s' : ByteArray) : AB (((w.setCell ⟨b, 0, none⟩ (.int .i64 k')).setCell ⟨b, 1, none⟩ (.int .i64 n')).setCell ⟨b, 2, none⟩ (.string s')) b k' n' s' :=
  heap_setCell_same _ _ 2 _ _ (.string s') (heap_setCell_same _ _ 1 _ _ (.int .i64 n') (heap_setCell_same _ _ 0 _ _ (.int .i64 k') h))
/-- a block apart is written -/
theorem set_only (w : World) (b : Nat) (x y z : Value) : Only (fun k => k = b) w (((w.setCell ⟨b, 0, none⟩ x).setCell ⟨b, 1, none⟩ y).setCell ⟨b, 2, none⟩ z) :=
  ((Only.set (S := fun k => k = b) w (b := b) 0 x rfl).trans (Only.set (S := fun k => k = b) _ (b := b) 1 y rfl)).trans (Only.set (S := fun k => k = b) _ (b := b) 2 z rfl)
theorem OW.far {T : TypeId} {B b : Nat} {W w w' : World} {rb g : Nat} {l : List Ak} (h : OW T B W w rb g l) (o : Only (fun k => k = b) w w') (hb : B ≤ b) (h1 : b ≠ rb) (h2 : b ≠ g) : OW T B W w' rb g l :=
  ⟨h.r.only o (fun e => h1 e.symm) (fun e => h2 e.symm), h.gd, h.b1, h.b2, Nat.lt_of_lt_of_le h.lt o.size, h.sz, h.bel.trans (o.below (Nat.le_trans h.sz h.bel.size) (by rintro k rfl; exact hb))⟩
abbrev PO := OW 201
abbrev DO := OW 211
section
variable {B : Nat} {W w : World} {rb g : Nat} {l : List Ak}
theorem po_did (h : PO B W w rb g l) {x : Int} {l' : List Ak} (h1 : didE l = x) (h2 : didL l = l') : Calls Tryz.prog 136 #[.pointer (some ⟨rb, 0, none⟩)] w (OP 201 (.int .i64 x) B W rb g l' w) := by
  subst h1; subst h2
  exact (did_any h.r h.gd.len).mono fun e w' ⟨e1, e2, e3⟩ => ⟨e1, h.step e2 (good_did h.gd) e3, e3⟩
theorem po_ran (h : PO B W w rb g l) {x : Int} {l' : List Ak} (h1 : ranE l = x) (h2 : ranL l = l') : Calls Tryz.prog 137 #[.pointer (some ⟨rb, 0, none⟩)] w (OP 201 (.int .i64 x) B W rb g l' w) := by
  subst h1; subst h2
  exact (ran_any h.r h.gd).mono fun e w' ⟨e1, e2, e3⟩ => ⟨e1, h.step e2 (good_ran h.gd) e3, e3⟩
theorem po_next (h : PO B W w rb g l) {k n : Int} {s : ByteArray} {b : Bool} (h1 : nxt l = ⟨k, n, s⟩) (h2 : isn l = b) : Calls Tryz.prog 162 #[.pointer (some ⟨rb, 0, none⟩)] w (OP 201 (.tuple #[.agg #[.int .i64 k, .int .i64 n, .string s], .bool b]) B W rb g l w) :=
  (next_any h.r).mono fun e w' ⟨e1, e2⟩ => ⟨by rw [e1]; unfold nv av; rw [h1, h2], h.below e2, Only.of_below e2⟩
theorem po_left (h : PO B W w rb g l) {x : Int} (h1 : left l = x) : Calls Tryz.prog 157 #[.pointer (some ⟨rb, 0, none⟩)] w (OP 201 (.int .i64 x) B W rb g l w) := by
  subst h1
  exact (left_any h.r h.gd).mono fun e w' ⟨e1, e2⟩ => ⟨e1, h.below e2, Only.of_below e2⟩
/-- a row, made -/
def MkP (B : Nat) (W : World) (l : List Ak) (w : World) (e : Ending) (w' : World) : Prop := ∃ rb g, e = .returned (.tuple #[.pointer (some ⟨rb, 0, none⟩), .int .i64 0]) ∧ PO B W w' rb g l ∧ w.heap.size ≤ rb ∧ w.heap.size ≤ g ∧ Below w.heap.size w w'
theorem po_new (hb : Below B W w) (hB : B ≤ W.heap.size) {v : Value} (h : AS w v l) (hg : Gd l) : Calls Tryz.prog 150 #[v] w (MkP B W l w) :=
  (new_yes h hg).mono fun e w' ⟨rb, g, e1, e2, e3, e4, e6, e5⟩ => by
    have hs := Nat.le_trans hB hb.size
    exact ⟨rb, g, e1, ⟨e2, hg, Nat.le_trans hs e3, Nat.le_trans hs e4, e6, hB, hb.trans (e5.mono hs)⟩, e3, e4, e5⟩
end
theorem make_any (w : World) : (Instr.makeSlice 31 (.int .i64 33) (.int .i64 33)).run Tryz.prog w = .ok (.slice (some ⟨w.heap.size, 0, none⟩) 33 33) (w.alloc (.cells (acells (List.replicate 33 o0)).toArray 57)) := by kernel_rfl
def ch1 : List Ak := [⟨1, 2, e0⟩, ⟨2, 3, e0⟩, ⟨1, 1, e0⟩]
theorem gd_ch1 : Gd ch1 := ⟨by decide, fun x hx => by simp [ch1] at hx; rcases hx with rfl | rfl | rfl <;> exact (show mayB _ = true by decide)⟩
end Go.Proofs.YtkkmfpllgjoceaaGreat
