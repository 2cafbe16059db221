/- ActChecks. -/
import Derived.Test.YtnnckmbhleoamaaActW
import Derived.Lib.QuietBelow
namespace Go.Proofs.Ytnnckmbhleoamaa
open Go.RowKit Go.Sort Ac
set_option linter.unusedVariables false

set_option maxHeartbeats 2000000 in
theorem checks_law (w : World) (k n : Int) (s : ByteArray) : Calls Try.prog 4 #[.agg #[.int .i64 k, .int .i64 n, .string s]] w (TrueB w) := by
  obtain ⟨W2, hW2⟩ : ∃ W2, W2 = w.alloc (.cells #[.int .i64 k, .int .i64 n, .string s] 33) := ⟨_, rfl⟩
  have hb : Below w.heap.size w W2 := by rw [hW2]; exact below_al w _
  obtain ⟨b0, b1, b2⟩ : W2.cell? ⟨w.heap.size, 0, none⟩ = some (.int .i64 k) ∧ W2.cell? ⟨w.heap.size, 0 + 1, none⟩ = some (.int .i64 n) ∧ W2.cell? ⟨w.heap.size, 0 + 2, none⟩ = some (.string s) := by rw [hW2]; exact (AB.new w k n s).cells
  have HB := Lib.hid hb
  have HW2 := Lib.hid hW2
  have c1 := Lib.hid (fun d os => Calls.regrown_of (check_any ⟨k, n, s⟩ (grow (redrawn W2 d) os)))
  have c2 := Lib.hid (fun d os => Calls.regrown_of (rcheck_any ⟨k, n, s⟩ (grow (redrawn W2 d) os)))
  have c3 := Lib.hid (fun d os => Calls.regrown_of (works_any (grow (redrawn W2 d) os)))
  have k0 := cell_regrown b0
  have k1 := cell_regrown b1
  have k2 := cell_regrown b2
  generalize chk ⟨k, n, s⟩ = c at *
  have mixed : Try.prog.follows .mixedOrders = true := by kernel_rfl
  have hcc : (c == c) = true := by simp
  clear hW2 hb b0 b1 b2
  go_enter Try.func4, Try.ntmps4
  go_wp2_with fail
  rw [← HW2.out]
  refine wp_region_quiet_below (by assumption) (by kernel_rfl) ?_
  repeat (quiet_step (first | (go_at_call 24; exact c1.out _ _) | (go_at_call 25; exact c2.out _ _) | (go_at_call 23; exact c3.out _ _)))
  refine wpQuiet_nil ?_
  intro _ hw'
  obtain ⟨⟨dq, osq⟩, hw''⟩ := hw'
  subst hw''
  have HF := Lib.hid (HB.out.trans ((below_regrown W2 dq osq).mono HB.out.size))
  clear k0 k1 k2 c1 c2 c3
  go_wp2_with fail
  go_ret
  exact ⟨rfl, HF.out⟩
end Go.Proofs.Ytnnckmbhleoamaa
