/- ShareSums. -/
import Derived.Test.YtlifkclgflfnlaaShaG
namespace Go.Proofs.Ytlifkclgflfnlaa.Sh
open Go.RowKit Tk De Dl Go.Proofs.Ytlifkclgflfnlaa.Lo
set_option linter.unusedVariables false

set_option maxRecDepth 100000 in
set_option maxHeartbeats 4000000 in
theorem sums_law {w : World} {v : Value} {ps : List Pn} (h : PS w v ps) : Calls Try.prog 3 #[v] w (TrueB w) := by
  have HS := Lib.hid (sv_of_ps h)
  obtain ⟨a, cap, rfl, _⟩ := h.slice
  generalize ps.length = n at *
  generalize sp ps = p at *
  generalize sb ps = b at *
  have H1 := Lib.hid (Sum_any HS.out)
  have HW := Lib.hid works_any
  generalize hx : suA n p b = x at *
  generalize hy : suB n p b = y at *
  generalize hz : suE n p b = z at *
  clear h
  go_enter Try.func3, Try.ntmps3
  go_wp2_with fail
  refine H1.out.mono ?_
  rintro e w1 ⟨rfl, hb⟩
  have B1 := Lib.hid hb
  have H2 := Lib.hid (rsum_any (HS.out.below hb))
  rw [hx, hy, hz] at H2
  clear hb H1 hx hy hz
  go_wp2_with fail
  refine H2.out.mono ?_
  rintro e w2 ⟨rfl, hb⟩
  have B2 := Lib.hid (chn B1.out hb)
  clear hb B1 H2
  have H3 := Lib.hid (Test_any (HS.out.below B2.out))
  generalize ht : teE n p b = t at *
  go_wp2_with fail
  refine H3.out.mono ?_
  rintro e w3 ⟨rfl, hb⟩
  have B3 := Lib.hid (chn B2.out hb)
  clear hb B2 H3
  have H4 := Lib.hid (rtest_any (HS.out.below B3.out))
  rw [ht] at H4
  clear ht
  go_wp2_with fail
  refine H4.out.mono ?_
  rintro e w4 ⟨rfl, hb⟩
  have B4 := Lib.hid (chn B3.out hb)
  clear hb B3 H4
  go_wp2_with fail
  refine (HW.out _).mono ?_
  rintro e w5 ⟨rfl, hb⟩
  have B5 := Lib.hid (chn B4.out hb)
  clear hb B4
  go_wp2_with fail
  go_ret
  exact ⟨rfl, B5.out⟩
end Go.Proofs.Ytlifkclgflfnlaa.Sh
