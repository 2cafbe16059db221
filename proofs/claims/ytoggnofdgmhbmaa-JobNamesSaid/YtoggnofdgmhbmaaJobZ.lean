/- Jobs that are none: nil, or a zero one. -/
import Derived.Test.YtoggnofdgmhbmaaJobL
import Derived.Test.YtoggnofdgmhbmaaActN
namespace Go.Proofs.Ytoggnofdgmhbmaa
open Go.RowKit Go.Sort Ac Jo
set_option linter.unusedVariables false

/-- a job that is none: nil, or a zero one -/
def NoneJ (w : World) (v : Value) : Prop := v = .pointer none ∨ ∃ b, v = .pointer (some ⟨b, 0, none⟩) ∧ w.heap[b]? = some (.cells #[.pointer none, .int .i64 0, .int .i64 0, .int .i64 0, .int .i64 0, .int .i64 0, .int .i64 0, .int .i64 0, .int .i64 0, .int .i64 0, .bool false, .int .i64 0, .int .i64 0, .int .i64 0, .int .i64 0] 59 (0, 0))
theorem NoneJ.below {w w' : World} {v : Value} (h : NoneJ w v) (q : Below w.heap.size w w') : NoneJ w' v := by
  rcases h with rfl | ⟨b, rfl, h⟩
  · exact Or.inl rfl
  · exact Or.inr ⟨b, rfl, (q.block b (lt_of_block h)).trans h⟩
section
variable {w : World} {v : Value}
theorem zn_told (h : NoneJ w v) : Calls Try.prog 34 #[v] w (VB (.agg #[.pointer none, .int .i64 0, .int .i64 0, .int .i64 0, .int .i64 0, .int .i64 0, .int .i64 0, .int .i64 0, .int .i64 0, .int .i64 0, .bool false, .int .i64 0, .int .i64 0, .int .i64 0, .int .i64 0]) w) := by
  rcases h with rfl | ⟨b, rfl, h⟩
  · exact told_nil w
  · exact told_cells h
theorem zn_is (h : NoneJ w v) : Calls Try.prog 42 #[v] w (VB (.bool true) w) := is_none (zn_told h)
theorem zn_dead (h : NoneJ w v) : Calls Try.prog 27 #[v] w (VB (.int .i64 0) w) := dead_of (zn_told h)
theorem zn_ran (h : NoneJ w v) : Calls Try.prog 21 #[v] w (VB (.int .i64 0) w) := jran_of (zn_told h)
theorem zn_takes (h : NoneJ w v) : Calls Try.prog 22 #[v] w (VB (.int .i64 0) w) := takes_of (zn_told h)
theorem zn_begun (h : NoneJ w v) : Calls Try.prog 25 #[v] w (VB (.bool false) w) := begun_of (zn_told h)
theorem zn_into (h : NoneJ w v) : Calls Try.prog 20 #[v] w (VB (.tuple #[.int .i64 0, .int .i64 0]) w) := into_of (zn_told h)
theorem zn_next (h : NoneJ w v) : Calls Try.prog 26 #[v] w (VB (.tuple #[.agg #[.int .i64 0, .int .i64 0, .string ⟨#[]⟩], .bool false]) w) :=
  jnext_of (zn_told (h.below (below_al w _))) (fun w' hb => nn_next (Or.inl rfl))
theorem zn_done (h : NoneJ w v) : Calls Try.prog 23 #[v] w (VB (.bool false) w) := jdone_of (zn_told h) (fun w' hb => nn_done (Or.inl rfl))
theorem zn_did (h : NoneJ w v) : Calls Try.prog 10 #[v] w (VB (.int .i64 1) w) := by
  have HT := Lib.hid (zn_told h)
  have qfd := qf0 none 0 0 0 0 0 0 0 0 0 0 0 0 0 false
  clear h
  go_enter Try.func10, Try.ntmps10
  go_wp2_with fail
  refine HT.out.mono ?_
  rintro e w1 ⟨rfl, hb⟩
  have HB := Lib.hid hb
  clear hb
  go_wp2_with fail
  refine (nn_did (v := .pointer none) (Or.inl rfl)).mono ?_
  rintro e w2 ⟨rfl, hb⟩
  have HB2 := Lib.hid (chn HB.out hb)
  clear hb
  go_wp2_with fail
  go_ret
  exact ⟨rfl, HB2.out⟩
theorem zn_run (h : NoneJ w v) : Calls Try.prog 12 #[v] w (VB (.int .i64 1) w) := by
  have HT := Lib.hid (zn_told h)
  have H := Lib.hid h
  have qfd := qf0 none 0 0 0 0 0 0 0 0 0 0 0 0 0 false
  have qfe := qf5 none 0 0 0 0 0 0 0 0 0 0 0 0 0 false
  clear h
  go_enter Try.func12, Try.ntmps12
  go_wp2_with fail
  refine HT.out.mono ?_
  rintro e w1 ⟨rfl, hb⟩
  have HB := Lib.hid hb
  have HT1 := Lib.hid (zn_told (H.out.below hb))
  clear hb
  go_wp2_with fail
  refine HT1.out.mono ?_
  rintro e w1' ⟨rfl, hb⟩
  have HB1 := Lib.hid (chn HB.out hb)
  clear hb
  go_wp2_with fail
  refine (nn_ran (v := .pointer none) (Or.inl rfl)).mono ?_
  rintro e w2 ⟨rfl, hb⟩
  have HB2 := Lib.hid (chn HB1.out hb)
  clear hb
  go_wp2_with fail
  go_ret
  exact ⟨rfl, HB2.out⟩
theorem zn_may (h : NoneJ w v) (a : Int) : Calls Try.prog 39 #[v, .int .i64 a] w (VB (.int .i64 1) w) := by
  have HT := Lib.hid (zn_is h)
  clear h
  go_enter Try.func39, Try.ntmps39
  go_wp2_with fail
  refine HT.out.mono ?_
  rintro e w1 ⟨rfl, hb⟩
  have HB := Lib.hid hb
  clear hb
  go_wp2_with fail
  go_ret
  exact ⟨rfl, HB.out⟩
theorem zn_enter (h : NoneJ w v) (a : Int) : Calls Try.prog 14 #[v, .int .i64 a] w (VB (.int .i64 1) w) := by
  have HT := Lib.hid (zn_may h a)
  clear h
  go_enter Try.func14, Try.ntmps14
  go_wp2_with fail
  refine HT.out.mono ?_
  rintro e w1 ⟨rfl, hb⟩
  have HB := Lib.hid hb
  clear hb
  go_wp2_with fail
  go_ret
  exact ⟨rfl, HB.out⟩
theorem zn_leave (h : NoneJ w v) : Calls Try.prog 16 #[v] w (VB (.int .i64 1) w) := by
  have HT := Lib.hid (zn_is h)
  clear h
  go_enter Try.func16, Try.ntmps16
  go_wp2_with fail
  refine HT.out.mono ?_
  rintro e w1 ⟨rfl, hb⟩
  have HB := Lib.hid hb
  clear hb
  go_wp2_with fail
  go_ret
  exact ⟨rfl, HB.out⟩
theorem zn_fault (h : NoneJ w v) (now : Int) : Calls Try.prog 24 #[v, .int .i64 now] w (VB (.int .i64 0) w) := by
  have HT := Lib.hid (zn_next h)
  clear h
  go_enter Try.func24, Try.ntmps24
  go_wp2_with fail
  refine HT.out.mono ?_
  rintro e w1 ⟨rfl, hb⟩
  have HB := Lib.hid (hb.alloc hb.size (.cells #[.int .i64 0, .int .i64 0, .string ⟨#[]⟩] 49))
  clear hb
  go_wp2_with fail
  go_ret
  exact ⟨rfl, HB.out⟩
end
end Go.Proofs.Ytoggnofdgmhbmaa
