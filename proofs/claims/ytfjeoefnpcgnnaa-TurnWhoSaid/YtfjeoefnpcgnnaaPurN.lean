/- Purses that are none; PurseNames. -/
import Derived.Test.YtfjeoefnpcgnnaaPurB
namespace Go.Proofs.Ytfjeoefnpcgnnaa.Pw
open Go.RowKit Pu
set_option linter.unusedVariables false
set_option maxRecDepth 100000

/-- a purse that is none: nil, or a zero one -/
def NoneP (w : World) (v : Value) : Prop := v = .pointer none ∨ ∃ b, v = .pointer (some ⟨b, 0, none⟩) ∧ RP w b 0 0 none 0 0 0 false
section
variable {w w' : World} {v : Value}
theorem NoneP.below (h : NoneP w v) (q : Below w.heap.size w w') : NoneP w' v := by
  rcases h with h | ⟨b, h, r⟩
  · exact Or.inl h
  · exact Or.inr ⟨b, h, r.below q⟩
theorem n_told (h : NoneP w v) : Calls Try.prog 45 #[v] w (VB (.agg #[.int .i64 0, .int .i64 0, .pointer none, .int .i64 0, .int .i64 0, .int .i64 0, .bool false]) w) := by
  rcases h with rfl | ⟨b, rfl, r⟩
  · exact told_nil w
  · exact told_cells r
theorem n_wrong (h : NoneP w v) : Calls Try.prog 34 #[v] w (VB (.int .i64 1) w) := wrong_nil (n_told h)
theorem n_left (h : NoneP w v) : Calls Try.prog 48 #[v] w (VB (.int .i64 0) w) := left_of (n_told h)
theorem n_ends (h : NoneP w v) : Calls Try.prog 50 #[v] w (VB (.int .i64 0) w) := ends_of (n_told h)
theorem n_waits (h : NoneP w v) : Calls Try.prog 55 #[v] w (VB (.bool false) w) := waits_none (n_told h)
theorem n_charge (h : NoneP w v) : Calls Try.prog 16 #[v] w (VB (.int .i64 1) w) := by
  have H := Lib.hid (n_wrong h)
  clear h
  go_enter Try.func16, Try.ntmps16
  go_wp2_with fail
  refine H.out.mono ?_
  rintro E w1 ⟨rfl, hq⟩
  have HB := Lib.hid hq
  clear hq
  go_wp2_with fail
  go_ret
  exact ⟨rfl, HB.out⟩
theorem n_turn (h : NoneP w v) (t : Int) : Calls Try.prog 25 #[v, .int .i64 t] w (VB (.tuple #[.bool false, .int .i64 1]) w) := by
  have H := Lib.hid (n_wrong h)
  clear h
  go_enter Try.func25, Try.ntmps25
  go_wp2_with fail
  refine H.out.mono ?_
  rintro E w1 ⟨rfl, hq⟩
  have HB := Lib.hid hq
  clear hq
  go_wp2_with fail
  go_ret2
  exact ⟨rfl, HB.out⟩
theorem n_wait (h : NoneP w v) : Calls Try.prog 42 #[v] w (VB (.int .i64 1) w) := by
  have H := Lib.hid (n_waits h)
  have HN := Lib.hid h
  clear h
  go_enter Try.func42, Try.ntmps42
  go_wp2_with fail
  refine H.out.mono ?_
  rintro E w1 ⟨rfl, hq⟩
  have H2 := Lib.hid (n_wrong (HN.out.below hq))
  have HB := Lib.hid hq
  clear hq
  go_wp2_with fail
  refine H2.out.mono ?_
  rintro E w2 ⟨rfl, hq⟩
  have HC := Lib.hid (HB.out.trans (hq.mono HB.out.size))
  clear hq HB
  go_wp2_with fail
  go_ret
  exact ⟨rfl, HC.out⟩
theorem n_leave (h : NoneP w v) : Calls Try.prog 24 #[v] w (VB (.int .i64 1) w) := by
  have H := Lib.hid (n_wait h)
  clear h
  go_enter Try.func24, Try.ntmps24
  go_wp2_with fail
  refine H.out.mono ?_
  rintro E w1 ⟨rfl, hq⟩
  have HB := Lib.hid hq
  clear hq
  go_wp2_with fail
  go_ret
  exact ⟨rfl, HB.out⟩
end
theorem no_new {p b t r : Int} (w : World) (h : nwE p b t = r) (hr : r ≠ 0) : Calls Try.prog 13 #[.int .i64 p, .int .i64 b, .int .i64 t] w (VB (.tuple #[.pointer none, .int .i64 r]) w) := by
  subst h; exact new_no w hr
end Go.Proofs.Ytfjeoefnpcgnnaa.Pw
