/- Rows that are none. -/
import Derived.Test.YtoggnofdgmhbmaaActW
namespace Go.Proofs.Ytoggnofdgmhbmaa
open Go.RowKit Ac
set_option linter.unusedVariables false

/-- a row that is none: nil, or a zero one -/
def NoneAt (w : World) (v : Value) : Prop := v = .pointer none ∨ ∃ b, v = .pointer (some ⟨b, 0, none⟩) ∧ w.heap[b]? = some (.cells #[.slice none 0 0] 74 (0, 0))
theorem NoneAt.below {w w' : World} {v : Value} (h : NoneAt w v) (q : Below w.heap.size w w') : NoneAt w' v := by
  rcases h with rfl | ⟨b, rfl, h⟩
  · exact Or.inl rfl
  · exact Or.inr ⟨b, rfl, (q.block b (lt_of_block h)).trans h⟩
section
variable {w : World} {v : Value}
theorem nn_todo (h : NoneAt w v) : Calls Try.prog 57 #[v] w (IsV (.slice none 0 0) w) := by
  rcases h with rfl | ⟨b, rfl, h⟩
  · exact todo_nil w
  · exact todo_cell (cell_of_row _ _ 0 _ _ _ h)
theorem nn_is (h : NoneAt w v) : Calls Try.prog 54 #[v] w (IsB true w) := none_of (nn_todo h)
set_option maxHeartbeats 1000000 in
theorem nn_next (h : NoneAt w v) : Calls Try.prog 46 #[v] w (VB (.tuple #[.agg #[.int .i64 0, .int .i64 0, .string ⟨#[]⟩], .bool false]) w) := by
  have HT := Lib.hid (nn_todo (h.below (below_al w (.cells #[.int .i64 0, .int .i64 0, .string ⟨#[]⟩] 49))))
  clear h
  go_enter Try.func46, Try.ntmps46
  go_wp2_with fail
  refine HT.out.mono ?_
  rintro e w1 ⟨rfl, rfl⟩
  go_wp2_with fail
  go_returns
  exact ⟨rfl, (Below.refl _ _).alloc (Nat.le_refl _) _⟩
set_option maxHeartbeats 1000000 in
theorem nn_did (h : NoneAt w v) : Calls Try.prog 35 #[v] w (VB (.int .i64 1) w) := by
  have HX := Lib.hid (nn_next h)
  have HN := Lib.hid h
  clear h
  go_enter Try.func35, Try.ntmps35
  go_wp2_with fail
  refine HX.out.mono ?_
  rintro e w1 ⟨rfl, hb⟩
  have HB := Lib.hid (hb.alloc hb.size (.cells #[.int .i64 0, .int .i64 0, .string ⟨#[]⟩] 49))
  clear hb
  go_wp2_with fail
  refine (nn_is (HN.out.below HB.out)).mono ?_
  rintro e w2 ⟨rfl, rfl⟩
  go_wp2_with fail
  go_ret
  exact ⟨rfl, HB.out⟩
set_option maxHeartbeats 1000000 in
theorem nn_ran (h : NoneAt w v) : Calls Try.prog 37 #[v] w (VB (.int .i64 1) w) := by
  have HX := Lib.hid (nn_next h)
  have HN := Lib.hid h
  clear h
  go_enter Try.func37, Try.ntmps37
  go_wp2_with fail
  refine HX.out.mono ?_
  rintro e w1 ⟨rfl, hb⟩
  have HB := Lib.hid (hb.alloc hb.size (.cells #[.int .i64 0, .int .i64 0, .string ⟨#[]⟩] 49))
  clear hb
  go_wp2_with fail
  refine (nn_is (HN.out.below HB.out)).mono ?_
  rintro e w2 ⟨rfl, rfl⟩
  go_wp2_with fail
  go_ret
  exact ⟨rfl, HB.out⟩
theorem nn_done (h : NoneAt w v) : Calls Try.prog 43 #[v] w (IsB false w) := by
  have HN := Lib.hid (nn_is h)
  clear h
  go_enter Try.func43, Try.ntmps43
  go_wp2_with fail
  refine HN.out.mono ?_
  rintro e w1 ⟨rfl, rfl⟩
  go_wp2_with fail
  go_ret
  exact ⟨rfl, rfl⟩
set_option maxHeartbeats 1000000 in
theorem nn_left (h : NoneAt w v) : Calls Try.prog 44 #[v] w (IsI 0 w) := by
  have HT := Lib.hid (nn_todo h)
  clear h
  go_enter Try.func44, Try.ntmps44
  go_wp2_with fail
  refine HT.out.mono ?_
  rintro e w1 ⟨rfl, rfl⟩
  go_wp2_with fail
  refine wp_loop_rounds 1 ?_
  rw [rounds_succ]
  go_wp2_with fail
  go_ret
  exact ⟨rfl, rfl⟩
end
end Go.Proofs.Ytoggnofdgmhbmaa
