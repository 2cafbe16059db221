/- Purses that are none; PurseNames. -/
import Derived.Test.YtcmejhgjkecpjaaPurB
namespace Go.Proofs.Ytcmejhgjkecpjaa
open Go.RowKit Pu
set_option linter.unusedVariables false
set_option maxRecDepth 100000

/-- a purse that is none: nil, or a zero one -/
def NoneP (w : World) (v : Value) : Prop := v = .pointer none ∨ ∃ b, v = .pointer (some ⟨b, 0, none⟩) ∧ RP w b 0 0 none 0 0 0 false
section
variable {w w' : World} {v : Value}
theorem NoneP.below (h : NoneP w v) (q : Below w.heap.size w w') : NoneP w' v := by
  rcases h with h | ⟨b, h, r⟩
  · exact Or.inl h
  · exact Or.inr ⟨b, h, r.below q⟩
theorem n_told (h : NoneP w v) : Calls Try.prog 34 #[v] w (VB (.agg #[.int .i64 0, .int .i64 0, .pointer none, .int .i64 0, .int .i64 0, .int .i64 0, .bool false]) w) := by
  rcases h with rfl | ⟨b, rfl, r⟩
  · exact told_nil w
  · exact told_cells r
theorem n_wrong (h : NoneP w v) : Calls Try.prog 29 #[v] w (VB (.int .i64 1) w) := wrong_nil (n_told h)
theorem n_left (h : NoneP w v) : Calls Try.prog 21 #[v] w (VB (.int .i64 0) w) := left_of (n_told h)
theorem n_ends (h : NoneP w v) : Calls Try.prog 23 #[v] w (VB (.int .i64 0) w) := ends_of (n_told h)
theorem n_short (h : NoneP w v) : Calls Try.prog 22 #[v] w (VB (.int .i64 0) w) := short_of (n_told h)
theorem n_gone (h : NoneP w v) : Calls Try.prog 25 #[v] w (VB (.bool false) w) := gone_of (n_told h)
theorem n_waits (h : NoneP w v) : Calls Try.prog 24 #[v] w (VB (.bool false) w) := waits_none (n_told h)
theorem n_is (h : NoneP w v) : Calls Try.prog 20 #[v] w (VB (.tuple #[.int .i64 0, .int .i64 0]) w) := is_of (n_told h)
theorem n_charge (h : NoneP w v) : Calls Try.prog 10 #[v] w (VB (.int .i64 1) w) := by
  have H := Lib.hid (n_wrong h)
  clear h
  go_enter Try.func10, Try.ntmps10
  go_wp2_with fail
  refine H.out.mono ?_
  rintro E w1 ⟨rfl, hq⟩
  have HB := Lib.hid hq
  clear hq
  go_wp2_with fail
  go_ret
  exact ⟨rfl, HB.out⟩
theorem n_turn (h : NoneP w v) (t : Int) : Calls Try.prog 12 #[v, .int .i64 t] w (VB (.tuple #[.bool false, .int .i64 1]) w) := by
  have H := Lib.hid (n_wrong h)
  clear h
  go_enter Try.func12, Try.ntmps12
  go_wp2_with fail
  refine H.out.mono ?_
  rintro E w1 ⟨rfl, hq⟩
  have HB := Lib.hid hq
  clear hq
  go_wp2_with fail
  go_ret2
  exact ⟨rfl, HB.out⟩
theorem n_wait (h : NoneP w v) : Calls Try.prog 32 #[v] w (VB (.int .i64 1) w) := by
  have H := Lib.hid (n_waits h)
  have HN := Lib.hid h
  clear h
  go_enter Try.func32, Try.ntmps32
  go_wp2_with fail
  refine H.out.mono ?_
  rintro E w1 ⟨rfl, hq⟩
  have H2 := Lib.hid (n_wrong (HN.out.below hq))
  have HB := Lib.hid hq
  clear hq
  go_wp2_with fail
  refine H2.out.mono ?_
  rintro E w2 ⟨rfl, hq⟩
  have HC := Lib.hid (HB.out.trans (hq.mono HB.out.size))
  clear hq HB
  go_wp2_with fail
  go_ret
  exact ⟨rfl, HC.out⟩
theorem n_change (h : NoneP w v) (p q : Int) : Calls Try.prog 14 #[v, .int .i64 p, .int .i64 q] w (VB (.int .i64 1) w) := by
  have H := Lib.hid (n_wait h)
  clear h
  go_enter Try.func14, Try.ntmps14
  go_wp2_with fail
  refine H.out.mono ?_
  rintro E w1 ⟨rfl, hq⟩
  have HB := Lib.hid hq
  clear hq
  go_wp2_with fail
  go_ret
  exact ⟨rfl, HB.out⟩
theorem n_leave (h : NoneP w v) : Calls Try.prog 16 #[v] w (VB (.int .i64 1) w) := by
  have H := Lib.hid (n_wait h)
  clear h
  go_enter Try.func16, Try.ntmps16
  go_wp2_with fail
  refine H.out.mono ?_
  rintro E w1 ⟨rfl, hq⟩
  have HB := Lib.hid hq
  clear hq
  go_wp2_with fail
  go_ret
  exact ⟨rfl, HB.out⟩
end
theorem no_new {p b t r : Int} (w : World) (h : nwE p b t = r) (hr : r ≠ 0) : Calls Try.prog 7 #[.int .i64 p, .int .i64 b, .int .i64 t] w (VB (.tuple #[.pointer none, .int .i64 r]) w) := by
  subst h; exact new_no w hr
set_option maxHeartbeats 20000000 in
theorem names_any (w : World) : Calls Try.prog 6 #[] w (TrueB w) := by
  go_enter Try.func6, Try.ntmps6
  have HB0 := Lib.hid (Below.refl w.heap.size w)
  go_wp2_with fail
  refine (no_new _ (p := 0) (b := 0) (t := 0) (r := 2) (by decide) (by decide)).mono ?_
  rintro E w1 ⟨rfl, hq⟩
  have HB1 := Lib.hid (HB0.out.trans (hq.mono HB0.out.size))
  clear hq HB0
  go_wp2_with fail
  refine (no_new _ (p := 65) (b := 1) (t := 0) (r := 2) (by decide) (by decide)).mono ?_
  rintro E w2 ⟨rfl, hq⟩
  have HB2 := Lib.hid (HB1.out.trans (hq.mono HB1.out.size))
  clear hq HB1
  go_wp2_with fail
  refine (no_new _ (p := 5) (b := 6) (t := 0) (r := 2) (by decide) (by decide)).mono ?_
  rintro E w3 ⟨rfl, hq⟩
  have HB3 := Lib.hid (HB2.out.trans (hq.mono HB2.out.size))
  clear hq HB2
  go_wp2_with fail
  refine (no_new _ (p := 5) (b := 5) (t := (-1)) (r := 2) (by decide) (by decide)).mono ?_
  rintro E w4 ⟨rfl, hq⟩
  have HB4 := Lib.hid (HB3.out.trans (hq.mono HB3.out.size))
  clear hq HB3
  go_wp2_with fail
  refine (no_new _ (p := 5) (b := 5) (t := 1099511627777) (r := 10) (by decide) (by decide)).mono ?_
  rintro E w5 ⟨rfl, hq⟩
  have HB5 := Lib.hid (HB4.out.trans (hq.mono HB4.out.size))
  clear hq HB4
  go_wp2_with fail
  refine (og_new w5 (p := 64) (b := 64) (t := 1099511627776) (s := (⟨64, 64, 64, 1099511627840, 0, 0, 0, false, false⟩ : St)) (by decide) rfl).mono ?_
  rintro E w6 ⟨gb, rfl, hg⟩
  have G6 := Lib.hid hg
  clear hg
  go_wp2_with fail
  refine (og_ends G6.out (r := 1099511627840) rfl).mono ?_
  rintro E w7 ⟨rfl, hg⟩
  have G7 := Lib.hid (G6.out.below hg)
  clear hg G6
  go_wp2_with fail
  refine (og_turn G7.out (by decide) (t := 1099511627841) (x := false) (r := 250) (s' := (⟨64, 64, 64, 1099511627840, 0, 0, 0, false, false⟩ : St)) (by decide) (by decide) rfl).mono ?_
  rintro E w8 ⟨rfl, hg⟩
  have G8 := Lib.hid hg
  clear hg G7
  go_wp2_with fail
  refine (og_change G8.out (p := 5) (q := 6) (r := 2) (s' := (⟨64, 64, 64, 1099511627840, 0, 0, 0, false, false⟩ : St)) (by decide) rfl).mono ?_
  rintro E w9 ⟨rfl, hg⟩
  have G9 := Lib.hid hg
  clear hg G8
  go_wp2_with fail
  refine (og_leave G9.out (r := 0) (s' := (⟨64, 64, 64, 1099511627840, 0, 0, 0, true, false⟩ : St)) (by decide) rfl).mono ?_
  rintro E w10 ⟨rfl, hg⟩
  have G10 := Lib.hid hg
  clear hg G9
  go_wp2_with fail
  refine (og_leave G10.out (r := 250) (s' := (⟨64, 64, 64, 1099511627840, 0, 0, 0, true, false⟩ : St)) (by decide) rfl).mono ?_
  rintro E w11 ⟨rfl, hg⟩
  have G11 := Lib.hid hg
  clear hg G10
  go_wp2_with fail
  refine (og_change G11.out (p := 5) (q := 5) (r := 250) (s' := (⟨64, 64, 64, 1099511627840, 0, 0, 0, true, false⟩ : St)) (by decide) rfl).mono ?_
  rintro E w12 ⟨rfl, hg⟩
  have G12 := Lib.hid hg
  clear hg G11
  go_wp2_with fail
  refine (og_waits G12.out (x := true) rfl).mono ?_
  rintro E w13 ⟨rfl, hg⟩
  have G13 := Lib.hid (G12.out.below hg)
  clear hg G12
  go_wp2_with fail
  refine (og_ends G13.out (r := 1099511627840) rfl).mono ?_
  rintro E w14 ⟨rfl, hg⟩
  have G14 := Lib.hid (G13.out.below hg)
  clear hg G13
  go_wp2_with fail
  refine (og_turn G14.out (by decide) (t := 1099511627840) (x := true) (r := 0) (s' := (⟨64, 64, 0, 1099511627840, 0, 0, 64, true, true⟩ : St)) (by decide) (by decide) rfl).mono ?_
  rintro E w15 ⟨rfl, hg⟩
  have G15 := Lib.hid hg
  clear hg G14
  go_wp2_with fail
  refine (og_turn G15.out (by decide) (t := 0) (x := false) (r := 250) (s' := (⟨64, 64, 0, 1099511627840, 0, 0, 64, true, true⟩ : St)) (by decide) (by decide) rfl).mono ?_
  rintro E w16 ⟨rfl, hg⟩
  have G16 := Lib.hid hg
  clear hg G15
  go_wp2_with fail
  refine (og_leave G16.out (r := 250) (s' := (⟨64, 64, 0, 1099511627840, 0, 0, 64, true, true⟩ : St)) (by decide) rfl).mono ?_
  rintro E w17 ⟨rfl, hg⟩
  have G17 := Lib.hid hg
  clear hg G16
  go_wp2_with fail
  refine (og_change G17.out (p := 1) (q := 1) (r := 250) (s' := (⟨64, 64, 0, 1099511627840, 0, 0, 64, true, true⟩ : St)) (by decide) rfl).mono ?_
  rintro E w18 ⟨rfl, hg⟩
  have G18 := Lib.hid hg
  clear hg G17
  go_wp2_with fail
  refine (og_waits G18.out (x := false) rfl).mono ?_
  rintro E w19 ⟨rfl, hg⟩
  have G19 := Lib.hid (G18.out.below hg)
  clear hg G18
  go_wp2_with fail
  refine (og_left G19.out (r := 0) rfl).mono ?_
  rintro E wz ⟨rfl, hg⟩
  have HBz := Lib.hid (HB5.out.trans ((G19.out.below hg).bel.mono HB5.out.size))
  clear hg G19 HB5
  go_wp2_with fail
  go_loopw [25, 26] (fun v i wr => ∃ k : Nat, k ≤ 2 ∧ i = .int .i64 k ∧ Hid (NoneP wr v) ∧ Hid (Below w.heap.size w wr)) (fun _ i _ => 2 - (intOf i).toNat)
  case atStart => exact ⟨0, by decide, rfl, Or.inl rfl, HBz.out⟩
  case round =>
    clear HBz
    obtain ⟨k, hk, rfl, HN, HB⟩ := hrel
    by_cases hk2 : k < 2
    · have hd : decide ((k : Int) < 2) = true := by simp; omega
      go_wp2_with fail
      refine (n_turn HN.out 0).mono ?_
      rintro E v1 ⟨rfl, hq⟩
      have HN1 := Lib.hid (HN.out.below hq)
      have HB1 := Lib.hid (HB.out.trans (hq.mono HB.out.size))
      clear hq HN HB
      go_wp2_with fail
      refine (n_is HN1.out).mono ?_
      rintro E v2 ⟨rfl, hq⟩
      have HN2 := Lib.hid (HN1.out.below hq)
      have HB2 := Lib.hid (HB1.out.trans (hq.mono HB1.out.size))
      clear hq HN1 HB1
      go_wp2_with fail
      refine (n_charge HN2.out).mono ?_
      rintro E v3 ⟨rfl, hq⟩
      have HN3 := Lib.hid (HN2.out.below hq)
      have HB3 := Lib.hid (HB2.out.trans (hq.mono HB2.out.size))
      clear hq HN2 HB2
      go_wp2_with fail
      refine (n_change HN3.out 1 1).mono ?_
      rintro E v4 ⟨rfl, hq⟩
      have HN4 := Lib.hid (HN3.out.below hq)
      have HB4 := Lib.hid (HB3.out.trans (hq.mono HB3.out.size))
      clear hq HN3 HB3
      go_wp2_with fail
      refine (n_leave HN4.out).mono ?_
      rintro E v5 ⟨rfl, hq⟩
      have HN5 := Lib.hid (HN4.out.below hq)
      have HB5 := Lib.hid (HB4.out.trans (hq.mono HB4.out.size))
      clear hq HN4 HB4
      go_wp2_with fail
      refine (n_left HN5.out).mono ?_
      rintro E v6 ⟨rfl, hq⟩
      have HN6 := Lib.hid (HN5.out.below hq)
      have HB6 := Lib.hid (HB5.out.trans (hq.mono HB5.out.size))
      clear hq HN5 HB5
      go_wp2_with fail
      refine (n_ends HN6.out).mono ?_
      rintro E v7 ⟨rfl, hq⟩
      have HN7 := Lib.hid (HN6.out.below hq)
      have HB7 := Lib.hid (HB6.out.trans (hq.mono HB6.out.size))
      clear hq HN6 HB6
      go_wp2_with fail
      refine (n_short HN7.out).mono ?_
      rintro E v8 ⟨rfl, hq⟩
      have HN8 := Lib.hid (HN7.out.below hq)
      have HB8 := Lib.hid (HB7.out.trans (hq.mono HB7.out.size))
      clear hq HN7 HB7
      go_wp2_with fail
      refine (n_waits HN8.out).mono ?_
      rintro E v9 ⟨rfl, hq⟩
      have HN9 := Lib.hid (HN8.out.below hq)
      have HB9 := Lib.hid (HB8.out.trans (hq.mono HB8.out.size))
      clear hq HN8 HB8
      go_wp2_with fail
      refine (n_gone HN9.out).mono ?_
      rintro E v10 ⟨rfl, hq⟩
      have HN10 := Lib.hid (HN9.out.below hq)
      have HB10 := Lib.hid (HB9.out.trans (hq.mono HB9.out.size))
      clear hq HN9 HB9
      go_wp2_with fail
      go_roundw
      case rel => exact ⟨k + 1, by omega, by go_num, Or.inr ⟨_, rfl, heap_alloc_new _ _⟩, HB10.out.alloc HB10.out.size _⟩
      case measure => simp [intOf]; omega
    · have hd : decide ((k : Int) < 2) = false := by simp; omega
      go_wp2_with fail
      refine (works_any _).mono ?_
      rintro E wy ⟨rfl, hq⟩
      have HF := Lib.hid (HB.out.trans (hq.mono HB.out.size))
      clear hq
      go_wp2_with fail
      go_ret
      exact ⟨rfl, HF.out⟩
end Go.Proofs.Ytcmejhgjkecpjaa
