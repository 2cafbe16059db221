/- Rooms that are none. -/
import Derived.Test.YtkkmfpllgjoceaaGreatRooD
namespace Go.Proofs.YtkkmfpllgjoceaaGreat.Ro
open Go.RowKit Go.Sort Ac Jo
set_option linter.unusedVariables false
set_option maxRecDepth 100000

/-- a room that is none: nil, or a zero one -/
def NoneR (w : World) (rv : Value) : Prop := ∀ W, Below w.heap.size w W → Calls Tryz.prog 73 #[rv] W (IsB true W)
section
variable {w w' : World} {rv : Value}
theorem NoneR.below (h : NoneR w rv) (q : Below w.heap.size w w') : NoneR w' rv := fun W hW => h W (chn q hW)
theorem nr_nil (w : World) : NoneR w (.pointer none) := fun W _ => by
  go_enter Tryz.func73, Tryz.ntmps73
  go_wp2_with fail
  go_ret
  exact ⟨rfl, rfl⟩
theorem nr_zero {g : Nat} (h : w.heap[g]? = some (.cells #[.pointer none, .pointer none, .slice none 0 0, .slice none 0 0, .slice none 0 0] 74 (0, 0))) : NoneR w (.pointer (some ⟨g, 0, none⟩)) := fun W hW => by
  have c0 := cell_of_row _ _ 0 _ _ _ ((hW.block g (lt_of_block h)).trans h)
  clear h hW
  go_enter Tryz.func73, Tryz.ntmps73
  go_wp2_with fail
  go_ret
  exact ⟨rfl, rfl⟩
theorem nr_lt (h : NoneR w rv) (t : Int) : Calls Tryz.prog 88 #[rv, .int .i64 t] w (IsI 1 w) := by
  have HN := Lib.hid (h w (Below.refl _ _))
  clear h
  go_enter Tryz.func88, Tryz.ntmps88
  go_wp2_with fail
  refine HN.out.mono ?_
  rintro e w1 ⟨rfl, rfl⟩
  go_wp2_with fail
  go_ret
  exact ⟨rfl, rfl⟩
theorem nr_lj (h : NoneR w rv) (t : Int) : Calls Tryz.prog 71 #[rv, .int .i64 t] w (IsI 1 w) := by
  have HN := Lib.hid (nr_lt h t)
  clear h
  go_enter Tryz.func71, Tryz.ntmps71
  go_wp2_with fail
  refine HN.out.mono ?_
  rintro e w1 ⟨rfl, rfl⟩
  go_wp2_with fail
  go_ret
  exact ⟨rfl, rfl⟩
theorem nr_int (h : NoneR w rv) (B : Nat) (t : Int) : Calls Tryz.prog 121 #[rv, .int .i64 t, .pointer (some ⟨B, 0, none⟩)] w (VB (.tuple #[.int .i64 0, .int .i64 1]) w) := by
  have HJ := Lib.hid (nr_lj h t)
  clear h
  go_enter Tryz.func121, Tryz.ntmps121
  go_wp2_with fail
  refine HJ.out.mono ?_
  rintro e w1 ⟨rfl, rfl⟩
  go_wp2_with fail
  go_ret2
  exact ⟨rfl, Below.refl _ _⟩
theorem nr_err (h : NoneR w rv) (B : Nat) (t : Int) : Calls Tryz.prog 176 #[rv, .int .i64 t, .pointer (some ⟨B, 0, none⟩)] w (VB (.tuple #[.int .i64 0, .int .i64 1]) w) := by
  have HJ := Lib.hid (nr_lj h t)
  clear h
  go_enter Tryz.func176, Tryz.ntmps176
  go_wp2_with fail
  refine HJ.out.mono ?_
  rintro e w1 ⟨rfl, rfl⟩
  go_wp2_with fail
  go_ret2
  exact ⟨rfl, Below.refl _ _⟩
theorem nr_pb (h : NoneR w rv) (B : Nat) (t : Int) : Calls Tryz.prog 160 #[rv, .int .i64 t, .pointer (some ⟨B, 0, none⟩)] w (VB (.tuple #[.agg #[.int .i64 0, .int .i64 0, .string ⟨#[]⟩, .bool false], .int .i64 1]) w) := by
  have HB0 := Lib.hid (below_al w (.cells #[.int .i64 0, .int .i64 0, .string ⟨#[]⟩, .bool false] 117))
  have HJ := Lib.hid (nr_lj (h.below HB0.out) t)
  clear h
  go_enter Tryz.func160, Tryz.ntmps160
  go_wp2_with fail
  refine HJ.out.mono ?_
  rintro e w1 ⟨rfl, rfl⟩
  go_wp2_with fail
  go_returns
  exact ⟨rfl, HB0.out⟩
theorem nr_pi (h : NoneR w rv) (B : Nat) (t : Int) : Calls Tryz.prog 179 #[rv, .int .i64 t, .pointer (some ⟨B, 0, none⟩)] w (VB (.tuple #[.agg #[.int .i64 0, .int .i64 0], .int .i64 1]) w) := by
  have HB0 := Lib.hid (below_al w (.cells #[.int .i64 0, .int .i64 0] 167))
  have HJ := Lib.hid (nr_lj (h.below HB0.out) t)
  clear h
  go_enter Tryz.func179, Tryz.ntmps179
  go_wp2_with fail
  refine HJ.out.mono ?_
  rintro e w1 ⟨rfl, rfl⟩
  go_wp2_with fail
  go_returns
  exact ⟨rfl, HB0.out⟩
theorem nr_sec (h : NoneR w rv) (t : Int) : Calls Tryz.prog 80 #[rv, .int .i64 t] w (VB (.tuple #[.int .i64 0, .int .i64 1]) w) := by
  have HC : Hid (∀ W B, Below w.heap.size w W → Calls Tryz.prog 179 #[rv, .int .i64 t, .pointer (some ⟨B, 0, none⟩)] W (VB (.tuple #[.agg #[.int .i64 0, .int .i64 0], .int .i64 1]) W)) := fun W B hb => nr_pi (h.below hb) B t
  clear h
  go_enter Tryz.func80, Tryz.ntmps80
  go_wp2_with fail
  refine (both_pi _ _).mono ?_
  rintro e w1 ⟨B1, rfl, h1, hb1⟩
  have HB1 := Lib.hid hb1
  clear h1 hb1
  go_wp2_with fail
  refine (asks_pi _ _ _).mono ?_
  rintro e w2 ⟨B, rfl, hB, hb2⟩
  have HB2 := Lib.hid (chn HB1.out hb2)
  clear hB hb2 HB1
  go_wp2_with fail
  refine (HC.out _ B HB2.out).mono ?_
  rintro e w3 ⟨rfl, hb3⟩
  have HB3 := Lib.hid ((chn HB2.out hb3).alloc (chn HB2.out hb3).size (.cells #[.int .i64 0, .int .i64 0] 167))
  clear hb3 HC HB2
  go_wp2_with fail
  go_ret2
  exact ⟨rfl, HB3.out⟩
theorem nr_does (h : NoneR w rv) (t : Int) (F : Nat) (C : Array Value) : Calls Tryz.prog 77 #[rv, .int .i64 t, .func (.func F) #[] C] w (VB (.int .i64 1) w) := by
  have HC : Hid (∀ W B, Below w.heap.size w W → Calls Tryz.prog 176 #[rv, .int .i64 t, .pointer (some ⟨B, 0, none⟩)] W (VB (.tuple #[.int .i64 0, .int .i64 1]) W)) := fun W B hb => nr_err (h.below hb) B t
  have HO : Hid (∀ w1 : World, Calls Tryz.prog 134 #[.slice (some ⟨w1.heap.size, 0, none⟩) 2 2] (w1.alloc (.cells #[.int .i64 0, .int .i64 1] 25)) (VB (.int .i64 1) (w1.alloc (.cells #[.int .i64 0, .int .i64 1] 25)))) := fun w1 => by
    have := or_any (heap_alloc_new w1 (.cells #[.int .i64 0, .int .i64 1] 25))
    rw [if_pos rfl] at this
    exact this
  clear h
  go_enter Tryz.func77, Tryz.ntmps77
  go_wp2_with fail
  refine (asks_err _ _ _).mono ?_
  rintro e w1 ⟨B, rfl, hB, hb1⟩
  have HB1 := Lib.hid hb1
  clear hB hb1
  go_wp2_with fail
  refine (HC.out w1 B HB1.out).mono ?_
  rintro e w2 ⟨rfl, hb2⟩
  have HB2 := Lib.hid (chn HB1.out hb2)
  clear hb2 HC HB1
  go_wp2_with fail
  refine (HO.out _).mono ?_
  rintro e w3 ⟨rfl, hb3⟩
  have HB3 := Lib.hid (chn (HB2.out.alloc HB2.out.size _) hb3)
  clear hb3 HO HB2
  go_wp2_with fail
  go_ret
  exact ⟨rfl, HB3.out⟩
theorem nr_did (h : NoneR w rv) (t : Int) : Calls Tryz.prog 20 #[rv, .int .i64 t] w (VB (.int .i64 1) w) := by
  have HD := Lib.hid (nr_does h t 78 #[])
  clear h
  go_enter Tryz.func20, Tryz.ntmps20
  go_wp2_with fail
  refine HD.out.mono ?_
  rintro e w1 ⟨rfl, hb⟩
  have HB := Lib.hid hb
  clear hb HD
  go_wp2_with fail
  go_ret
  exact ⟨rfl, HB.out⟩
theorem nr_run (h : NoneR w rv) (t : Int) : Calls Tryz.prog 21 #[rv, .int .i64 t] w (VB (.int .i64 1) w) := by
  have HD := Lib.hid (nr_does h t 79 #[])
  clear h
  go_enter Tryz.func21, Tryz.ntmps21
  go_wp2_with fail
  refine HD.out.mono ?_
  rintro e w1 ⟨rfl, hb⟩
  have HB := Lib.hid hb
  clear hb HD
  go_wp2_with fail
  go_ret
  exact ⟨rfl, HB.out⟩
theorem nr_lock (h : NoneR w rv) (t : Int) (r : Int) : Calls Tryz.prog 22 #[rv, .int .i64 t, .int .i64 r] w (VB (.int .i64 1) w) := by
  have HS := Lib.hid (nr_sec h t)
  clear h
  go_enter Tryz.func22, Tryz.ntmps22
  go_wp2_with fail
  refine HS.out.mono ?_
  rintro e w1 ⟨rfl, hb⟩
  have HB := Lib.hid hb
  clear hb HS
  go_wp2_with fail
  go_ret
  exact ⟨rfl, HB.out⟩
theorem nr_ask (h : NoneR w rv) (t : Int) : Calls Tryz.prog 24 #[rv, .int .i64 t] w (VB (.int .i64 1) w) := by
  have HS := Lib.hid (nr_sec h t)
  clear h
  go_enter Tryz.func24, Tryz.ntmps24
  go_wp2_with fail
  refine HS.out.mono ?_
  rintro e w1 ⟨rfl, hb⟩
  have HB := Lib.hid hb
  clear hb HS
  go_wp2_with fail
  go_ret
  exact ⟨rfl, HB.out⟩
theorem nr_hold (h : NoneR w rv) (t : Int) : Calls Tryz.prog 25 #[rv, .int .i64 t] w (VB (.int .i64 1) w) := by
  have HS := Lib.hid (nr_sec h t)
  clear h
  go_enter Tryz.func25, Tryz.ntmps25
  go_wp2_with fail
  refine HS.out.mono ?_
  rintro e w1 ⟨rfl, hb⟩
  have HB := Lib.hid hb
  clear hb HS
  go_wp2_with fail
  go_ret
  exact ⟨rfl, HB.out⟩
theorem nr_give (h : NoneR w rv) (t : Int) : Calls Tryz.prog 26 #[rv, .int .i64 t] w (VB (.int .i64 1) w) := by
  have HS := Lib.hid (nr_sec h t)
  clear h
  go_enter Tryz.func26, Tryz.ntmps26
  go_wp2_with fail
  refine HS.out.mono ?_
  rintro e w1 ⟨rfl, hb⟩
  have HB := Lib.hid hb
  clear hb HS
  go_wp2_with fail
  go_ret
  exact ⟨rfl, HB.out⟩
theorem nr_unlock (h : NoneR w rv) (t : Int) : Calls Tryz.prog 23 #[rv, .int .i64 t] w (VB (.int .i64 1) w) := by
  have HJ := Lib.hid (nr_lj h t)
  clear h
  go_enter Tryz.func23, Tryz.ntmps23
  go_wp2_with fail
  refine HJ.out.mono ?_
  rintro e w1 ⟨rfl, rfl⟩
  go_wp2_with fail
  go_ret
  exact ⟨rfl, Below.refl _ _⟩
theorem nr_fin (h : NoneR w rv) (t : Int) : Calls Tryz.prog 27 #[rv, .int .i64 t] w (VB (.bool false) w) := by
  have HJ := Lib.hid (nr_lj h t)
  clear h
  go_enter Tryz.func27, Tryz.ntmps27
  go_wp2_with fail
  refine HJ.out.mono ?_
  rintro e w1 ⟨rfl, rfl⟩
  go_wp2_with fail
  go_ret
  exact ⟨rfl, Below.refl _ _⟩
theorem nr_held (h : NoneR w rv) (t : Int) : Calls Tryz.prog 18 #[rv, .int .i64 t] w (VB (.slice none 0 0) w) := by
  have HJ := Lib.hid (nr_lj h t)
  clear h
  go_enter Tryz.func18, Tryz.ntmps18
  go_wp2_with fail
  refine HJ.out.mono ?_
  rintro e w1 ⟨rfl, rfl⟩
  go_wp2_with fail
  go_ret
  exact ⟨rfl, Below.refl _ _⟩
theorem nr_ear (h : NoneR w rv) (t : Int) : Calls Tryz.prog 29 #[rv, .int .i64 t] w (VB (.int .i64 0) w) := by
  have HJ := Lib.hid (nr_lt h t)
  clear h
  go_enter Tryz.func29, Tryz.ntmps29
  go_wp2_with fail
  refine HJ.out.mono ?_
  rintro e w1 ⟨rfl, rfl⟩
  go_wp2_with fail
  go_ret
  exact ⟨rfl, Below.refl _ _⟩
theorem nr_rel (h : NoneR w rv) (t : Int) (v : Value) (now : Int) : Calls Tryz.prog 28 #[rv, .int .i64 t, v, .int .i64 now] w (VB (.int .i64 1) w) := by
  have HJ := Lib.hid (nr_lt h t)
  clear h
  go_enter Tryz.func28, Tryz.ntmps28
  go_wp2_with fail
  refine HJ.out.mono ?_
  rintro e w1 ⟨rfl, rfl⟩
  go_wp2_with fail
  go_ret
  exact ⟨rfl, Below.refl _ _⟩
theorem nr_jobs (h : NoneR w rv) : Calls Tryz.prog 34 #[rv] w (VB (.slice none 0 0) w) := by
  have HN := Lib.hid (h w (Below.refl _ _))
  clear h
  go_enter Tryz.func34, Tryz.ntmps34
  go_wp2_with fail
  refine HN.out.mono ?_
  rintro e w1 ⟨rfl, rfl⟩
  go_wp2_with fail
  go_ret
  exact ⟨rfl, Below.refl _ _⟩
theorem nr_who (h : NoneR w rv) : Calls Tryz.prog 19 #[rv] w (VB (.tuple #[.int .i64 0, .bool false]) w) := by
  have HN := Lib.hid (h w (Below.refl _ _))
  clear h
  go_enter Tryz.func19, Tryz.ntmps19
  go_wp2_with fail
  refine HN.out.mono ?_
  rintro e w1 ⟨rfl, rfl⟩
  go_wp2_with fail
  go_ret2
  exact ⟨rfl, Below.refl _ _⟩
theorem nr_dead (h : NoneR w rv) (t : Int) : Calls Tryz.prog 17 #[rv, .int .i64 t] w (VB (.tuple #[.int .i64 0, .bool false]) w) := by
  have HC : Hid (∀ W B, Below w.heap.size w W → Calls Tryz.prog 121 #[rv, .int .i64 t, .pointer (some ⟨B, 0, none⟩)] W (VB (.tuple #[.int .i64 0, .int .i64 1]) W)) := fun W B hb => nr_int (h.below hb) B t
  clear h
  go_enter Tryz.func17, Tryz.ntmps17
  go_wp2_with fail
  refine (asks_int _ _ _).mono ?_
  rintro e w2 ⟨B, rfl, hB, hb2⟩
  have HB2 := Lib.hid hb2
  clear hB hb2
  go_wp2_with fail
  refine (HC.out _ B HB2.out).mono ?_
  rintro e w3 ⟨rfl, hb3⟩
  have HB3 := Lib.hid (chn HB2.out hb3)
  clear hb3 HC
  go_wp2_with fail
  go_ret2
  exact ⟨rfl, HB3.out⟩
theorem nr_fault (h : NoneR w rv) (t now : Int) : Calls Tryz.prog 32 #[rv, .int .i64 t, .int .i64 now] w (VB (.int .i64 0) w) := by
  have HC : Hid (∀ W B, Below w.heap.size w W → Calls Tryz.prog 121 #[rv, .int .i64 t, .pointer (some ⟨B, 0, none⟩)] W (VB (.tuple #[.int .i64 0, .int .i64 1]) W)) := fun W B hb => nr_int (h.below hb) B t
  clear h
  go_enter Tryz.func32, Tryz.ntmps32
  go_wp2_with fail
  refine (with_int _ _ _).mono ?_
  rintro e w1 ⟨B1, B2, rfl, h1, h2, hb1⟩
  have HB1 := Lib.hid hb1
  clear h1 h2 hb1
  go_wp2_with fail
  refine (asks_int _ _ _).mono ?_
  rintro e w2 ⟨B, rfl, hB, hb2⟩
  have HB2 := Lib.hid (chn HB1.out hb2)
  clear hB hb2
  go_wp2_with fail
  refine (HC.out _ B HB2.out).mono ?_
  rintro e w3 ⟨rfl, hb3⟩
  have HB3 := Lib.hid (chn HB2.out hb3)
  clear hb3 HC
  go_wp2_with fail
  go_ret
  exact ⟨rfl, HB3.out⟩
set_option maxHeartbeats 1000000 in
theorem nr_sole (h : NoneR w rv) : Calls Tryz.prog 30 #[rv] w (VB (.tuple #[.int .i64 0, .int .i64 0, .bool false]) w) := by
  have HN := Lib.hid h
  clear h
  go_enter Tryz.func30, Tryz.ntmps30
  go_wp2_with fail
  go_loopw [8] (fun i wr => ∃ k : Nat, k ≤ 4 ∧ i = .int .i64 k ∧ Hid (Below w.heap.size w wr)) (fun i _ => 4 - (intOf i).toNat)
  case atStart => exact ⟨0, by omega, rfl, Below.refl _ _⟩
  case round =>
    obtain ⟨k, hk, rfl, HB⟩ := hrel
    by_cases hlt : k < 4
    · have HC := Lib.hid (nr_sec (HN.out.below HB.out) k)
      have HS := Lib.hid (fun W => shared_any 0 W)
      rw [show decide ((0 : Int) = 2 ∨ (0 : Int) = 3) = false from rfl] at HS
      go_wp2_with fail
      refine HC.out.mono ?_
      rintro e w1 ⟨rfl, hb1⟩
      have HB1 := Lib.hid (HB.out.trans (hb1.mono HB.out.size))
      clear hb1 HC
      go_wp2_with fail
      refine (HS.out _).mono ?_
      rintro e w2 ⟨rfl, rfl⟩
      go_wp2_with fail
      go_roundw
      case rel => exact ⟨k + 1, by omega, by go_num, HB1.out⟩
      case measure => simp [intOf]; omega
    · obtain rfl : k = 4 := by omega
      go_wp2_with fail
      go_ret3
      exact ⟨rfl, HB.out⟩
theorem next_gen {t k n y : Int} {u : ByteArray} {b : Bool} (HC : Hid (∀ (w1 : World) (B B1 : Nat), Below w.heap.size w w1 → w1.heap[B]? = some (.cells #[.func (.func 161) #[] #[.pointer (some ⟨B1, 0, none⟩)]] 121 (0, 0)) → w1.heap[B1]? = some (.cells #[.func (.func 98) #[] #[]] 123 (0, 0)) →
      Calls Tryz.prog 160 #[rv, .int .i64 t, .pointer (some ⟨B, 0, none⟩)] w1 (VB (.tuple #[.agg #[.int .i64 k, .int .i64 n, .string u, .bool b], .int .i64 y]) w1))) : Calls Tryz.prog 35 #[rv, .int .i64 t] w (VB (.tuple #[.agg #[.int .i64 k, .int .i64 n, .string u], .bool b]) w) := by
  have HZ := Lib.hid (heap_alloc_new w (.cells #[.int .i64 0, .int .i64 0, .string ⟨#[]⟩] 57))
  have HB0 := Lib.hid (below_al w (.cells #[.int .i64 0, .int .i64 0, .string ⟨#[]⟩] 57))
  go_enter Tryz.func35, Tryz.ntmps35
  go_wp2_with fail
  refine (both_pb _ _).mono ?_
  rintro e w1 ⟨B1, rfl, h1, hb1⟩
  have H1 := Lib.hid h1
  have HB1 := Lib.hid (chn HB0.out hb1)
  have HZ1 : Hid (w1.heap[w.heap.size]? = some (.cells #[.int .i64 0, .int .i64 0, .string ⟨#[]⟩] 57 (0, 0))) := (hb1.block _ (by rw [World.size_alloc]; omega)).trans HZ.out
  clear h1 hb1 HZ HB0
  go_wp2_with fail
  refine (asks_pb _ _ _).mono ?_
  rintro e w2 ⟨B, rfl, hB, hb2⟩
  have HD := Lib.hid (HC.out w2 B B1 (chn HB1.out hb2) hB ((hb2.block _ (lt_of_block H1.out)).trans H1.out))
  have HB2 := Lib.hid (chn HB1.out hb2)
  have HZ2 := Lib.hid ((hb2.block _ (lt_of_block HZ1.out)).trans HZ1.out)
  clear hB hb2 HC H1 HB1 HZ1
  go_wp2_with fail
  refine HD.out.mono ?_
  rintro e w3 ⟨rfl, hb3⟩
  have HB3 := Lib.hid (chn HB2.out hb3)
  have hob := (hb3.block _ (lt_of_block HZ2.out)).trans HZ2.out
  clear hb3 HD HB2 HZ2
  obtain ⟨wd, hwd⟩ : ∃ wd, wd = (w3.alloc (.cells #[.int .i64 k, .int .i64 n, .string u, .bool b] 117)) := ⟨_, rfl⟩
  have hal := heap_alloc_new w3 (.cells #[.int .i64 k, .int .i64 n, .string u, .bool b] 117)
  have hobd := ((below_al w3 (.cells #[.int .i64 k, .int .i64 n, .string u, .bool b] 117)).block _ (lt_of_block hob)).trans hob
  have HBd := HB3.out.alloc HB3.out.size (.cells #[.int .i64 k, .int .i64 n, .string u, .bool b] 117)
  rw [← hwd] at hal hobd HBd
  have HWD := Lib.hid hwd
  go_wp2_with fail
  rw [← HWD.out]
  have p0 : wd.cell? ⟨w3.heap.size, 0, none⟩ = some (.int .i64 k) := cell_of_row _ _ 0 _ _ _ hal
  have p1 : wd.cell? ⟨w3.heap.size, 0 + 1, none⟩ = some (.int .i64 n) := cell_of_row _ _ 1 _ _ _ hal
  have p2 : wd.cell? ⟨w3.heap.size, 0 + 2, none⟩ = some (.string u) := cell_of_row _ _ 2 _ _ _ hal
  have p3 : wd.cell? ⟨w3.heap.size, 0 + 3, none⟩ = some (.bool b) := cell_of_row _ _ 3 _ _ _ hal
  have hne : w3.heap.size ≠ w.heap.size := by have := lt_of_block hob; omega
  have q3 : (((wd.setCell ⟨w.heap.size, 0, none⟩ (.int .i64 k)).setCell ⟨w.heap.size, 1, none⟩ (.int .i64 n)).setCell ⟨w.heap.size, 2, none⟩ (.string u)).cell? ⟨w3.heap.size, 0 + 3, none⟩ = some (.bool b) :=
    cell_of_row _ _ 3 _ _ _ ((Below.heap_setCell _ _ _ _ hne).trans ((Below.heap_setCell _ _ _ _ hne).trans ((Below.heap_setCell _ _ _ _ hne).trans hal)))
  have HB2 : Hid (Below w.heap.size w wd) := HBd
  clear hwd hal HBd HWD HB3 hob
  have f0 : wd.frozen? ⟨w.heap.size, 0, none⟩ = false := frozen_of_row _ _ 0 _ _ hobd
  have v0 : wd.cell? ⟨w.heap.size, 0, none⟩ = some (.int .i64 0) := cell_of_row _ _ 0 _ _ _ hobd
  have f1 : wd.frozen? ⟨w.heap.size, 0 + 1, none⟩ = false := frozen_of_row _ _ 1 _ _ hobd
  have v1 : wd.cell? ⟨w.heap.size, 0 + 1, none⟩ = some (.int .i64 0) := cell_of_row _ _ 1 _ _ _ hobd
  have f2 : wd.frozen? ⟨w.heap.size, 0 + 2, none⟩ = false := frozen_of_row _ _ 2 _ _ hobd
  have v2 : wd.cell? ⟨w.heap.size, 0 + 2, none⟩ = some (.string ⟨#[]⟩) := cell_of_row _ _ 2 _ _ _ hobd
  have hfin : (((wd.setCell ⟨w.heap.size, 0, none⟩ (.int .i64 k)).setCell ⟨w.heap.size, 1, none⟩ (.int .i64 n)).setCell ⟨w.heap.size, 2, none⟩ (.string u)).heap[w.heap.size]? = some (.cells #[.int .i64 k, .int .i64 n, .string u] 57 (0, 0)) := (heap_setCell_same ((wd.setCell ⟨w.heap.size, 0, none⟩ (.int .i64 k)).setCell ⟨w.heap.size, 1, none⟩ (.int .i64 n)) w.heap.size 2 _ _ (.string u) (heap_setCell_same (wd.setCell ⟨w.heap.size, 0, none⟩ (.int .i64 k)) w.heap.size 1 _ _ (.int .i64 n) (heap_setCell_same wd w.heap.size 0 _ _ (.int .i64 k) hobd)))
  have e0 : (((wd.setCell ⟨w.heap.size, 0, none⟩ (.int .i64 k)).setCell ⟨w.heap.size, 1, none⟩ (.int .i64 n)).setCell ⟨w.heap.size, 2, none⟩ (.string u)).cell? ⟨w.heap.size, 0, none⟩ = some (.int .i64 k) := cell_of_row _ _ 0 _ _ _ hfin
  have e1 : (((wd.setCell ⟨w.heap.size, 0, none⟩ (.int .i64 k)).setCell ⟨w.heap.size, 1, none⟩ (.int .i64 n)).setCell ⟨w.heap.size, 2, none⟩ (.string u)).cell? ⟨w.heap.size, 0 + 1, none⟩ = some (.int .i64 n) := cell_of_row _ _ 1 _ _ _ hfin
  have e2 : (((wd.setCell ⟨w.heap.size, 0, none⟩ (.int .i64 k)).setCell ⟨w.heap.size, 1, none⟩ (.int .i64 n)).setCell ⟨w.heap.size, 2, none⟩ (.string u)).cell? ⟨w.heap.size, 0 + 2, none⟩ = some (.string u) := cell_of_row _ _ 2 _ _ _ hfin
  have HF : Hid (Below w.heap.size w (((wd.setCell ⟨w.heap.size, 0, none⟩ (.int .i64 k)).setCell ⟨w.heap.size, 1, none⟩ (.int .i64 n)).setCell ⟨w.heap.size, 2, none⟩ (.string u))) := (((HB2.out).setCell (p := ⟨w.heap.size, 0, none⟩) (Nat.le_refl _) _).setCell (p := ⟨w.heap.size, 1, none⟩) (Nat.le_refl _) _).setCell (p := ⟨w.heap.size, 2, none⟩) (Nat.le_refl _) _
  clear hfin hobd HB2
  generalize w3.heap.size = pb at *
  generalize hoe : w.heap.size = ob at *
  have HOE := Lib.hid hoe
  clear hoe hne
  go_region
  all_goals
    go_wp2_with fail
    refine bodyPost_ret (v := .tuple #[.agg #[.int .i64 k, .int .i64 n, .string u], .bool b]) (by simp [results, Tryz.results35, go_sem, e0, e1, e2]) rfl ?_
    exact ⟨rfl, by rw [HOE.out]; first | exact HF.out | exact below_drew HF.out⟩
theorem nr_next (h : NoneR w rv) (t : Int) : Calls Tryz.prog 35 #[rv, .int .i64 t] w (VB (.tuple #[.agg #[.int .i64 0, .int .i64 0, .string ⟨#[]⟩], .bool false]) w) := next_gen (y := 1) (Lib.hid (fun w1 B B1 hb _ _ => nr_pb (h.below hb) B t))
end
end Go.Proofs.YtkkmfpllgjoceaaGreat.Ro
