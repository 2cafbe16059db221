/- The chapter's examples (works), what CopyInts and EqInts do. -/
import Derived.Test.YtebgfemnfbfnpaaWalksF
namespace Go.Proofs.Ytebgfemnfbfnpaa
open Go.RowKit Tk
set_option linter.unusedVariables false

def TrueB (w : World) (e : Ending) (w' : World) : Prop := e = .returned (.bool true) ∧ Below w.heap.size w w'
theorem chain {w w1 w2 : World} (h : Below w.heap.size w w1) (k : Below w1.heap.size w1 w2) : Below w.heap.size w w2 := h.trans (k.mono h.size)
theorem chainA {w w1 w2 : World} {o : Obj} (h : Below w.heap.size w w1) (k : Below (w1.alloc o).heap.size (w1.alloc o) w2) : Below w.heap.size w w2 := chain (chain h (below_alloc w1 o)) k

theorem lcm3 (limit x y z n e : Int) (w : World) (h : lcmR limit [x, y, z] = (n, e)) : Calls Try.prog 22 #[.int .i64 limit, .slice (some ⟨w.heap.size, 0, none⟩) 3 3] (w.alloc (.cells #[.int .i64 x, .int .i64 y, .int .i64 z] 3)) (TwoB n e (w.alloc (.cells #[.int .i64 x, .int .i64 y, .int .i64 z] 3))) := by
  have k := lcm_any limit (some ⟨w.heap.size, 0, none⟩) 3 3 [x, y, z] _ rfl (by omega) (Row.made w [x, y, z])
  rw [h] at k; exact k
theorem lcm0 (limit n e : Int) (w : World) (h : lcmR limit [] = (n, e)) : Calls Try.prog 22 #[.int .i64 limit, .slice none 0 0] w (TwoB n e w) := by
  have k := lcm_any limit none 0 0 [] w rfl (by omega) (Or.inl rfl)
  rw [h] at k; exact k
theorem sum3 (x y z n e : Int) (w : World) (h : sumR [x, y, z] = (n, e)) : Calls Try.prog 24 #[.slice (some ⟨w.heap.size, 0, none⟩) 3 3] (w.alloc (.cells #[.int .i64 x, .int .i64 y, .int .i64 z] 3)) (TwoB n e (w.alloc (.cells #[.int .i64 x, .int .i64 y, .int .i64 z] 3))) := by
  have k := sum_any (some ⟨w.heap.size, 0, none⟩) 3 3 [x, y, z] _ rfl (by omega) (Row.made w [x, y, z])
  rw [h] at k; exact k
theorem sum1 (x n e : Int) (w : World) (h : sumR [x] = (n, e)) : Calls Try.prog 24 #[.slice (some ⟨w.heap.size, 0, none⟩) 1 1] (w.alloc (.cells #[.int .i64 x] 3)) (TwoB n e (w.alloc (.cells #[.int .i64 x] 3))) := by
  have k := sum_any (some ⟨w.heap.size, 0, none⟩) 1 1 [x] _ rfl (by omega) (Row.made w [x])
  rw [h] at k; exact k
theorem known1a : addN 1099511627776 0 = 1099511627776 := by decide +kernel
theorem known1b : addE 1099511627776 0 = 0 := by decide +kernel
theorem known2a : addN 1099511627776 1 = 0 := by decide +kernel
theorem known2b : addE 1099511627776 1 = 10 := by decide +kernel
theorem known3a : subN 3 4 = 0 := by decide +kernel
theorem known3b : subE 3 4 = 2 := by decide +kernel
theorem known4a : mulN 1048576 1048576 = 1099511627776 := by decide +kernel
theorem known4b : mulE 1048576 1048576 = 0 := by decide +kernel
theorem known5a : mulN 1048577 1048576 = 0 := by decide +kernel
theorem known5b : mulE 1048577 1048576 = 10 := by decide +kernel
theorem known6a : divN 7 2 = 3 := by decide +kernel
theorem known6b : divE 7 2 = 0 := by decide +kernel
theorem known7a : divN 7 0 = 0 := by decide +kernel
theorem known7b : divE 7 0 = 2 := by decide +kernel
theorem known8a : gcdN 12 18 = 6 := by decide +kernel
theorem known8b : gcdE 12 18 = 0 := by decide +kernel
theorem known9a : gcdN 0 5 = 5 := by decide +kernel
theorem known9b : gcdE 0 5 = 0 := by decide +kernel
theorem known10 : lcmR 100 [4, 6, 10] = (60, 0) := by decide +kernel
theorem known11 : lcmR 59 [4, 6, 10] = (0, 10) := by decide +kernel
theorem known12 : lcmR 1 [] = (1, 0) := by decide +kernel
theorem known13 : sumR [1, 2, 3] = (6, 0) := by decide +kernel
theorem known14 : sumR [(-1)] = (0, 2) := by decide +kernel

set_option maxRecDepth 100000 in
set_option maxHeartbeats 2000000 in
theorem works_any (w : World) : Calls Try.prog 20 #[] w (TrueB w) := by
  go_enter Try.func20, Try.ntmps20
  go_wp2_with fail
  refine (add_fit 1099511627776 0 1099511627776 0 _ known1a known1b).mono ?_
  rintro e w1 ⟨rfl, hb1⟩
  have hs1 : Below w.heap.size w w1 := hb1
  clear hb1
  go_wp2_with fail
  refine (add_fit 1099511627776 1 0 10 _ known2a known2b).mono ?_
  rintro e w2 ⟨rfl, hb2⟩
  have hs2 : Below w.heap.size w w2 := chain hs1 hb2
  clear hs1
  clear hb2
  go_wp2_with fail
  refine (sub_fit 3 4 0 2 _ known3a known3b).mono ?_
  rintro e w3 ⟨rfl, hb3⟩
  have hs3 : Below w.heap.size w w3 := chain hs2 hb3
  clear hs2
  clear hb3
  go_wp2_with fail
  refine (mul_fit 1048576 1048576 1099511627776 0 _ known4a known4b).mono ?_
  rintro e w4 ⟨rfl, hb4⟩
  have hs4 : Below w.heap.size w w4 := chain hs3 hb4
  clear hs3
  clear hb4
  go_wp2_with fail
  refine (mul_fit 1048577 1048576 0 10 _ known5a known5b).mono ?_
  rintro e w5 ⟨rfl, hb5⟩
  have hs5 : Below w.heap.size w w5 := chain hs4 hb5
  clear hs4
  clear hb5
  go_wp2_with fail
  refine (is_same _ _ _).mono ?_
  rintro e w0 ⟨rfl, rfl⟩
  go_wp2_with fail
  refine (is_same _ _ _).mono ?_
  rintro e w0 ⟨rfl, rfl⟩
  go_wp2_with fail
  refine (is_same _ _ _).mono ?_
  rintro e w0 ⟨rfl, rfl⟩
  go_wp2_with fail
  refine (is_same _ _ _).mono ?_
  rintro e w0 ⟨rfl, rfl⟩
  go_wp2_with fail
  refine (is_same _ _ _).mono ?_
  rintro e w0 ⟨rfl, rfl⟩
  go_wp2_with fail
  refine (div_fit 7 2 3 0 _ known6a known6b).mono ?_
  rintro e w6 ⟨rfl, hb6⟩
  have hs6 : Below w.heap.size w w6 := chain hs5 hb6
  clear hs5
  clear hb6
  go_wp2_with fail
  refine (div_fit 7 0 0 2 _ known7a known7b).mono ?_
  rintro e w7 ⟨rfl, hb7⟩
  have hs7 : Below w.heap.size w w7 := chain hs6 hb7
  clear hs6
  clear hb7
  go_wp2_with fail
  refine (gcd_fit 12 18 6 0 _ known8a known8b).mono ?_
  rintro e w8 ⟨rfl, hb8⟩
  have hs8 : Below w.heap.size w w8 := chain hs7 hb8
  clear hs7
  clear hb8
  go_wp2_with fail
  refine (gcd_fit 0 5 5 0 _ known9a known9b).mono ?_
  rintro e w9 ⟨rfl, hb9⟩
  have hs9 : Below w.heap.size w w9 := chain hs8 hb9
  clear hs8
  clear hb9
  go_wp2_with fail
  refine (is_same _ _ _).mono ?_
  rintro e w0 ⟨rfl, rfl⟩
  go_wp2_with fail
  refine (is_same _ _ _).mono ?_
  rintro e w0 ⟨rfl, rfl⟩
  go_wp2_with fail
  refine (is_same _ _ _).mono ?_
  rintro e w0 ⟨rfl, rfl⟩
  go_wp2_with fail
  refine (is_same _ _ _).mono ?_
  rintro e w0 ⟨rfl, rfl⟩
  go_wp2_with fail
  refine (lcm3 100 4 6 10 60 0 _ known10).mono ?_
  rintro e w10 ⟨rfl, hb10⟩
  have hs10 : Below w.heap.size w w10 := chainA hs9 hb10
  clear hs9
  clear hb10
  go_wp2_with fail
  refine (lcm3 59 4 6 10 0 10 _ known11).mono ?_
  rintro e w11 ⟨rfl, hb11⟩
  have hs11 : Below w.heap.size w w11 := chainA hs10 hb11
  clear hs10
  clear hb11
  go_wp2_with fail
  refine (lcm0 1 1 0 _ known12).mono ?_
  rintro e w12 ⟨rfl, hb12⟩
  have hs12 : Below w.heap.size w w12 := chain hs11 hb12
  clear hs11
  clear hb12
  go_wp2_with fail
  refine (sum3 1 2 3 6 0 _ known13).mono ?_
  rintro e w13 ⟨rfl, hb13⟩
  have hs13 : Below w.heap.size w w13 := chainA hs12 hb13
  clear hs12
  clear hb13
  go_wp2_with fail
  refine (sum1 (-1) 0 2 _ known14).mono ?_
  rintro e w14 ⟨rfl, hb14⟩
  have hs14 : Below w.heap.size w w14 := chainA hs13 hb14
  clear hs13
  clear hb14
  go_wp2_with fail
  refine (is_same _ _ _).mono ?_
  rintro e w0 ⟨rfl, rfl⟩
  go_wp2_with fail
  refine (is_same _ _ _).mono ?_
  rintro e w0 ⟨rfl, rfl⟩
  go_wp2_with fail
  refine (is_same _ _ _).mono ?_
  rintro e w0 ⟨rfl, rfl⟩
  go_wp2_with fail
  refine (is_same _ _ _).mono ?_
  rintro e w0 ⟨rfl, rfl⟩
  go_wp2_with fail
  refine (is_same _ _ _).mono ?_
  rintro e w0 ⟨rfl, rfl⟩
  go_wp2_with fail
  go_ret
  exact ⟨rfl, hs14⟩

end Go.Proofs.Ytebgfemnfbfnpaa
