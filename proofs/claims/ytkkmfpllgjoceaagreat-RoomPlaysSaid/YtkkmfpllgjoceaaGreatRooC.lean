/- The program's room, read: Next, its section, who goes on, its jobs, the guards' earliest ticks, what is held. -/
import Derived.Test.YtkkmfpllgjoceaaGreatRooB
import Derived.Test.YtkkmfpllgjoceaaGreatRooL
import Derived.Deep.CutRange
namespace Go.Proofs.YtkkmfpllgjoceaaGreat.Ro
open Go.RowKit Go.Sort Ac Jo
set_option linter.unusedVariables false
set_option maxRecDepth 100000

section
variable {m : Mm} {w w' : World} {rb : Nat} {s : Rm}
theorem askn (h : PRM m w rb s) (hp : Jp m s) (t : Int) {k n : Int} {u : ByteArray} {b : Bool} (hx : nv (nextV s t) = .tuple #[.agg #[.int .i64 k, .int .i64 n, .string u], .bool b]) :
    ∃ y : Int, ∀ (w1 : World) (B B1 : Nat), Below w.heap.size w w1 → w1.heap[B]? = some (.cells #[.func (.func 161) #[] #[.pointer (some ⟨B1, 0, none⟩)]] 121 (0, 0)) → w1.heap[B1]? = some (.cells #[.func (.func 98) #[] #[]] 123 (0, 0)) →
      Calls Tryz.prog 160 #[.pointer (some ⟨rb, 0, none⟩), .int .i64 t, .pointer (some ⟨B, 0, none⟩)] w1 (VB (.tuple #[.agg #[.int .i64 k, .int .i64 n, .string u, .bool b], .int .i64 y]) w1) := by
  by_cases ha : asked s t = 0
  · refine ⟨0, fun w1 B B1 hb hB h1 => ?_⟩
    have hx2 : nextV s t = (s.j t).l := if_pos ha
    rw [hx2] at hx
    obtain ⟨i, rfl, hin, hpi, hjp, hsj⟩ := asked_p hp ha
    rw [hsj] at hx
    exact yes_pb (h.below hb) hp hin hpi ha hB fun w2 hb2 => both1_next ((hb2.block _ (lt_of_block h1)).trans h1) fun w3 hb3 => by rw [← hx]; exact pj_next ((((h.below hb).below hb2).below hb3).jb i hin hpi)
  · refine ⟨asked s t, fun w1 B B1 hb hB h1 => ?_⟩
    have hx2 : nextV s t = [] := if_neg ha
    rw [hx2] at hx
    have e : nv [] = .tuple #[.agg #[.int .i64 0, .int .i64 0, .string ⟨#[]⟩], .bool false] := rfl
    rw [e] at hx
    injection hx with hx
    injection hx with hx
    simp only [List.cons.injEq, Value.agg.injEq, Array.mk.injEq, Value.int.injEq, Value.string.injEq, Value.bool.injEq, and_true, true_and] at hx
    obtain ⟨⟨rfl, rfl, rfl⟩, rfl⟩ := hx
    exact no_pb (h.below hb) hp ha
theorem next_any (h : PRM m w rb s) (hp : Jp m s) (t : Int) : Calls Tryz.prog 35 #[.pointer (some ⟨rb, 0, none⟩), .int .i64 t] w (VB (nv (nextV s t)) w) := by
  obtain ⟨k, n, u, b, hx⟩ : ∃ (k n : Int) (u : ByteArray) (b : Bool), nv (nextV s t) = .tuple #[.agg #[.int .i64 k, .int .i64 n, .string u], .bool b] := ⟨_, _, _, _, rfl⟩
  obtain ⟨y, HC⟩ := askn h hp t hx
  rw [hx]
  have HC := Lib.hid HC
  clear h hp hx
  have HZ := Lib.hid (heap_alloc_new w (.cells #[.int .i64 0, .int .i64 0, .string ⟨#[]⟩] 57))
  have HB0 := Lib.hid (below_al w (.cells #[.int .i64 0, .int .i64 0, .string ⟨#[]⟩] 57))
  go_enter Tryz.func35, Tryz.ntmps35
  go_wp2_with fail
  refine (both_pb _ _).mono ?_
  rintro e w1 ⟨B1, rfl, h1, hb1⟩
  have H1 := Lib.hid h1
  have HB1 := Lib.hid (chn HB0.out hb1)
  have HZ1 : Hid (w1.heap[w.heap.size]? = some (.cells #[.int .i64 0, .int .i64 0, .string ⟨#[]⟩] 57 (0, 0))) := (hb1.block _ (by rw [World.size_alloc]; omega)).trans HZ.out
  clear h1 hb1 HZ HB0
  go_wp2_with fail
  refine (asks_pb _ _ _).mono ?_
  rintro e w2 ⟨B, rfl, hB, hb2⟩
  have HD := Lib.hid (HC.out w2 B B1 (chn HB1.out hb2) hB ((hb2.block _ (lt_of_block H1.out)).trans H1.out))
  have HB2 := Lib.hid (chn HB1.out hb2)
  have HZ2 := Lib.hid ((hb2.block _ (lt_of_block HZ1.out)).trans HZ1.out)
  clear hB hb2 HC H1 HB1 HZ1
  go_wp2_with fail
  refine HD.out.mono ?_
  rintro e w3 ⟨rfl, hb3⟩
  have HB3 := Lib.hid (chn HB2.out hb3)
  have hob := (hb3.block _ (lt_of_block HZ2.out)).trans HZ2.out
  clear hb3 HD HB2 HZ2
  obtain ⟨wd, hwd⟩ : ∃ wd, wd = (w3.alloc (.cells #[.int .i64 k, .int .i64 n, .string u, .bool b] 117)) := ⟨_, rfl⟩
  have hal := heap_alloc_new w3 (.cells #[.int .i64 k, .int .i64 n, .string u, .bool b] 117)
  have hobd := ((below_al w3 (.cells #[.int .i64 k, .int .i64 n, .string u, .bool b] 117)).block _ (lt_of_block hob)).trans hob
  have HBd := HB3.out.alloc HB3.out.size (.cells #[.int .i64 k, .int .i64 n, .string u, .bool b] 117)
  rw [← hwd] at hal hobd HBd
  have HWD := Lib.hid hwd
  go_wp2_with fail
  rw [← HWD.out]
  have p0 : wd.cell? ⟨w3.heap.size, 0, none⟩ = some (.int .i64 k) := cell_of_row _ _ 0 _ _ _ hal
  have p1 : wd.cell? ⟨w3.heap.size, 0 + 1, none⟩ = some (.int .i64 n) := cell_of_row _ _ 1 _ _ _ hal
  have p2 : wd.cell? ⟨w3.heap.size, 0 + 2, none⟩ = some (.string u) := cell_of_row _ _ 2 _ _ _ hal
  have p3 : wd.cell? ⟨w3.heap.size, 0 + 3, none⟩ = some (.bool b) := cell_of_row _ _ 3 _ _ _ hal
  have hne : w3.heap.size ≠ w.heap.size := by have := lt_of_block hob; omega
  have q3 : (((wd.setCell ⟨w.heap.size, 0, none⟩ (.int .i64 k)).setCell ⟨w.heap.size, 1, none⟩ (.int .i64 n)).setCell ⟨w.heap.size, 2, none⟩ (.string u)).cell? ⟨w3.heap.size, 0 + 3, none⟩ = some (.bool b) :=
    cell_of_row _ _ 3 _ _ _ ((Below.heap_setCell _ _ _ _ hne).trans ((Below.heap_setCell _ _ _ _ hne).trans ((Below.heap_setCell _ _ _ _ hne).trans hal)))
  have HB2 : Hid (Below w.heap.size w wd) := HBd
  clear hwd hal HBd HWD HB3 hob
  have f0 : wd.frozen? ⟨w.heap.size, 0, none⟩ = false := frozen_of_row _ _ 0 _ _ hobd
  have v0 : wd.cell? ⟨w.heap.size, 0, none⟩ = some (.int .i64 0) := cell_of_row _ _ 0 _ _ _ hobd
  have f1 : wd.frozen? ⟨w.heap.size, 0 + 1, none⟩ = false := frozen_of_row _ _ 1 _ _ hobd
  have v1 : wd.cell? ⟨w.heap.size, 0 + 1, none⟩ = some (.int .i64 0) := cell_of_row _ _ 1 _ _ _ hobd
  have f2 : wd.frozen? ⟨w.heap.size, 0 + 2, none⟩ = false := frozen_of_row _ _ 2 _ _ hobd
  have v2 : wd.cell? ⟨w.heap.size, 0 + 2, none⟩ = some (.string ⟨#[]⟩) := cell_of_row _ _ 2 _ _ _ hobd
  have hfin : (((wd.setCell ⟨w.heap.size, 0, none⟩ (.int .i64 k)).setCell ⟨w.heap.size, 1, none⟩ (.int .i64 n)).setCell ⟨w.heap.size, 2, none⟩ (.string u)).heap[w.heap.size]? = some (.cells #[.int .i64 k, .int .i64 n, .string u] 57 (0, 0)) := (heap_setCell_same ((wd.setCell ⟨w.heap.size, 0, none⟩ (.int .i64 k)).setCell ⟨w.heap.size, 1, none⟩ (.int .i64 n)) w.heap.size 2 _ _ (.string u) (heap_setCell_same (wd.setCell ⟨w.heap.size, 0, none⟩ (.int .i64 k)) w.heap.size 1 _ _ (.int .i64 n) (heap_setCell_same wd w.heap.size 0 _ _ (.int .i64 k) hobd)))
  have e0 : (((wd.setCell ⟨w.heap.size, 0, none⟩ (.int .i64 k)).setCell ⟨w.heap.size, 1, none⟩ (.int .i64 n)).setCell ⟨w.heap.size, 2, none⟩ (.string u)).cell? ⟨w.heap.size, 0, none⟩ = some (.int .i64 k) := cell_of_row _ _ 0 _ _ _ hfin
  have e1 : (((wd.setCell ⟨w.heap.size, 0, none⟩ (.int .i64 k)).setCell ⟨w.heap.size, 1, none⟩ (.int .i64 n)).setCell ⟨w.heap.size, 2, none⟩ (.string u)).cell? ⟨w.heap.size, 0 + 1, none⟩ = some (.int .i64 n) := cell_of_row _ _ 1 _ _ _ hfin
  have e2 : (((wd.setCell ⟨w.heap.size, 0, none⟩ (.int .i64 k)).setCell ⟨w.heap.size, 1, none⟩ (.int .i64 n)).setCell ⟨w.heap.size, 2, none⟩ (.string u)).cell? ⟨w.heap.size, 0 + 2, none⟩ = some (.string u) := cell_of_row _ _ 2 _ _ _ hfin
  have HF : Hid (Below w.heap.size w (((wd.setCell ⟨w.heap.size, 0, none⟩ (.int .i64 k)).setCell ⟨w.heap.size, 1, none⟩ (.int .i64 n)).setCell ⟨w.heap.size, 2, none⟩ (.string u))) := (((HB2.out).setCell (p := ⟨w.heap.size, 0, none⟩) (Nat.le_refl _) _).setCell (p := ⟨w.heap.size, 1, none⟩) (Nat.le_refl _) _).setCell (p := ⟨w.heap.size, 2, none⟩) (Nat.le_refl _) _
  clear hfin hobd HB2
  generalize w3.heap.size = pb at *
  generalize hoe : w.heap.size = ob at *
  have HOE := Lib.hid hoe
  clear hoe hne
  go_region
  all_goals
    go_wp2_with fail
    refine bodyPost_ret (v := .tuple #[.agg #[.int .i64 k, .int .i64 n, .string u], .bool b]) (by simp [results, Tryz.results35, go_sem, e0, e1, e2]) rfl ?_
    exact ⟨rfl, by rw [HOE.out]; first | exact HF.out | exact below_drew HF.out⟩
def secN (s : Rm) (t : Int) : Int := if asked s t = 0 then (s.j t).c else 0
theorem sec_any (h : PRM m w rb s) (hp : Jp m s) (t : Int) : Calls Tryz.prog 80 #[.pointer (some ⟨rb, 0, none⟩), .int .i64 t] w (VB (.tuple #[.int .i64 (secN s t), .int .i64 (asked s t)]) w) := by
  have HC : Hid (∃ y : Int, ∀ (w1 : World) (B B1 : Nat), Below w.heap.size w w1 → w1.heap[B]? = some (.cells #[.func (.func 180) #[] #[.pointer (some ⟨B1, 0, none⟩)]] 171 (0, 0)) → w1.heap[B1]? = some (.cells #[.func (.func 140) #[] #[]] 173 (0, 0)) →
      Calls Tryz.prog 179 #[.pointer (some ⟨rb, 0, none⟩), .int .i64 t, .pointer (some ⟨B, 0, none⟩)] w1 (VB (.tuple #[.agg #[.int .i64 (secN s t), .int .i64 y], .int .i64 (asked s t)]) w1)) := by
    by_cases ha : asked s t = 0
    · refine ⟨(s.j t).k, fun w1 B B1 hb hB h1 => ?_⟩
      have hx : secN s t = (s.j t).c := if_pos ha
      rw [hx, ha]
      obtain ⟨i, rfl, hin, hpi, hjp, hsj⟩ := asked_p hp ha
      rw [hsj]
      exact yes_pi (h.below hb) hp hin hpi ha hB fun w2 hb2 => both1_in ((hb2.block _ (lt_of_block h1)).trans h1) fun w3 hb3 => pj_into ((((h.below hb).below hb2).below hb3).jb i hin hpi)
    · refine ⟨0, fun w1 B B1 hb hB h1 => ?_⟩
      have hx : secN s t = 0 := if_neg ha
      rw [hx]
      exact no_pi (h.below hb) hp ha
  obtain ⟨y, HC⟩ := HC.out
  have HC := Lib.hid HC
  generalize secN s t = c at *
  generalize asked s t = a at *
  clear h hp
  go_enter Tryz.func80, Tryz.ntmps80
  go_wp2_with fail
  refine (both_pi _ _).mono ?_
  rintro e w1 ⟨B1, rfl, h1, hb1⟩
  have H1 := Lib.hid h1
  have HB1 := Lib.hid hb1
  clear h1 hb1
  go_wp2_with fail
  refine (asks_pi _ _ _).mono ?_
  rintro e w2 ⟨B, rfl, hB, hb2⟩
  have HD := Lib.hid (HC.out w2 B B1 (chn HB1.out hb2) hB ((hb2.block _ (lt_of_block H1.out)).trans H1.out))
  have HB2 := Lib.hid (chn HB1.out hb2)
  clear hB hb2 HC H1 HB1
  go_wp2_with fail
  refine HD.out.mono ?_
  rintro e w3 ⟨rfl, hb3⟩
  have HB3 := Lib.hid ((chn HB2.out hb3).alloc (chn HB2.out hb3).size (.cells #[.int .i64 c, .int .i64 y] 167))
  clear hb3 HD HB2
  go_wp2_with fail
  go_ret2
  exact ⟨rfl, HB3.out⟩
theorem shared_any (x : Int) (w : World) : Calls Tryz.prog 81 #[.int .i64 x] w (IsB (decide (x = 2 ∨ x = 3)) w) := by
  by_cases h : x = 2
  · subst h
    go_enter Tryz.func81, Tryz.ntmps81
    go_wp2_with fail
    go_ret
    exact ⟨rfl, rfl⟩
  · have h2 : (x == 2) = false := by simpa using h
    by_cases h3 : x = 3
    · subst h3
      go_enter Tryz.func81, Tryz.ntmps81
      go_wp2_with fail
      go_ret
      exact ⟨rfl, rfl⟩
    · have h4 : (x == 3) = false := by simpa using h3
      rw [show decide (x = 2 ∨ x = 3) = false by simp; omega]
      clear h h3
      go_enter Tryz.func81, Tryz.ntmps81
      go_wp2_with fail
      go_ret
      exact ⟨rfl, rfl⟩
theorem sec_sole {s : Rm} (hi : Rinv s) (k : Nat) (hk : k < s.n) : sole s (k + 1) = match sole s k with | some i => some i | none => if (secN s k = 2 ∨ secN s k = 3) then some k else none := by
  rw [show sole s (k + 1) = match sole s k with | some i => some i | none => if 0 ≤ s.dl k ∧ 2 ≤ (s.J k).c then some k else none from rfl]
  cases sole s k with
  | some i => rfl
  | none =>
    simp only
    have ha : asked s k = if s.dl k < 0 then 250 else 0 := by unfold asked; rw [if_neg (by omega)]
    by_cases hd : s.dl k < 0
    · rw [if_pos hd] at ha
      have e : secN s k = 0 := if_neg (by rw [ha]; decide)
      rw [if_neg (by omega), if_neg (by rw [e]; decide)]
    · rw [if_neg hd] at ha
      have e : secN s k = (s.J k).c := if_pos ha
      have c3 := ((hi.jt k hk (by omega)).2.2).c3
      rw [e]
      by_cases hc : 2 ≤ (s.J k).c
      · rw [if_pos ⟨by omega, hc⟩, if_pos (by omega)]
      · rw [if_neg (by omega), if_neg (by omega)]
theorem sec_out {s : Rm} (k : Nat) (hk : s.n ≤ k) : secN s k = 0 := if_neg (by unfold asked; rw [if_pos (by omega)]; decide)
theorem sole_at {s : Rm} {k i : Nat} (h : sole s k = some i) : ∀ {n : Nat}, k ≤ n → sole s n = some i
  | n, hn => by
    induction n with
    | zero => obtain rfl : k = 0 := by omega
              exact h
    | succ n ih =>
      by_cases e : k = n + 1
      · subst e; exact h
      · unfold sole; rw [ih (by omega)]
theorem sole_dl {s : Rm} {k i : Nat} (h : sole s k = some i) : 0 ≤ s.dl i ∧ 2 ≤ (s.J i).c ∧ i < k := by
  induction k with
  | zero => cases h
  | succ k ih =>
    unfold sole at h
    split at h
    · rename_i j hj
      injection h with h
      subst h
      have := ih hj
      exact ⟨this.1, this.2.1, by omega⟩
    · split at h
      · rename_i q
        injection h with h
        subst h
        exact ⟨q.1, q.2, by omega⟩
      · cases h
set_option maxHeartbeats 1000000 in
theorem sole_any (h : PRM m w rb s) (hp : Jp m s) (hi : Rinv s) : Calls Tryz.prog 30 #[.pointer (some ⟨rb, 0, none⟩)] w (VB (soleV s) w) := by
  have HP := Lib.hid h
  have HI := Lib.hid hi
  have HJ := Lib.hid hp
  have hn4 := hi.n4
  clear h hi hp
  go_enter Tryz.func30, Tryz.ntmps30
  go_wp2_with fail
  go_loopw [8] (fun i wr => ∃ k : Nat, k ≤ 4 ∧ i = .int .i64 k ∧ Hid (sole s (min k s.n) = none) ∧ Hid (Below w.heap.size w wr)) (fun i _ => 4 - (intOf i).toNat)
  case atStart => exact ⟨0, by omega, rfl, by show sole s (min 0 s.n) = none; rw [Nat.zero_min]; rfl, Below.refl _ _⟩
  case round =>
    obtain ⟨k, hk, rfl, HO, HB⟩ := hrel
    have HC := Lib.hid (sec_any (HP.out.below HB.out) HJ.out k)
    by_cases hlt : k < 4
    · by_cases hx : secN s k = 2 ∨ secN s k = 3
      · have hkn : k < s.n := by
          rcases Nat.lt_or_ge k s.n with y | y
          · exact y
          · have := sec_out k y; omega
        have HV : Hid (soleV s = .tuple #[.int .i64 k, .int .i64 (secN s k), .bool true]) := by
          have e1 := sec_sole HI.out k hkn
          rw [show min k s.n = k by omega] at HO
          rw [HO.out] at e1
          simp only at e1
          rw [if_pos hx] at e1
          have e2 := sole_dl e1
          have e3 : secN s k = (s.J k).c := if_pos (by unfold asked; rw [if_neg (by omega), if_neg (by omega)])
          show soleV s = _
          unfold soleV
          rw [sole_at e1 (by omega), e3]
        have hd : decide (secN s k = 2 ∨ secN s k = 3) = true := by simpa using hx
        have HS := Lib.hid (fun W => shared_any (secN s k) W)
        rw [hd] at HS
        rw [HV.out]
        generalize secN s k = c at *
        clear hx hd HO HV
        go_wp2_with fail
        refine HC.out.mono ?_
        rintro e w1 ⟨rfl, hb1⟩
        have HB1 := Lib.hid (HB.out.trans (hb1.mono HB.out.size))
        clear hb1 HC
        go_wp2_with fail
        refine (HS.out _).mono ?_
        rintro e w2 ⟨rfl, rfl⟩
        go_wp2_with fail
        go_ret3
        exact ⟨rfl, HB1.out⟩
      · have HN : Hid (sole s (min (k + 1) s.n) = none) := by
          show sole s (min (k + 1) s.n) = none
          rcases Nat.lt_or_ge k s.n with y | y
          · have e1 := sec_sole HI.out k y
            rw [show min k s.n = k by omega] at HO
            rw [HO.out] at e1
            simp only at e1
            rw [if_neg hx] at e1
            rw [show min (k + 1) s.n = k + 1 by omega]
            exact e1
          · rw [show min (k + 1) s.n = min k s.n by omega]
            exact HO.out
        have hd : decide (secN s k = 2 ∨ secN s k = 3) = false := by simpa using hx
        have HS := Lib.hid (fun W => shared_any (secN s k) W)
        rw [hd] at HS
        generalize secN s k = c at *
        generalize asked s k = a at *
        clear hx hd HO
        go_wp2_with fail
        refine HC.out.mono ?_
        rintro e w1 ⟨rfl, hb1⟩
        have HB1 := Lib.hid (HB.out.trans (hb1.mono HB.out.size))
        clear hb1 HC
        go_wp2_with fail
        refine (HS.out _).mono ?_
        rintro e w2 ⟨rfl, rfl⟩
        go_wp2_with fail
        go_roundw
        case rel => exact ⟨k + 1, by omega, by go_num, HN.out, HB1.out⟩
        case measure => simp [intOf]; omega
    · have HV : Hid (soleV s = .tuple #[.int .i64 0, .int .i64 0, .bool false]) := by
        show soleV s = _
        unfold soleV
        rw [show min k s.n = s.n by omega] at HO
        rw [HO.out]
      obtain rfl : k = 4 := by omega
      clear HO HC
      go_wp2_with fail
      go_ret3
      exact ⟨by rw [HV.out]; rfl, HB.out⟩
theorem hsm {w w1 w2 : World} {rb sb n cap : Nat} {a : Option Addr} (c0 : w.cell? ⟨rb, 0, none⟩ = some (.pointer (some ⟨sb, 0, none⟩))) (c2 : w.cell? ⟨rb, 0 + 2, none⟩ = some (.slice a n cap)) (h : Below w.heap.size w w1) (k : Below w1.heap.size w1 w2) :
    w2.cell? ⟨rb, 0, none⟩ = some (.pointer (some ⟨sb, 0, none⟩)) ∧ w2.cell? ⟨rb, 0 + 2, none⟩ = some (.slice a n cap) ∧ Below w.heap.size w w2 := by
  have h2 := chn h k
  exact ⟨(h2.cell (lt_of_cell c0)).trans c0, (h2.cell (lt_of_cell c2)).trans c2, h2⟩
theorem below_drewN {B : Nat} {a b : World} (h : Below B a b) (k : Nat) : Below B a (b.drewN k) := ⟨h.os, h.tape, h.output, h.size, h.block⟩
theorem cls_cl (c : Int → Int) (E : List St.Sk.En) : ∀ k, k ≤ E.length → St.cls c E k = cl c (E.take k)
  | 0, _ => rfl
  | k + 1, h => by
    unfold St.cls
    rw [cls_cl c E k (by omega), cl_take c E k (by omega)]
def mayB (s : Rm) (t : Int) : Bool := decide ((s.j t).b = true ∨ cl (env s.n s.z).c s.E < (env s.n s.z).lev t)
set_option maxHeartbeats 2000000 in
theorem may_any (h : PRM m w rb s) (hp : Jp m s) (hi : Rinv s) {t : Int} (ha : asked s t = 0) : Calls Tryz.prog 75 #[.pointer (some ⟨rb, 0, none⟩), .int .i64 t] w (VB (.bool (mayB s t)) w) := by
  obtain ⟨i, rfl, hin, hpi, hjp, hsj⟩ := asked_p hp ha
  have HC : Hid (∀ (w1 : World) (B : Nat), Below w.heap.size w w1 → w1.heap[B]? = some (.cells #[.func (.func 129) #[] #[]] 158 (0, 0)) → Calls Tryz.prog 173 #[.pointer (some ⟨rb, 0, none⟩), .int .i64 i, .pointer (some ⟨B, 0, none⟩)] w1 (VB (.tuple #[.bool (s.j i).b, .int .i64 0]) w1)) := fun w1 B hb hB =>
    yes_begun (h.below hb) hp hin hpi ha hB fun w2 hb2 => by rw [hsj]; exact pj_begun (((h.below hb).below hb2).jb i hin hpi)
  have hl : s.E.length ≤ 900 := by have := hi.ok.len; omega
  have HL : Hid (∀ w1 : World, Below w.heap.size w w1 → Calls Tryz.prog 130 #[m.tv, .int .i64 i] w1 (St.YI ((env s.n s.z).lev i) w1)) := fun w1 hb => St.level_any (h.tk.below hb) (by have := hi.n4; omega) i
  have HK : Hid (∀ w1 : World, Below w.heap.size w w1 → Calls Tryz.prog 131 #[.pointer (some ⟨m.sb, 0, none⟩)] w1 (St.YI (cl (env s.n s.z).c s.E) w1)) := fun w1 hb => by
    have e := cls_cl (env s.n s.z).c s.E s.E.length (Nat.le_refl _)
    rw [List.take_length] at e
    rw [← e]
    exact St.cls_any (h.so.below hb) (by omega) (by have := hi.n4; omega)
  obtain ⟨c0, c1, c2, c3, c4⟩ := h.cells
  have hv : mayB s i = ((s.j i).b || decide (cl (env s.n s.z).c s.E < (env s.n s.z).lev i)) := by unfold mayB; simp [Bool.decide_or]
  rw [hv]
  obtain ⟨a, cap, htv, _, _⟩ := h.tk.slice
  rw [htv] at c2 HL
  generalize cl (env s.n s.z).c s.E = x at *
  generalize (env s.n s.z).lev i = y at *
  generalize m.sb = sb at *
  generalize s.n = n at *
  clear h hp hi ha hin hpi hjp hsj hl hv c1 c3 c4 htv
  cases hb : (s.j i).b with
  | true =>
    rw [hb] at HC
    clear hb
    go_enter Tryz.func75, Tryz.ntmps75
    go_wp2_with fail
    refine (asks_bool _ _ _).mono ?_
    rintro e w2 ⟨B, rfl, hB, hb2⟩
    have HD := Lib.hid (HC.out w2 B hb2 hB)
    have HB2 := Lib.hid hb2
    clear hB hb2 HC
    go_wp2_with fail
    refine HD.out.mono ?_
    rintro e w3 ⟨rfl, hb3⟩
    have HB3 := Lib.hid (chn HB2.out hb3)
    have d0 := (HB3.out.cell (lt_of_cell c0)).trans c0
    have d2 := (HB3.out.cell (lt_of_cell c2)).trans c2
    clear hb3 HD c0 c2
    go_wp2_with fail
    go_quiet (fail)
    go_wp2_with fail
    go_ret
    exact ⟨rfl, below_drewN HB3.out _⟩
  | false =>
    rw [hb] at HC
    clear hb
    go_enter Tryz.func75, Tryz.ntmps75
    go_wp2_with fail
    refine (asks_bool _ _ _).mono ?_
    rintro e w2 ⟨B, rfl, hB, hb2⟩
    have HD := Lib.hid (HC.out w2 B hb2 hB)
    have HB2 := Lib.hid hb2
    clear hB hb2 HC
    go_wp2_with fail
    refine HD.out.mono ?_
    rintro e w3 ⟨rfl, hb3⟩
    have HB3 := Lib.hid (chn HB2.out hb3)
    have d0 := (HB3.out.cell (lt_of_cell c0)).trans c0
    have d2 := (HB3.out.cell (lt_of_cell c2)).trans c2
    clear hb3 HD HB2
    go_wp2_with fail
    have HS0 := Lib.hid (And.intro d0 (And.intro d2 HB3.out))
    go_region_held3 (fun w' => w'.cell? ⟨rb, 0, none⟩ = some (.pointer (some ⟨sb, 0, none⟩)) ∧ w'.cell? ⟨rb, 0 + 2, none⟩ = some (.slice a n cap) ∧ Below w.heap.size w w')
      (first | assumption | exact HS0.out | exact ⟨HS0.out.1, HS0.out.2.1, below_drew HS0.out.2.2⟩ | go_keep)
      (first | (go_at_call 130; refine (HL.out _ (by first | (have := HS0.out.2.2; exact below_drew this) | exact hS5.2.2)).mono ?_; rintro e w4 ⟨rfl, hb4⟩; have hS4 := hsm c0 c2 (by first | (have := HS0.out.2.2; exact below_drew this) | exact hS5.2.2) hb4; clear hb4)
             | (go_at_call 131; refine (HK.out _ (by first | (have := HS0.out.2.2; exact below_drew this) | exact hS4.2.2)).mono ?_; rintro e w5 ⟨rfl, hb5⟩; have hS5 := hsm c0 c2 (by first | (have := HS0.out.2.2; exact below_drew this) | exact hS4.2.2) hb5; clear hb5))
    all_goals
      go_wp2_with fail
      go_ret
      first | exact ⟨rfl, hS5.2.2⟩ | exact ⟨rfl, hS4.2.2⟩
theorem ear_any (h : PRM m w rb s) (hp : Jp m s) (hi : Rinv s) (t : Int) : Calls Tryz.prog 29 #[.pointer (some ⟨rb, 0, none⟩), .int .i64 t] w (VB (.int .i64 (earV s t)) w) := by
  have HL := Lib.hid (lt_any h t)
  by_cases ht : t < 0 ∨ (s.n : Int) ≤ t
  · have e1 : lackE s t = 9 := if_pos ht
    have e2 : earV s t = 0 := if_pos ht
    rw [e1] at HL
    rw [e2]
    clear h hp hi ht e1 e2
    go_enter Tryz.func29, Tryz.ntmps29
    go_wp2_with fail
    refine HL.out.mono ?_
    rintro e w1 ⟨rfl, rfl⟩
    go_wp2_with fail
    go_ret
    exact ⟨rfl, Below.refl _ _⟩
  · have e1 : lackE s t = 0 := if_neg ht
    obtain ⟨i, rfl⟩ : ∃ i : Nat, t = i := ⟨t.toNat, by omega⟩
    have hin : i < s.n := by omega
    have e2 : earV s i = s.G i := if_neg ht
    have HG := Lib.hid (Sg.next_any (h.gd i hin) (hi.g0 i hin))
    obtain ⟨c0, c1, c2, c3, c4⟩ := h.cells
    obtain ⟨cap, hg⟩ := h.gf (by omega)
    have cg := h.gs i hin
    rw [hg] at c3
    rw [e1] at HL
    rw [e2]
    generalize s.G i = x at *
    generalize m.gb = gb at *
    generalize m.ga i = ga at *
    generalize s.n = n at *
    clear h hp hi ht e1 e2 c0 c1 c2 c4 hg
    go_enter Tryz.func29, Tryz.ntmps29
    go_wp2_with fail
    refine HL.out.mono ?_
    rintro e w1 ⟨rfl, rfl⟩
    go_wp2_with fail
    refine HG.out.mono ?_
    rintro e w2 ⟨rfl, rfl⟩
    go_wp2_with fail
    go_ret
    exact ⟨rfl, Below.refl _ _⟩
theorem held_any (h : PRM m w rb s) (hp : Jp m s) (hi : Rinv s) (t : Int) : Calls Tryz.prog 18 #[.pointer (some ⟨rb, 0, none⟩), .int .i64 t] w (NumP w (heldV s t)) := by
  have HJ := Lib.hid (lj_any h hp t)
  by_cases ha : asked s t = 0
  · have e2 : heldV s t = St.Sk.held s.E t := if_pos ha
    have hl : s.E.length ≤ 900 := by have := hi.ok.len; omega
    have HH := Lib.hid (St.held_any h.so (by omega) t)
    obtain ⟨c0, c1, c2, c3, c4⟩ := h.cells
    rw [e2]
    rw [ha] at HJ
    generalize St.Sk.held s.E t = xs at *
    clear h hp hi ha e2 hl c1 c2 c3 c4
    go_enter Tryz.func18, Tryz.ntmps18
    go_wp2_with fail
    refine HJ.out.mono ?_
    rintro e w1 ⟨rfl, rfl⟩
    go_wp2_with fail
    refine HH.out.mono ?_
    rintro e w2 ⟨r, rfl, hr, hb⟩
    have HR := Lib.hid hr
    have HB := Lib.hid hb
    clear hr hb
    go_wp2_with fail
    go_ret
    exact ⟨_, rfl, HR.out, HB.out⟩
  · have e2 : heldV s t = [] := if_neg ha
    have hx : (asked s t != 0) = true := by simpa using ha
    rw [e2]
    generalize asked s t = y at *
    clear h hp hi ha e2
    go_enter Tryz.func18, Tryz.ntmps18
    go_wp2_with fail
    refine HJ.out.mono ?_
    rintro e w1 ⟨rfl, rfl⟩
    go_wp2_with fail
    go_ret
    exact ⟨_, rfl, St.NR.nil _ _, Below.refl _ _⟩
theorem jobs_any (h : PRM m w rb s) (hi : Rinv s) : Calls Tryz.prog 34 #[.pointer (some ⟨rb, 0, none⟩)] w (NumP w (jobsV s)) := by
  have HN := Lib.hid (none_no h)
  have HH := Lib.hid (Rq.qjobs_any h.qs)
  obtain ⟨c0, c1, c2, c3, c4⟩ := h.cells
  clear h hi c0 c2 c3 c4
  go_enter Tryz.func34, Tryz.ntmps34
  go_wp2_with fail
  refine HN.out.mono ?_
  rintro e w1 ⟨rfl, rfl⟩
  go_wp2_with fail
  refine HH.out.mono ?_
  rintro e w2 ⟨r, rfl, hr, hb⟩
  have HR : Hid (St.NR w2 w.heap.size (.slice (some ⟨r, 0, none⟩) (Rq.Rd.srt s.L).length (Rq.Rd.srt s.L).length) (jobsV s)) := hr
  have HB := Lib.hid hb
  clear hr hb
  generalize (Rq.Rd.srt s.L).length = k at *
  go_wp2_with fail
  go_ret
  exact ⟨_, rfl, HR.out, HB.out⟩
theorem top_who {E : List St.Sk.En} : (match E.getLast? with | some e => some e.1 | none => none : Option Int) = if St.topB E = true then some (St.topT E) else none := by
  cases E with
  | nil => rfl
  | cons x l =>
    rw [List.getLast?_eq_getElem?]
    have h1 : (x :: l).length - 1 < (x :: l).length := by simp
    rw [List.getElem?_eq_getElem h1]
    unfold St.topB St.topT
    rw [if_pos (by simp), if_neg (by simp), List.getD_eq_getElem?_getD, List.getElem?_eq_getElem h1]
    rfl
theorem top_zero {E : List St.Sk.En} (h : St.topB E = false) : St.topT E = 0 := by
  unfold St.topB at h
  unfold St.topT
  rw [if_pos (by simpa using h)]
set_option maxHeartbeats 2000000 in
theorem who_any (h : PRM m w rb s) (hp : Jp m s) (hi : Rinv s) : Calls Tryz.prog 19 #[.pointer (some ⟨rb, 0, none⟩)] w (VB (whoV s) w) := by
  have HN := Lib.hid (none_no h)
  have HS := Lib.hid (sole_any h hp hi)
  obtain ⟨c0, c1, c2, c3, c4⟩ := h.cells
  clear c2 c3 c4
  cases hso : sole s s.n with
  | some i =>
    have e1 : soleV s = .tuple #[.int .i64 i, .int .i64 (s.J i).c, .bool true] := by unfold soleV; rw [hso]
    have e2 : whoV s = .tuple #[.int .i64 i, .bool true] := by unfold whoV who; rw [hso]
    rw [e1] at HS
    rw [e2]
    generalize (s.J i).c = c at *
    clear h hp hi e1 e2 hso c0 c1
    go_enter Tryz.func19, Tryz.ntmps19
    go_wp2_with fail
    refine HN.out.mono ?_
    rintro e w1 ⟨rfl, rfl⟩
    go_wp2_with fail
    refine HS.out.mono ?_
    rintro e w2 ⟨rfl, hb⟩
    have HB := Lib.hid hb
    clear hb HS
    go_wp2_with fail
    go_ret2
    exact ⟨rfl, HB.out⟩
  | none =>
    have e1 : soleV s = .tuple #[.int .i64 0, .int .i64 0, .bool false] := by unfold soleV; rw [hso]
    rw [e1] at HS
    have HF : Hid (∀ w1 : World, Below w.heap.size w w1 → Calls Tryz.prog 74 #[.pointer (some ⟨m.qb, 0, none⟩)] w1 (Rq.Fst (Rq.Rd.fs s.L).1 (Rq.Rd.fs s.L).2 (decide (0 < (Rq.Rd.srt s.L).length)) w1)) := fun w1 hb => Rq.qfirst_any (h.below hb).qs
    by_cases hl : (Rq.Rd.srt s.L).length = 0
    · have e2 : whoV s = .tuple #[.int .i64 0, .bool false] := by unfold whoV who; rw [hso]; simp only; rw [if_pos hl]
      rw [show decide (0 < (Rq.Rd.srt s.L).length) = false by simp [hl], Rq.Rd.fs_none hl] at HF
      rw [e2]
      generalize m.qb = qb at *
      clear h hp hi e1 e2 hso c0 hl
      go_enter Tryz.func19, Tryz.ntmps19
      go_wp2_with fail
      refine HN.out.mono ?_
      rintro e w1 ⟨rfl, rfl⟩
      go_wp2_with fail
      refine HS.out.mono ?_
      rintro e w2 ⟨rfl, hb⟩
      have d1 := (hb.cell (lt_of_cell c1)).trans c1
      have HB := Lib.hid hb
      clear hb HS c1
      go_wp2_with fail
      refine (HF.out _ HB.out).mono ?_
      rintro e w3 ⟨rfl, hb⟩
      have HB3 := Lib.hid (chn HB.out hb)
      clear hb HF
      go_wp2_with fail
      go_ret2
      exact ⟨rfl, HB3.out⟩
    · obtain ⟨f1, f2, f3⟩ := fs_fst hi (by omega)
      have ha : asked s (Rq.Rd.fs s.L).1 = 0 := (asked_job hi f1.job).1
      have HM : Hid (∀ w1 : World, Below w.heap.size w w1 → Calls Tryz.prog 75 #[.pointer (some ⟨rb, 0, none⟩), .int .i64 (Rq.Rd.fs s.L).1] w1 (VB (.bool (mayB s (Rq.Rd.fs s.L).1)) w1)) := fun w1 hb => may_any (h.below hb) hp hi ha
      have hlen : s.E.length ≤ 900 := by have := hi.ok.len; omega
      have HT : Hid (∀ w1 : World, Below w.heap.size w w1 → Calls Tryz.prog 76 #[.pointer (some ⟨m.sb, 0, none⟩)] w1 (St.TopP (St.topT s.E) (St.topB s.E) w1)) := fun w1 hb => St.top_any (h.below hb).so (by omega)
      have e3 : who s = if mayB s (Rq.Rd.fs s.L).1 = true then some (Rq.Rd.fs s.L).1 else if St.topB s.E = true then some (St.topT s.E) else none := by
        unfold who
        rw [hso]
        simp only
        rw [if_neg hl, ← top_who]
        unfold mayB
        by_cases q : (s.j (Rq.Rd.fs s.L).1).b = true ∨ cl (env s.n s.z).c s.E < (env s.n s.z).lev (Rq.Rd.fs s.L).1
        · rw [if_pos q, if_pos (by simpa using q)]
        · rw [if_neg q, if_neg (by simpa using q)]
          cases s.E.getLast? <;> rfl
      have e4 : whoV s = if mayB s (Rq.Rd.fs s.L).1 = true then .tuple #[.int .i64 (Rq.Rd.fs s.L).1, .bool true] else .tuple #[.int .i64 (St.topT s.E), .bool (St.topB s.E)] := by
        unfold whoV
        rw [e3]
        by_cases q : mayB s (Rq.Rd.fs s.L).1 = true
        · rw [if_pos q, if_pos q]
        · rw [if_neg q, if_neg q]
          cases hb : St.topB s.E with
          | true => rfl
          | false => rw [top_zero hb]; rfl
      rw [show decide (0 < (Rq.Rd.srt s.L).length) = true by simp; omega] at HF
      rw [e4]
      generalize (Rq.Rd.fs s.L).1 = x at *
      generalize (Rq.Rd.fs s.L).2 = x2 at *
      generalize St.topT s.E = y at *
      generalize St.topB s.E = yb at *
      generalize m.qb = qb at *
      generalize m.sb = sb at *
      cases hm : mayB s x with
      | true =>
        rw [hm] at HM
        rw [if_pos rfl]
        clear h hp hi e1 e3 e4 hso c0 hl f1 f2 f3 ha hlen hm HT
        go_enter Tryz.func19, Tryz.ntmps19
        go_wp2_with fail
        refine HN.out.mono ?_
        rintro e w1 ⟨rfl, rfl⟩
        go_wp2_with fail
        refine HS.out.mono ?_
        rintro e w2 ⟨rfl, hb⟩
        have d1 := (hb.cell (lt_of_cell c1)).trans c1
        have HB := Lib.hid hb
        clear hb HS c1
        go_wp2_with fail
        refine (HF.out _ HB.out).mono ?_
        rintro e w3 ⟨rfl, hb⟩
        have HB3 := Lib.hid (chn HB.out hb)
        clear hb HF HB
        go_wp2_with fail
        refine (HM.out _ HB3.out).mono ?_
        rintro e w4 ⟨rfl, hb⟩
        have HB4 := Lib.hid (chn HB3.out hb)
        clear hb HM HB3
        go_wp2_with fail
        go_ret2
        exact ⟨rfl, HB4.out⟩
      | false =>
        rw [hm] at HM
        rw [if_neg (by decide)]
        clear h hp hi e1 e3 e4 hso hl f1 f2 f3 ha hlen hm
        go_enter Tryz.func19, Tryz.ntmps19
        go_wp2_with fail
        refine HN.out.mono ?_
        rintro e w1 ⟨rfl, rfl⟩
        go_wp2_with fail
        refine HS.out.mono ?_
        rintro e w2 ⟨rfl, hb⟩
        have d1 := (hb.cell (lt_of_cell c1)).trans c1
        have HB := Lib.hid hb
        clear hb HS c1
        go_wp2_with fail
        refine (HF.out _ HB.out).mono ?_
        rintro e w3 ⟨rfl, hb⟩
        have HB3 := Lib.hid (chn HB.out hb)
        clear hb HF HB d1
        go_wp2_with fail
        refine (HM.out _ HB3.out).mono ?_
        rintro e w4 ⟨rfl, hb⟩
        have HB4 := Lib.hid (chn HB3.out hb)
        have d0 := (HB4.out.cell (lt_of_cell c0)).trans c0
        clear hb HM HB3 c0
        go_wp2_with fail
        refine (HT.out _ HB4.out).mono ?_
        rintro e w5 ⟨rfl, hb⟩
        have HB5 := Lib.hid (chn HB4.out hb)
        clear hb HT HB4
        go_wp2_with fail
        go_ret2
        exact ⟨rfl, HB5.out⟩
end
end Go.Proofs.YtkkmfpllgjoceaaGreat.Ro
