/- Whether a task may be asked: the document's answer, of one task; the document's New. -/
import Derived.Test.YtkkmfpllgjoceaaGreatJobF
import Derived.Test.YtkkmfpllgjoceaaGreatZj
namespace Go.Proofs.YtkkmfpllgjoceaaGreat
open Go.RowKit Ac Jo
set_option linter.unusedVariables false
set_option maxRecDepth 100000

theorem rtask_any (t : Nat → Int) (w : World) : Calls Tryz.prog 101 #[tv t] w (YB (tok t) w) := by
  have HT := Lib.hid (tok_six t)
  generalize tok t = R at *
  have HB := Lib.hid (below_al w (.cells (tcs t) 55))
  unfold tcs at HB
  unfold tv
  generalize t 0 = t0 at *
  generalize t 1 = t1 at *
  generalize t 2 = t2 at *
  generalize t 3 = t3 at *
  generalize t 4 = t4 at *
  generalize t 5 = t5 at *
  generalize t 6 = t6 at *
  generalize t 7 = t7 at *
  cases h0 : decide (1 ≤ t0) with
  | false =>
    rw [h0] at HT
    go_enter Tryz.func101, Tryz.ntmps101
    go_wp2
    go_ret
    exact ⟨by rw [HT.out]; rfl, HB.out⟩
  | true =>
    rw [h0] at HT
    cases h1 : decide (t0 ≤ 64) with
    | false =>
      rw [h1] at HT
      go_enter Tryz.func101, Tryz.ntmps101
      go_wp2
      go_ret
      exact ⟨by rw [HT.out]; rfl, HB.out⟩
    | true =>
      rw [h1] at HT
      cases h2 : decide (1 ≤ t1) with
      | false =>
        rw [h2] at HT
        go_enter Tryz.func101, Tryz.ntmps101
        go_wp2
        go_ret
        exact ⟨by rw [HT.out]; rfl, HB.out⟩
      | true =>
        rw [h2] at HT
        cases h3 : decide (t1 ≤ t0) with
        | false =>
          rw [h3] at HT
          go_enter Tryz.func101, Tryz.ntmps101
          go_wp2
          go_ret
          exact ⟨by rw [HT.out]; rfl, HB.out⟩
        | true =>
          rw [h3] at HT
          cases h4 : decide (1 ≤ t2) with
          | false =>
            rw [h4] at HT
            go_enter Tryz.func101, Tryz.ntmps101
            go_wp2
            go_ret
            exact ⟨by rw [HT.out]; rfl, HB.out⟩
          | true =>
            rw [h4] at HT
            go_enter Tryz.func101, Tryz.ntmps101
            go_wp2
            go_ret
            exact ⟨by rw [HT.out]; rfl, HB.out⟩
set_option maxHeartbeats 1000000 in
theorem rtasks_one {w : World} {g : Nat} {t : Nat → Int} (h : TB1 w g t) {R : Bool} (hR : tok t = R) : Calls Tryz.prog 40 #[.slice (some ⟨g, 0, none⟩) 1 1] w (YB R w) := by
  have HC : Hid (∀ W, Calls Tryz.prog 101 #[tv t] W (YB R W)) := fun W => by have q := rtask_any t W; rw [hR] at q; exact q
  have c0 : w.cell? ⟨g, 0, none⟩ = some (.int .i64 (t 0)) := cell_of_row _ _ 0 _ _ _ h
  have c1 : w.cell? ⟨g, 0 + 1, none⟩ = some (.int .i64 (t 1)) := cell_of_row _ _ 1 _ _ _ h
  have c2 : w.cell? ⟨g, 0 + 2, none⟩ = some (.int .i64 (t 2)) := cell_of_row _ _ 2 _ _ _ h
  have c3 : w.cell? ⟨g, 0 + 3, none⟩ = some (.int .i64 (t 3)) := cell_of_row _ _ 3 _ _ _ h
  have c4 : w.cell? ⟨g, 0 + 4, none⟩ = some (.int .i64 (t 4)) := cell_of_row _ _ 4 _ _ _ h
  have c5 : w.cell? ⟨g, 0 + 5, none⟩ = some (.int .i64 (t 5)) := cell_of_row _ _ 5 _ _ _ h
  have c6 : w.cell? ⟨g, 0 + 6, none⟩ = some (.int .i64 (t 6)) := cell_of_row _ _ 6 _ _ _ h
  have c7 : w.cell? ⟨g, 0 + 7, none⟩ = some (.int .i64 (t 7)) := cell_of_row _ _ 7 _ _ _ h
  clear h hR
  unfold tv at HC
  generalize t 0 = t0 at *
  generalize t 1 = t1 at *
  generalize t 2 = t2 at *
  generalize t 3 = t3 at *
  generalize t 4 = t4 at *
  generalize t 5 = t5 at *
  generalize t 6 = t6 at *
  generalize t 7 = t7 at *
  cases R with
  | false =>
    go_enter Tryz.func40, Tryz.ntmps40
    go_wp2_with fail
    refine wp_loop_rounds 2 ?_
    rw [rounds_succ]
    go_wp2_with fail
    refine (HC.out _).mono ?_
    rintro e w1 ⟨rfl, hb⟩
    have HB := Lib.hid hb
    clear hb
    go_wp2_with fail
    go_ret
    exact ⟨rfl, HB.out⟩
  | true =>
    go_enter Tryz.func40, Tryz.ntmps40
    go_wp2_with fail
    refine wp_loop_rounds 2 ?_
    rw [rounds_succ]
    go_wp2_with fail
    refine (HC.out _).mono ?_
    rintro e w1 ⟨rfl, hb⟩
    have HB := Lib.hid hb
    clear hb
    go_wp2_with fail
    rw [rounds_succ]
    go_wp2_with fail
    go_ret
    exact ⟨rfl, HB.out⟩
/-- a job is answered -/
def NewJ (T TR : TypeId) (cf : Jb → Nat → Array Value) (s : Jb) (w : World) (e : Ending) (w' : World) : Prop :=
  ∃ jb rb g, e = .returned (.tuple #[.pointer (some ⟨jb, 0, none⟩), .int .i64 0]) ∧ JW T TR cf w' jb rb g s ∧ w.heap.size ≤ jb ∧ w.heap.size ≤ rb ∧ w.heap.size ≤ g ∧ Below w.heap.size w w'
set_option maxHeartbeats 2000000 in
theorem rjnew_arg {w : World} {v : Value} {l : List Ak} (t : Nat → Int) (now : Int) (hv : AS w v l) (h : tok t = false ∨ (tok t = true ∧ now < 0)) : Calls Tryz.prog 103 #[tv t, v, .int .i64 now] w (NoP 2 w) := by
  obtain ⟨a, cap, rfl, h1, h2⟩ := hv.slice
  generalize l.length = m at *
  have hb0 := (below_al w (.cells (tcs t) 55)).alloc (by simp) (.cells (tcs t) 55)
  have HB := Lib.hid hb0
  have hT : TB1 ((w.alloc (.cells (tcs t) 55)).alloc (.cells (tcs t) 55)) (w.alloc (.cells (tcs t) 55)).heap.size t := heap_alloc_new _ _
  rw [World.size_alloc] at hT
  have HT := Lib.hid hT
  clear hb0 hT hv h1 h2
  unfold tcs at HB HT
  rcases h with h | ⟨h, hn⟩
  · have HC := Lib.hid (rtasks_one HT.out h)
    clear HT h
    unfold tv
    generalize t 0 = t0 at *
    generalize t 1 = t1 at *
    generalize t 2 = t2 at *
    generalize t 3 = t3 at *
    generalize t 4 = t4 at *
    generalize t 5 = t5 at *
    generalize t 6 = t6 at *
    generalize t 7 = t7 at *
    go_enter Tryz.func103, Tryz.ntmps103
    go_wp2_with fail
    refine HC.out.mono ?_
    rintro e w1 ⟨rfl, hb⟩
    have HB1 := Lib.hid (HB.out.trans (hb.mono HB.out.size))
    clear hb HC HB
    go_wp2_with fail
    go_ret2
    exact ⟨rfl, HB1.out⟩
  · have HC := Lib.hid (rtasks_one HT.out h)
    have hd : decide (now < 0) = true := by simpa using hn
    clear HT h
    unfold tv
    generalize t 0 = t0 at *
    generalize t 1 = t1 at *
    generalize t 2 = t2 at *
    generalize t 3 = t3 at *
    generalize t 4 = t4 at *
    generalize t 5 = t5 at *
    generalize t 6 = t6 at *
    generalize t 7 = t7 at *
    go_enter Tryz.func103, Tryz.ntmps103
    go_wp2_with fail
    refine HC.out.mono ?_
    rintro e w1 ⟨rfl, hb⟩
    have HB1 := Lib.hid (HB.out.trans (hb.mono HB.out.size))
    clear hb HC HB
    go_wp2_with fail
    go_ret2
    exact ⟨rfl, HB1.out⟩
/-- the row's answer: a row, or an error -/
def RowR (l : List Ak) (er : Int) : Prop := (er = 0 ∧ Gd l) ∨ (er ≠ 0 ∧ ∀ (W : World) (v : Value), AS W v l → Calls Tryz.prog 165 #[v] W (NoP er W))
set_option maxHeartbeats 4000000 in
theorem rjnew_ok {w : World} {v : Value} {l : List Ak} (t : Nat → Int) (now : Int) (hv : AS w v l) (h : tok t = true) (hn : 0 ≤ now) (ht : -9223372036854775808 ≤ t 1 ∧ t 1 ≤ 64) :
    (1099511627776 < now → Calls Tryz.prog 103 #[tv t, v, .int .i64 now] w (NoP 10 w)) ∧
    (now ≤ 1099511627776 → ∀ er, RowR l er → er ≠ 0 → Calls Tryz.prog 103 #[tv t, v, .int .i64 now] w (NoP er w)) ∧
    (now ≤ 1099511627776 → Gd l → Calls Tryz.prog 103 #[tv t, v, .int .i64 now] w (NewJ 96 211 dcl (fresh t (now + t 1) l) w)) := by
  obtain ⟨a, cap, rfl, h1, h2⟩ := hv.slice
  have hb0 := (below_al w (.cells (tcs t) 55)).alloc (by simp) (.cells (tcs t) 55)
  have HB := Lib.hid hb0
  have hT : TB1 ((w.alloc (.cells (tcs t) 55)).alloc (.cells (tcs t) 55)) (w.alloc (.cells (tcs t) 55)).heap.size t := heap_alloc_new _ _
  have hT0 : TB1 ((w.alloc (.cells (tcs t) 55)).alloc (.cells (tcs t) 55)) w.heap.size t := (Below.heap_alloc _ _ w.heap.size (by simp)).trans (heap_alloc_new w _)
  rw [World.size_alloc] at hT
  have HC := Lib.hid (rtasks_one hT h)
  have HT := Lib.hid hT0
  have HV := Lib.hid hv
  have hdn : decide (now < 0) = false := by simp; omega
  clear hb0 hT hT0 hv h1 h2 h
  unfold tcs at HB HC
  refine ⟨fun hm => ?_, fun hm er hr hne => ?_, fun hm hg => ?_⟩
  · have hd : decide (1099511627776 < now) = true := by simpa using hm
    generalize l.length = m at *
    clear HT
    unfold tv
    generalize t 0 = t0 at *
    generalize t 1 = t1 at *
    generalize t 2 = t2 at *
    generalize t 3 = t3 at *
    generalize t 4 = t4 at *
    generalize t 5 = t5 at *
    generalize t 6 = t6 at *
    generalize t 7 = t7 at *
    go_enter Tryz.func103, Tryz.ntmps103
    go_wp2_with fail
    refine HC.out.mono ?_
    rintro e w1 ⟨rfl, hb⟩
    have HB1 := Lib.hid (HB.out.trans (hb.mono HB.out.size))
    clear hb HC HB
    go_wp2_with fail
    go_ret2
    exact ⟨rfl, HB1.out⟩
  · have hd : decide (1099511627776 < now) = false := by simp; omega
    have hq : ∀ (W : World) (v : Value), AS W v l → Calls Tryz.prog 165 #[v] W (NoP er W) := by
      rcases hr with ⟨h0, _⟩ | ⟨_, q⟩
      · exact absurd h0 hne
      · exact q
    have HQ := Lib.hid hq
    have hz : (er == 0) = false := by simpa using hne
    have hz2 : (er != 0) = true := by simpa using hne
    clear HT hr hne hq
    generalize hm2 : l.length = m at *
    clear hm2
    unfold tv
    generalize t 0 = t0 at *
    generalize t 1 = t1 at *
    generalize t 2 = t2 at *
    generalize t 3 = t3 at *
    generalize t 4 = t4 at *
    generalize t 5 = t5 at *
    generalize t 6 = t6 at *
    generalize t 7 = t7 at *
    go_enter Tryz.func103, Tryz.ntmps103
    go_wp2_with fail
    refine HC.out.mono ?_
    rintro e w1 ⟨rfl, hb⟩
    have HB1 := Lib.hid (HB.out.trans (hb.mono HB.out.size))
    clear hb HC HB
    go_wp2_with fail
    refine (HQ.out _ _ (HV.out.below HB1.out)).mono ?_
    rintro e w2 ⟨rfl, hb⟩
    have HB2 := Lib.hid (HB1.out.trans (hb.mono HB1.out.size))
    clear hb HB1
    go_wp2_with fail
    go_ret2
    exact ⟨rfl, HB2.out⟩
  · have hd : decide (1099511627776 < now) = false := by simp; omega
    have HG := Lib.hid hg
    have HF : Hid (∀ (w2 w3 : World) (rb g : Nat), Below w.heap.size w w2 → DR w3 rb g l → w2.heap.size ≤ rb → w2.heap.size ≤ g → g < w3.heap.size → Below w2.heap.size w2 w3 →
        NewJ 96 211 dcl (fresh t (now + t 1) l) w (.returned (.tuple #[.pointer (some ⟨w3.heap.size, 0, none⟩), .int .i64 0]))
          (w3.alloc (.cells #[.int .i64 (t 0), .int .i64 (t 1), .int .i64 (t 2), .int .i64 (t 3), .int .i64 (t 4), .int .i64 (t 5), .int .i64 (t 6), .int .i64 (t 7), .pointer (some ⟨rb, 0, none⟩), .int .i64 (now + t 1), .int .i64 0, .int .i64 0, .int .i64 0, .int .i64 0, .bool false] 96))) :=
      fun w2 w3 rb g hb hdr h1 h2 h3 hb3 => by
        have hs := hb.size
        have hs3 := hb3.size
        have hlt := hdr.lt
        refine ⟨w3.heap.size, rb, g, rfl, ⟨heap_alloc_new w3 _, hdr.below (below_al w3 _), by simp; omega, by omega, by omega⟩, by omega, by omega, by omega, ((hb.trans (hb3.mono hs)).trans ((below_al w3 _).mono (by omega)))⟩
    have c0 := Lib.hid HT.out
    obtain ⟨ht0, ht1⟩ := ht
    generalize hm2 : l.length = m at *
    clear hm2 hg
    unfold tv
    have HCells : Hid (∀ W, Below ((w.alloc (.cells (tcs t) 55)).alloc (.cells (tcs t) 55)).heap.size ((w.alloc (.cells (tcs t) 55)).alloc (.cells (tcs t) 55)) W →
        W.cell? ⟨w.heap.size, 0, none⟩ = some (.int .i64 (t 0)) ∧ W.cell? ⟨w.heap.size, 0 + 1, none⟩ = some (.int .i64 (t 1)) ∧ W.cell? ⟨w.heap.size, 0 + 2, none⟩ = some (.int .i64 (t 2)) ∧ W.cell? ⟨w.heap.size, 0 + 3, none⟩ = some (.int .i64 (t 3)) ∧ W.cell? ⟨w.heap.size, 0 + 4, none⟩ = some (.int .i64 (t 4)) ∧ W.cell? ⟨w.heap.size, 0 + 5, none⟩ = some (.int .i64 (t 5)) ∧ W.cell? ⟨w.heap.size, 0 + 6, none⟩ = some (.int .i64 (t 6)) ∧ W.cell? ⟨w.heap.size, 0 + 7, none⟩ = some (.int .i64 (t 7))) := fun W hW => by
      have q := HT.out.below hW
      exact ⟨cell_of_row _ _ 0 _ _ _ q, cell_of_row _ _ 1 _ _ _ q, cell_of_row _ _ 2 _ _ _ q, cell_of_row _ _ 3 _ _ _ q, cell_of_row _ _ 4 _ _ _ q, cell_of_row _ _ 5 _ _ _ q, cell_of_row _ _ 6 _ _ _ q, cell_of_row _ _ 7 _ _ _ q⟩
    clear HT c0
    unfold tcs at HCells
    generalize t 0 = t0 at *
    generalize t 1 = t1 at *
    generalize t 2 = t2 at *
    generalize t 3 = t3 at *
    generalize t 4 = t4 at *
    generalize t 5 = t5 at *
    generalize t 6 = t6 at *
    generalize t 7 = t7 at *
    go_enter Tryz.func103, Tryz.ntmps103
    go_wp2_with fail
    refine HC.out.mono ?_
    rintro e w1 ⟨rfl, hb⟩
    have HB1 := Lib.hid (HB.out.trans (hb.mono HB.out.size))
    have HB0 := Lib.hid hb
    clear hb HC HB
    go_wp2_with fail
    refine (rnew_yes (HV.out.below HB1.out) HG.out).mono ?_
    rintro e w2 ⟨rb, g, rfl, hdr, h1, h2, h3, hb⟩
    obtain ⟨c0, c1, c2, c3, c4, c5, c6, c7⟩ := HCells.out w2 (chn HB0.out hb)
    have HE := Lib.hid (HF.out w1 w2 rb g HB1.out hdr h1 h2 h3 hb)
    clear hdr h1 h2 h3 hb HF HB0 HB1 HCells
    go_wp2_with fail
    go_ret2
    exact HE.out
end Go.Proofs.YtkkmfpllgjoceaaGreat
