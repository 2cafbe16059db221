/- A slack, by its three numbers: the program's. -/
import Derived.Test.YtbdiekolkniajaaLocD
namespace Go.Proofs.Ytbdiekolkniajaa
open Go.RowKit Tk De Dl Lo Go.Sort
set_option linter.unusedVariables false

/-- the box of the one that is looked at, the result's box -/
structure SB (w W : World) (o : Obj) : Prop where
  k : W.heap[w.heap.size]? = some o
  r : W.heap[w.heap.size + 1]? = some (.cells #[.int .i64 0, .int .i64 0, .int .i64 0] 81 (0, 0))
  b : Below w.heap.size w W
theorem SB.below {w W W' : World} {o : Obj} (h : SB w W o) (b : Below W.heap.size W W') : SB w W' o := ⟨(b.block _ (lt_of_block h.k)).trans h.k, (b.block _ (lt_of_block h.r)).trans h.r, chn h.b b⟩
theorem sb_start (w : World) (o : Obj) : SB w ((w.alloc o).alloc (.cells #[.int .i64 0, .int .i64 0, .int .i64 0] 81)) o := by
  have h := heap_alloc_new (w.alloc o) (.cells #[.int .i64 0, .int .i64 0, .int .i64 0] 81)
  rw [World.size_alloc] at h
  exact ⟨(Below.heap_alloc _ _ _ (by simp)).trans (heap_alloc_new w o), h, ((Below.refl _ w).alloc (Nat.le_refl _) _).alloc (by simp) _⟩
/-- three cells are written -/
theorem three_end {W : World} {b : Nat} {x0 x1 x2 : Value} {t : TypeId} (v0 v1 v2 : Value) (h : W.heap[b]? = some (.cells #[x0, x1, x2] t (0, 0))) (W' : World)
    (hW : W' = ((W.setCell ⟨b, 0, none⟩ v0).setCell ⟨b, 1, none⟩ v1).setCell ⟨b, 2, none⟩ v2) :
    (W'.cell? ⟨b, 0, none⟩ = some v0 ∧ W'.cell? ⟨b, 1, none⟩ = some v1 ∧ W'.cell? ⟨b, 2, none⟩ = some v2) ∧ Below b W W' ∧ W'.heap[b]? = some (.cells #[v0, v1, v2] t (0, 0)) := by
  subst hW
  have hk := heap_set_same (i := 2) (v := v2) (heap_set_same (i := 1) (v := v1) (heap_set_same (i := 0) (v := v0) h))
  have hk2 : (((W.setCell ⟨b, 0, none⟩ v0).setCell ⟨b, 1, none⟩ v1).setCell ⟨b, 2, none⟩ v2).heap[b]? = some (.cells #[v0, v1, v2] t (0, 0)) := hk
  exact ⟨⟨cell_of_row _ _ 0 _ _ _ hk2, cell_of_row _ _ 1 _ _ _ hk2, cell_of_row _ _ 2 _ _ _ hk2⟩,
    (((Below.refl b W).setCell (p := ⟨b, 0, none⟩) (Nat.le_refl _) _).setCell (p := ⟨b, 1, none⟩) (Nat.le_refl _) _).setCell (p := ⟨b, 2, none⟩) (Nat.le_refl _) _, hk2⟩
def S3 (g a k : Int) (w : World) (e : Ending) (w' : World) : Prop := e = .returned (s3v g a k) ∧ Below w.heap.size w w'
set_option maxRecDepth 100000 in
set_option maxHeartbeats 4000000 in
theorem slack_any {w : World} {ps : List Pn} {a : Option Addr} {m cap q : Nat} {ta : Option Addr} {tcap : Nat} {ma : Option Addr} {mcap : Nat} (h : LG w ps a m cap q ta tcap ma mcap) {T : Nat} (hT : T ≤ 1048576) :
    Calls Try.prog 60 #[gkv ps a m cap q ta tcap ma mcap, .int .i64 T] w (S3 (supN (ps.getD q p0) T : Nat) (demN ps q T : Nat) (del ps q T (ps.getD q p0).n) w) := by
  have HS := Lib.hid (sb_start w (gvo (ps.getD q p0).per (ps.getD q p0).bud ta (ps.getD q p0).n tcap ma mcap a m cap q))
  have HSU := Lib.hid (sup_ok h hT)
  have HDE := Lib.hid (fun W (b : Below w.heap.size w W) => dem_any (h.below b) hT)
  have HDL := Lib.hid (fun W (b : Below w.heap.size w W) => del_ok (h.below b) (T := T))
  unfold gvo at HS
  unfold gkv gv at HDE ⊢
  clear h
  generalize (ps.getD q p0).n = n at *
  generalize (ps.getD q p0).per = per at *
  generalize (ps.getD q p0).bud = bud at *
  generalize supN (ps.getD q p0) T = G at *
  generalize demN ps q T = A at *
  generalize del ps q T n = D at *
  clear hT
  go_enter Try.func60, Try.ntmps60
  have c0 := cell_of_row _ _ 0 _ _ _ HS.out.k
  have c1 := cell_of_row _ _ 1 _ _ _ HS.out.k
  change _ = some (Value.int .i64 per) at c0
  change _ = some (Value.int .i64 bud) at c1
  go_wp2_with fail
  refine (HSU.out _).mono ?_
  rintro e w1 ⟨rfl, hb⟩
  have HS1 := Lib.hid (HS.out.below hb)
  clear hb HSU HS c0 c1
  have c4 := cell_of_row _ _ 4 _ _ _ HS1.out.k
  have c5 := cell_of_row _ _ 5 _ _ _ HS1.out.k
  change _ = some (Value.slice a m cap) at c4
  change _ = some (Value.int .i64 q) at c5
  go_wp2_with fail
  refine (HDL.out _ HS1.out.b).mono ?_
  rintro e w2 ⟨rfl, hb⟩
  have HS2 := Lib.hid (HS1.out.below hb)
  clear hb HDL HS1 c4 c5
  have d0 := cell_of_row _ _ 0 _ _ _ HS2.out.k
  have d1 := cell_of_row _ _ 1 _ _ _ HS2.out.k
  have d2 := cell_of_row _ _ 2 _ _ _ HS2.out.k
  have d3 := cell_of_row _ _ 3 _ _ _ HS2.out.k
  have d4 := cell_of_row _ _ 4 _ _ _ HS2.out.k
  have d5 := cell_of_row _ _ 5 _ _ _ HS2.out.k
  change _ = some (Value.int .i64 per) at d0
  change _ = some (Value.int .i64 bud) at d1
  change _ = some (Value.slice ta n tcap) at d2
  change _ = some (Value.slice ma n mcap) at d3
  change _ = some (Value.slice a m cap) at d4
  change _ = some (Value.int .i64 q) at d5
  go_wp2_with fail
  refine (HDE.out _ HS2.out.b).mono ?_
  rintro e w3 ⟨rfl, hb⟩
  have HS3 := Lib.hid (HS2.out.below hb)
  clear hb HDE HS2 d0 d1 d2 d3 d4 d5
  have q0 := cell_of_row _ _ 0 _ _ _ HS3.out.r
  have q1 := cell_of_row _ _ 1 _ _ _ HS3.out.r
  have q2 := cell_of_row _ _ 2 _ _ _ HS3.out.r
  have g0 := frozen_of_row _ _ 0 _ _ HS3.out.r
  have g1 := frozen_of_row _ _ 1 _ _ HS3.out.r
  have g2 := frozen_of_row _ _ 2 _ _ HS3.out.r
  go_wp2_with fail
  clear q0 q1 q2 g0 g1 g2
  obtain ⟨⟨e0, e1, e2⟩, eb, _⟩ := three_end (.int .i64 G) (.int .i64 A) (.int .i64 D) HS3.out.r _ rfl
  refine bodyPost_ret (v := s3v G A D) (by simp [results, Try.results60, go_sem, e0, e1, e2]) rfl ?_
  exact ⟨rfl, HS3.out.b.trans (eb.mono (by omega))⟩
end Go.Proofs.Ytbdiekolkniajaa
