/- GateNames: both ends, what is refused. -/
import Derived.Test.YtbdiekolkniajaaGatT
import Derived.Deep.RegionHeld3
import Derived.Deep.CutRange
import Derived.Lib.QuietBelow
namespace Go.Proofs.Ytbdiekolkniajaa
open Go.RowKit Tk De Dl Lo Gt
set_option linter.unusedVariables false

def zA : Nat → Nat → Int := fun _ j => if j = 0 then 4 else if j = 1 then 1 else if j = 2 then 1 else 0
def zB : Nat → Nat → Int := fun _ j => if j = 0 then 8 else if j = 1 then 2 else if j = 2 then 1 else 0
def lp3 : List Pn := [⟨2, 1, 0, z0⟩, ⟨2, 1, 1, zA⟩, ⟨4, 1, 1, zB⟩]
theorem n1 : gtR [] [] = (0, 0, 50) := by decide
theorem n2 : gtR tp3 [true, true] = (0, 0, 2) := by decide
theorem n3 : gjR tp3 [true, true] 9 = 2 := by decide
theorem n4 : gjR tp3 [false, false, false] (-1) = 9 := by decide
theorem n5 : gcE tp3 [true, true] 9 9 0 = 2 := by decide
theorem n6 : gcE tp3 [false, false, false] 3 1 1 = 9 := by decide
theorem n7 : gcE tp3 [false, false, false] 2 64 64 = 0 := by decide
theorem n8 : gcE lp3 [false, false, false] 1 1 1 = 0 := by decide
theorem n9 : gtR lp3 [true, true, false] = (1, 1, 120) := by decide +kernel
theorem n10 : gtR lp3 [true, false, true] = (2, 2, 120) := by decide +kernel
theorem n11 : gtR lp3 [true, false, false] = (-1, 0, 0) := by decide
/-- the chapter's configuration, and a row of three -/
structure NX (w W : World) (b g gt : Nat) : Prop where
  bx : CBo W b (.slice (some ⟨g, 0, none⟩) 3 3) (.slice none 0 0)
  pb : PB_ W g tl3
  al : W.heap[gt]? = some (.cells #[.bool true, .bool true, .bool true] 4 (0, 0))
  bel : Below w.heap.size w W
section
variable {w W W' : World} {b g gt : Nat}
theorem NX.below (h : NX w W b g gt) (q : Below W.heap.size W W') : NX w W' b g gt := ⟨h.bx.below q, h.pb.below q, (q.block _ (lt_of_block h.al)).trans h.al, chn h.bel q⟩
theorem NX.drew (h : NX w W b g gt) : NX w W.drew b g gt := ⟨h.bx, h.pb, h.al, h.bel.drew⟩
theorem NX.ad (h : NX w W b g gt) (o : Obj) : NX w (W.alloc o) b g gt := h.below (below_alloc W o)
theorem NX.lt (h : NX w W b g gt) : b < W.heap.size ∧ g < W.heap.size ∧ gt < W.heap.size := ⟨lt_of_block h.bx, lt_of_block h.pb, lt_of_block h.al⟩
theorem NX.gc (h : NX w W b g gt) : GC W (.agg #[.slice (some ⟨g, 0, none⟩) 3 3, .slice none 0 0]) tp3 := ⟨_, rfl, tl3_ps h.pb⟩
theorem NX.b3 (h : NX w W b g gt) : BV W (.slice (some ⟨gt, 0, none⟩) 3 3) [true, true, true] := bv_of (b := [true, true, true]) h.al (by decide)
theorem NX.b2 (h : NX w W b g gt) : BV W (.slice (some ⟨gt, 0, none⟩) 2 3) [true, true] := by
  obtain ⟨a, c, e, h1, h2, h3⟩ := h.b3
  obtain ⟨rfl, rfl⟩ : some (⟨gt, 0, none⟩ : Addr) = a ∧ 3 = c := by simpa using e
  refine ⟨_, _, rfl, by decide, by decide, fun _ => ?_⟩
  obtain ⟨g', off, e2, hc⟩ := h3 (by decide)
  refine ⟨g', off, e2, fun i hi => ?_⟩
  have := hc i (by simp only [List.length_cons, List.length_nil] at hi ⊢; omega)
  match i, hi with
  | 0, _ => exact this
  | 1, _ => exact this
theorem NX.two (h : NX w W b g gt) {xb : Nat} (hne : b ≠ xb ∧ g ≠ xb ∧ gt ≠ xb) (hx : w.heap.size ≤ xb) (x y : Value) : NX w ((W.setCell ⟨xb, 0, none⟩ x).setCell ⟨xb, 1, none⟩ y) b g gt := by
  have off : ∀ k, k ≠ xb → ((W.setCell ⟨xb, 0, none⟩ x).setCell ⟨xb, 1, none⟩ y).heap[k]? = W.heap[k]? := fun k hk => (Below.heap_setCell _ _ _ _ hk).trans (Below.heap_setCell _ _ _ _ hk)
  exact ⟨(off _ hne.1).trans h.bx, (off _ hne.2.1).trans h.pb, (off _ hne.2.2).trans h.al, (h.bel.setCell (p := ⟨xb, 0, none⟩) hx _).setCell (p := ⟨xb, 1, none⟩) hx _⟩
end
theorem made_f3 : madeCells #[Value.bool false] 3 = ([false, false, false].map Value.bool).toArray := by kernel_rfl
theorem bf_of {fr : Array Value} (hf : fr = madeCells #[.bool false] 3) {W : World} {b : Nat} (h : W.heap[b]? = some (.cells fr 4 (0, 0))) : BV W (.slice (some ⟨b, 0, none⟩) 3 3) [false, false, false] := by
  rw [hf, made_f3] at h
  exact bv_of (b := [false, false, false]) h (by decide)
theorem info_bl : (Try.prog.info? 4).map (fun i => (i.zero, i.size, i.bytes)) = some (some (.bool false), 1, 1) := by kernel_rfl
theorem make_bl (w : World) : (Instr.makeSlice 31 (.int .i64 3) (.int .i64 3)).run Try.prog w = .ok (.slice (some ⟨w.heap.size, 0, none⟩) 3 3) (w.alloc (.cells (madeCells #[.bool false] 3) 4)) :=
  run_make_row' (P := Try.prog) 31 4 (.bool false) 1 Try.underlying31 info_bl rfl .i64 .i64 3 (by omega) (by omega) w
theorem alc0 (X : World) (o : Obj) : (X.alloc o).heap[X.heap.size]? = some o := heap_alloc_new X o
theorem alc1 (X : World) (o p : Obj) : ((X.alloc o).alloc p).heap[X.heap.size]? = some o := (Below.heap_alloc _ _ _ (by simp)).trans (heap_alloc_new X o)
theorem alc2 (X : World) (o p : Obj) : ((X.alloc o).alloc p).heap[X.heap.size + 1]? = some p := by
  have := heap_alloc_new (X.alloc o) p
  rw [World.size_alloc] at this
  exact this
def NXs (w W : World) (b g gt : Nat) : Prop := W.cell? ⟨b, 0, none⟩ = some (.slice (some ⟨g, 0, none⟩) 3 3) ∧ W.cell? ⟨b, 1, none⟩ = some (.slice none 0 0) ∧ NX w W b g gt
theorem NX.s {w W : World} {b g gt : Nat} (h : NX w W b g gt) : NXs w W b g gt := ⟨h.bx.cells.1, h.bx.cells.2, h⟩
theorem NXs.drew {w W : World} {b g gt : Nat} (h : NXs w W b g gt) : NXs w W.drew b g gt := ⟨h.1, h.2.1, h.2.2.drew⟩
theorem cell_al {w : World} {p : Addr} {v : Value} (h : w.cell? p = some v) (o : Obj) : (w.alloc o).cell? p = some v := ((below_alloc w o).cell (World.block_lt_of_cell? _ _ h)).trans h
theorem cell_ald {w : World} {p : Addr} {v : Value} (h : w.cell? p = some v) (o : Obj) : (w.alloc o).drew.cell? p = some v := cell_al h o
theorem cell_off {w : World} {b o xb j : Nat} {v : Value} (y : Value) (hne : b ≠ xb) (h : w.cell? ⟨b, o, none⟩ = some v) : (w.setCell ⟨xb, j, none⟩ y).cell? ⟨b, o, none⟩ = some v := (World.cell?_setCell_other _ _ _ _ (fun e => hne (congrArg Addr.block e).symm)).trans h
theorem cell_offd {w : World} {b o xb j : Nat} {v : Value} (y : Value) (hne : b ≠ xb) (h : w.cell? ⟨b, o, none⟩ = some v) : (w.setCell ⟨xb, j, none⟩ y).drew.cell? ⟨b, o, none⟩ = some v := cell_off y hne h
theorem tr0 {X wx : World} {o : Obj} (h : Below (X.alloc o).heap.size (X.alloc o) wx) : wx.heap[X.heap.size]? = some o := (h.block _ (lt_of_block (alc0 X o))).trans (alc0 X o)
theorem tr1 {X wx : World} {o p : Obj} (h : Below ((X.alloc o).alloc p).heap.size ((X.alloc o).alloc p) wx) : wx.heap[X.heap.size]? = some o := (h.block _ (lt_of_block (alc1 X o p))).trans (alc1 X o p)
theorem tr2 {X wx : World} {o p : Obj} (h : Below ((X.alloc o).alloc p).heap.size ((X.alloc o).alloc p) wx) : wx.heap[X.heap.size + 1]? = some p := (h.block _ (lt_of_block (alc2 X o p))).trans (alc2 X o p)
theorem undrew {W w' : World} (h : Below W.drew.heap.size W.drew w') : Below W.heap.size W w' := ⟨h.os, h.tape, h.output, h.size, h.block⟩
theorem drew_heap (W : World) : W.drew.heap = W.heap := rfl
theorem test_N {w X : World} {b g gt : Nat} {u : Value} {ins : List Bool} {x y e : Int} (hr : gtR tp3 ins = (x, y, e)) (h : NX w X b g gt) (hb : BV X u ins) : Calls Try.prog 7 #[.agg #[.slice (some ⟨g, 0, none⟩) 3 3, .slice none 0 0], u] X (fun z w' => z = .returned (.tuple #[.int .i64 x, .int .i64 y, .int .i64 e]) ∧ NX w w' b g gt) :=
  (test_fit hr h.gc hb).mono fun z w' ⟨h1, h2⟩ => ⟨h1, h.below h2⟩
theorem test_Ns {w X : World} {b g gt : Nat} {x y e : Int} (hr : gtR tp3 [true, true] = (x, y, e)) (h : NXs w X b g gt) : Calls Try.prog 7 #[.agg #[.slice (some ⟨g, 0, none⟩) 3 3, .slice none 0 0], .slice (some ⟨gt, 0, none⟩) 2 3] X (fun z w' => z = .returned (.tuple #[.int .i64 x, .int .i64 y, .int .i64 e]) ∧ NXs w w' b g gt) :=
  (test_N hr h.2.2 h.2.2.b2).mono fun z w' ⟨h1, h2⟩ => ⟨h1, h2.s⟩
theorem join_N {w X : World} {b g gt : Nat} {u : Value} {ins : List Bool} {part r : Int} (hr : gjR tp3 ins part = r) (h : NX w X b g gt) (hb : BV X u ins) : Calls Try.prog 11 #[.agg #[.slice (some ⟨g, 0, none⟩) 3 3, .slice none 0 0], u, .int .i64 part] X (fun z w' => z = .returned (.int .i64 r) ∧ NX w w' b g gt) :=
  (join_fit hr h.gc hb).mono fun z w' ⟨h1, h2⟩ => ⟨h1, h.below h2⟩
theorem chg_N {w X : World} {b g gt : Nat} {u : Value} {ins : List Bool} {part per bud r : Int} (hr : gcE tp3 ins part per bud = r) (h : NX w X b g gt) (hb : BV X u ins) : Calls Try.prog 12 #[.agg #[.slice (some ⟨g, 0, none⟩) 3 3, .slice none 0 0], u, .int .i64 part, .int .i64 per, .int .i64 bud] X (fun z w' => ∃ pa pn pc oa on_ oc, z = .returned (.tuple #[.agg #[.slice pa pn pc, .slice oa on_ oc], .int .i64 r]) ∧ (r = 0 → PS w' (.slice pa pn pc) (chg tp3 part.toNat per bud)) ∧ NX w w' b g gt ∧ Below X.heap.size X w') :=
  (chg_fit hr h.gc hb).mono fun z w' ⟨pa, pn, pc, oa, on_, oc, h1, h2, h3⟩ => ⟨pa, pn, pc, oa, on_, oc, h1, h2, h.below h3, h3⟩
/-- the calls of Change, in each order of what is laid beside them -/
abbrev BXO : Obj := .cells #[.slice none 0 0, .slice none 0 0] 25 (0, 0)
def ChQ (w : World) (b g gt : Nat) (per bud part r : Int) (z : Ending) (w' : World) : Prop := ∃ pa pn pc oa on_ oc, z = .returned (.tuple #[.agg #[.slice pa pn pc, .slice oa on_ oc], .int .i64 r]) ∧ (r = 0 → PS w' (.slice pa pn pc) (chg tp3 part.toNat per bud)) ∧ NX w w' b g gt
theorem chg_S1 {w X : World} {b g gt : Nat} {part per bud r : Int} (hr : gcE tp3 [true, true] part per bud = r) (h : NX w X b g gt) : Calls Try.prog 12 #[.agg #[.slice (some ⟨g, 0, none⟩) 3 3, .slice none 0 0], .slice (some ⟨gt, 0, none⟩) 2 3, .int .i64 part, .int .i64 per, .int .i64 bud] X.drew (ChQ w b g gt per bud part r) :=
  (chg_N hr h.drew h.drew.b2).mono fun z w' ⟨pa, pn, pc, oa, on_, oc, h1, h2, h3, _⟩ => ⟨pa, pn, pc, oa, on_, oc, h1, h2, h3⟩
theorem chg_S2 {w X : World} {b g gt : Nat} {part per bud r : Int} (hr : gcE tp3 [true, true] part per bud = r) (h : NX w X b g gt) : Calls Try.prog 12 #[.agg #[.slice (some ⟨g, 0, none⟩) 3 3, .slice none 0 0], .slice (some ⟨gt, 0, none⟩) 2 3, .int .i64 part, .int .i64 per, .int .i64 bud] (X.alloc BXO).drew (fun z w' => ChQ w b g gt per bud part r z w' ∧ CBo w' X.heap.size (.slice none 0 0) (.slice none 0 0)) :=
  (chg_N hr (h.ad _).drew (h.ad _).drew.b2).mono fun z w' ⟨pa, pn, pc, oa, on_, oc, h1, h2, h3, h4⟩ => ⟨⟨pa, pn, pc, oa, on_, oc, h1, h2, h3⟩, tr0 (undrew h4)⟩
theorem chg_R1 {w X : World} {b g gt : Nat} {part per bud r : Int} {fr : Array Value} (hf : fr = madeCells #[.bool false] 3) (hr : gcE tp3 [false, false, false] part per bud = r) (h : NX w X b g gt) : Calls Try.prog 12 #[.agg #[.slice (some ⟨g, 0, none⟩) 3 3, .slice none 0 0], .slice (some ⟨X.heap.size, 0, none⟩) 3 3, .int .i64 part, .int .i64 per, .int .i64 bud] (X.alloc (.cells fr 4)).drew (ChQ w b g gt per bud part r) :=
  (chg_N hr (h.ad _).drew (bf_of hf (alc0 X _))).mono fun z w' ⟨pa, pn, pc, oa, on_, oc, h1, h2, h3, _⟩ => ⟨pa, pn, pc, oa, on_, oc, h1, h2, h3⟩
theorem chg_R2 {w X : World} {b g gt : Nat} {part per bud r : Int} {fr : Array Value} (hf : fr = madeCells #[.bool false] 3) (hr : gcE tp3 [false, false, false] part per bud = r) (h : NX w X b g gt) : Calls Try.prog 12 #[.agg #[.slice (some ⟨g, 0, none⟩) 3 3, .slice none 0 0], .slice (some ⟨X.heap.size, 0, none⟩) 3 3, .int .i64 part, .int .i64 per, .int .i64 bud] ((X.alloc (.cells fr 4)).alloc BXO).drew (fun z w' => ChQ w b g gt per bud part r z w' ∧ CBo w' (X.heap.size + 1) (.slice none 0 0) (.slice none 0 0)) :=
  (chg_N hr ((h.ad _).ad _).drew (bf_of hf (alc1 X _ _))).mono fun z w' ⟨pa, pn, pc, oa, on_, oc, h1, h2, h3, h4⟩ => ⟨⟨pa, pn, pc, oa, on_, oc, h1, h2, h3⟩, tr2 (undrew h4)⟩
theorem chg_R3 {w X : World} {b g gt : Nat} {part per bud r : Int} {fr : Array Value} (hf : fr = madeCells #[.bool false] 3) (hr : gcE tp3 [false, false, false] part per bud = r) (h : NX w X b g gt) : Calls Try.prog 12 #[.agg #[.slice (some ⟨g, 0, none⟩) 3 3, .slice none 0 0], .slice (some ⟨X.heap.size + 1, 0, none⟩) 3 3, .int .i64 part, .int .i64 per, .int .i64 bud] ((X.alloc BXO).alloc (.cells fr 4)).drew (fun z w' => ChQ w b g gt per bud part r z w' ∧ CBo w' X.heap.size (.slice none 0 0) (.slice none 0 0)) :=
  (chg_N hr ((h.ad _).ad _).drew (bf_of hf (alc2 X _ _))).mono fun z w' ⟨pa, pn, pc, oa, on_, oc, h1, h2, h3, h4⟩ => ⟨⟨pa, pn, pc, oa, on_, oc, h1, h2, h3⟩, tr1 (undrew h4)⟩
theorem three_f (w : World) : Calls Try.prog 10 #[] w (fun e w' => ∃ g, e = .returned (.agg #[.slice (some ⟨g, 0, none⟩) 3 3, .slice none 0 0]) ∧ PB_ w' g tl3 ∧ Below w.heap.size w w' ∧ w.heap.size ≤ g) := by
  go_enter Try.func10, Try.ntmps10
  go_wp2_with fail
  obtain ⟨e0, e1, h2, h3⟩ := thr_facts w _ rfl
  unfold tl3 at e0 e1 h2 h3
  simp only [pcells] at e0 e1 h3
  refine bodyPost_ret (v := .agg #[.slice (some ⟨w.heap.size + 1, 0, none⟩) 3 3, .slice none 0 0]) (by simp [results, Try.results10, go_sem, e0, e1]) rfl ?_
  exact ⟨_, rfl, h2, h3, Nat.le_succ _⟩
def T1 : Obj := .cells #[.int .i64 4, .int .i64 1, .int .i64 1, .int .i64 0, .int .i64 0, .int .i64 0, .int .i64 0, .int .i64 0] 40 (0, 0)
def T2 : Obj := .cells #[.int .i64 8, .int .i64 2, .int .i64 1, .int .i64 0, .int .i64 0, .int .i64 0, .int .i64 0, .int .i64 0] 40 (0, 0)
theorem tkA {W : World} {t : Nat} (h : W.heap[t]? = some T1) : TK W (.slice (some ⟨t, 0, none⟩) 1 1) 1 zA :=
  ⟨_, _, rfl, Nat.le_refl _, by decide, (fun h => by cases h), fun _ => ⟨t, 0, rfl, fun i hi j hj => by
    obtain rfl : i = 0 := by omega
    rw [cell_of_row _ _ _ _ _ _ h]
    match j, hj with
    | 0, _ => rfl | 1, _ => rfl | 2, _ => rfl | 3, _ => rfl | 4, _ => rfl | 5, _ => rfl | 6, _ => rfl | 7, _ => rfl⟩⟩
theorem tkB {W : World} {t : Nat} (h : W.heap[t]? = some T2) : TK W (.slice (some ⟨t, 0, none⟩) 1 1) 1 zB :=
  ⟨_, _, rfl, Nat.le_refl _, by decide, (fun h => by cases h), fun _ => ⟨t, 0, rfl, fun i hi j hj => by
    obtain rfl : i = 0 := by omega
    rw [cell_of_row _ _ _ _ _ _ h]
    match j, hj with
    | 0, _ => rfl | 1, _ => rfl | 2, _ => rfl | 3, _ => rfl | 4, _ => rfl | 5, _ => rfl | 6, _ => rfl | 7, _ => rfl⟩⟩
def l1 (t : Nat) : List (Pn × Value) := [(⟨2, 1, 0, z0⟩, .slice none 0 0), (⟨2, 1, 1, zA⟩, .slice (some ⟨t, 0, none⟩) 1 1), (⟨4, 1, 0, z0⟩, .slice none 0 0)]
def l2 (t u : Nat) : List (Pn × Value) := [(⟨2, 1, 0, z0⟩, .slice none 0 0), (⟨2, 1, 1, zA⟩, .slice (some ⟨t, 0, none⟩) 1 1), (⟨4, 1, 1, zB⟩, .slice (some ⟨u, 0, none⟩) 1 1)]
/-- the first task is laid -/
theorem lay1 {wc W : World} {g b : Nat} {pv ov : Value} (hp : PB_ W g tl3) (hb : Below wc.heap.size wc W) (hg : wc.heap.size ≤ g) (hc : CBo W b pv ov) (hne : b ≠ g) :
    PB_ ((W.alloc T1).setCell ⟨g, 5, none⟩ (.slice (some ⟨W.heap.size, 0, none⟩) 1 1)) g (l1 W.heap.size) ∧ Below wc.heap.size wc ((W.alloc T1).setCell ⟨g, 5, none⟩ (.slice (some ⟨W.heap.size, 0, none⟩) 1 1)) ∧
    ((W.alloc T1).setCell ⟨g, 5, none⟩ (.slice (some ⟨W.heap.size, 0, none⟩) 1 1)).heap[W.heap.size]? = some T1 ∧ CBo ((W.alloc T1).setCell ⟨g, 5, none⟩ (.slice (some ⟨W.heap.size, 0, none⟩) 1 1)) b pv ov ∧ W.heap.size < ((W.alloc T1).setCell ⟨g, 5, none⟩ (.slice (some ⟨W.heap.size, 0, none⟩) 1 1)).heap.size := by
  have hgl := lt_of_block hp
  have h1 := heap_setCell_same (W.alloc T1) g 5 _ _ (.slice (some ⟨W.heap.size, 0, none⟩) 1 1) (hp.below (below_alloc W T1))
  have h2 : ((W.alloc T1).setCell ⟨g, 5, none⟩ (.slice (some ⟨W.heap.size, 0, none⟩) 1 1)).heap[W.heap.size]? = some T1 := (Below.heap_setCell _ _ _ _ (show W.heap.size ≠ g by omega)).trans (alc0 W T1)
  refine ⟨?_, (chn hb (below_alloc W T1)).setCell (p := ⟨g, 5, none⟩) hg _, h2, (Below.heap_setCell _ _ _ _ hne).trans (hc.below (below_alloc W T1)), lt_of_block h2⟩
  unfold PB_
  rw [h1]
  simp [tl3, l1, pcells]
theorem lay2 {wc W : World} {g b t : Nat} {pv ov : Value} (hp : PB_ W g (l1 t)) (hb : Below wc.heap.size wc W) (hg : wc.heap.size ≤ g) (ht : W.heap[t]? = some T1) (htg : t ≠ g) (hc : CBo W b pv ov) (hne : b ≠ g) :
    PS ((W.alloc T2).setCell ⟨g, 8, none⟩ (.slice (some ⟨W.heap.size, 0, none⟩) 1 1)) (.slice (some ⟨g, 0, none⟩) 3 3) lp3 ∧ Below wc.heap.size wc ((W.alloc T2).setCell ⟨g, 8, none⟩ (.slice (some ⟨W.heap.size, 0, none⟩) 1 1)) ∧
    CBo ((W.alloc T2).setCell ⟨g, 8, none⟩ (.slice (some ⟨W.heap.size, 0, none⟩) 1 1)) b pv ov := by
  have hgl := lt_of_block hp
  have h1 := heap_setCell_same (W.alloc T2) g 8 _ _ (.slice (some ⟨W.heap.size, 0, none⟩) 1 1) (hp.below (below_alloc W T2))
  have h2 : ((W.alloc T2).setCell ⟨g, 8, none⟩ (.slice (some ⟨W.heap.size, 0, none⟩) 1 1)).heap[W.heap.size]? = some T2 := (Below.heap_setCell _ _ _ _ (show W.heap.size ≠ g by omega)).trans (alc0 W T2)
  have h3 : ((W.alloc T2).setCell ⟨g, 8, none⟩ (.slice (some ⟨W.heap.size, 0, none⟩) 1 1)).heap[t]? = some T1 := (Below.heap_setCell _ _ _ _ htg).trans (((below_alloc W T2).block _ (lt_of_block ht)).trans ht)
  have h4 : PB_ ((W.alloc T2).setCell ⟨g, 8, none⟩ (.slice (some ⟨W.heap.size, 0, none⟩) 1 1)) g (l2 t W.heap.size) := by
    unfold PB_
    rw [h1]
    simp [l1, l2, pcells]
  refine ⟨h4.ps (by show 3 ≤ 4; decide) (fun q hq => ?_), (chn hb (below_alloc W T2)).setCell (p := ⟨g, 8, none⟩) hg _, (Below.heap_setCell _ _ _ _ hne).trans (hc.below (below_alloc W T2))⟩
  simp only [l2, List.mem_cons, List.not_mem_nil, or_false] at hq
  rcases hq with rfl | rfl | rfl
  · exact ⟨TK.nil _ _, Nat.zero_le _⟩
  · exact ⟨tkA h3, by show 1 ≤ 4; decide⟩
  · exact ⟨tkB h2, by show 1 ≤ 4; decide⟩
set_option maxRecDepth 100000 in
set_option maxHeartbeats 16000000 in
theorem names_law (w : World) : Calls Try.prog 4 #[] w (TrueB w) := by
  have mixed : Try.prog.follows .mixedOrders = true := by kernel_rfl
  have HT := Lib.hid three_f
  have HWK := Lib.hid works_any
  have hmk := make_bl
  obtain ⟨fr, hfr⟩ : ∃ fr, fr = madeCells #[Value.bool false] 3 := ⟨_, rfl⟩
  simp only [← hfr] at hmk
  have HFR := Lib.hid hfr
  clear hfr
  go_enter Try.func4, Try.ntmps4
  go_wp2_with fail
  refine (HT.out _).mono ?_
  rintro e w1 ⟨g, rfl, hpb, hb, _⟩
  obtain ⟨b, hbb⟩ : ∃ b, b = w1.heap.size := ⟨_, rfl⟩
  have HX : Hid (NX w ((w1.alloc (.cells #[.slice (some ⟨g, 0, none⟩) 3 3, .slice none 0 0] 25)).alloc (.cells #[.bool true, .bool true, .bool true] 4)) b g (b + 1)) := by
    have h1 := alc1 w1 (.cells #[.slice (some ⟨g, 0, none⟩) 3 3, .slice none 0 0] 25) (.cells #[.bool true, .bool true, .bool true] 4)
    have h2 := alc2 w1 (.cells #[.slice (some ⟨g, 0, none⟩) 3 3, .slice none 0 0] 25) (.cells #[.bool true, .bool true, .bool true] 4)
    rw [← hbb] at h1 h2
    have q1 := below_alloc w1 (.cells #[.slice (some ⟨g, 0, none⟩) 3 3, .slice none 0 0] 25)
    have q2 := below_alloc (w1.alloc (.cells #[.slice (some ⟨g, 0, none⟩) 3 3, .slice none 0 0] 25)) (.cells #[.bool true, .bool true, .bool true] 4)
    exact ⟨h1, (hpb.below q1).below q2, h2, chn (chn hb q1) q2⟩
  have HBB := Lib.hid hbb
  clear hpb hb
  go_wp2_with fail
  rw [← hbb]
  clear hbb
  generalize (w1.alloc (.cells #[.slice (some ⟨g, 0, none⟩) 3 3, .slice none 0 0] 25)).alloc (.cells #[.bool true, .bool true, .bool true] 4) = W0 at *
  obtain ⟨gt, hgt⟩ : ∃ gt, gt = b + 1 := ⟨_, rfl⟩
  rw [← hgt] at HX ⊢
  clear hgt
  refine (test_fit n1 ⟨_, rfl, PS.nil _⟩ ⟨none, 0, rfl, Nat.le_refl _, Nat.zero_le _, fun h => by cases h⟩).mono ?_
  rintro e w2 ⟨rfl, hb⟩
  have HX := Lib.hid (HX.out.below hb)
  clear hb
  have HS := Lib.hid HX.out.s
  go_wp2_with fail
  go_region_held3 (fun w' => w'.cell? ⟨b, 0, none⟩ = some (.slice (some ⟨g, 0, none⟩) 3 3) ∧ w'.cell? ⟨b, 1, none⟩ = some (.slice none 0 0) ∧ NX w w' b g gt)
    (first | assumption | exact NXs.drew HS.out | exact HS.out | go_keep)
    ((go_at_call 7; refine (test_Ns n2 (by assumption)).mono ?_; rintro e w3 ⟨rfl, hx⟩))
  rename_i hHeld
  clear HX HS hHeld
  have HX := Lib.hid hx.2.2
  clear hx
  obtain ⟨c0, c1⟩ := HX.out.bx.cells
  go_wp2_with fail
  have d0 : w3.drew.cell? ⟨b, 0, none⟩ = some (.slice (some ⟨g, 0, none⟩) 3 3) := c0
  have d1 : w3.drew.cell? ⟨b, 1, none⟩ = some (.slice none 0 0) := c1
  clear c0 c1
  refine wp_region_still_tail 3 mixed (by kernel_rfl) ?_
  simp only [List.take_succ_cons, List.take_zero, List.drop_succ_cons, List.drop_zero]
  change wpStill _ _ w3.drew _ _ _
  repeat still_step
  refine wpStill_nil ?_
  clear d0 d1
  go_wp2_with fail
  refine (join_N n3 (HX.out.drew) (HX.out.drew.b2)).mono ?_
  rintro e w4 ⟨rfl, hx⟩
  clear HX
  have HX := Lib.hid hx
  clear hx
  obtain ⟨c0, c1⟩ := HX.out.bx.cells
  go_upto_region 6 with (fail)
  go_cut [10] from 40 to 42 (fun e wc => e = .int .i64 9 ∧ Hid (NX w wc b g gt))
  case first =>
    go_region_held3 (fun w' => w'.cell? ⟨b, 0, none⟩ = some (.slice (some ⟨g, 0, none⟩) 3 3) ∧ w'.cell? ⟨b, 1, none⟩ = some (.slice none 0 0))
      (first | assumption | exact ⟨c0, c1⟩ | exact ⟨hx.bx.cells.1, hx.bx.cells.2⟩ | (refine ⟨?_, ?_⟩ <;> (repeat (first | exact c0 | exact c1 | exact hx.bx.cells.1 | exact hx.bx.cells.2 | refine cell_ald ?_ _ | refine cell_al ?_ _ | refine cell_offd _ (by omega) ?_ | refine cell_off _ (by omega) ?_))))
      ((go_at_call 11; refine (join_N (w := w) (b := b) (gt := gt) n4 (by repeat (first | (with_reducible exact HX.out) | (with_reducible refine NX.drew ?_) | (with_reducible refine NX.ad ?_ _))) (bf_of HFR.out (by first | (simp only [drew_heap, alc0]; done) | (simp only [drew_heap, alc1]; done) | (simp only [drew_heap, alc2]; done)))).mono ?_; rintro e wx ⟨rfl, hx⟩))
    all_goals (
      have HX2 := Lib.hid hx
      clear hx
      go_wp2_with fail
      go_meet)
    all_goals exact ⟨rfl, HX2⟩
  case rest =>
    clear HX c0 c1
    obtain ⟨rfl, HX⟩ := hcut
    obtain ⟨w5, hw5⟩ : ∃ w5, w5 = wc := ⟨_, rfl⟩
    rw [← hw5] at HX ⊢
    clear hw5
    go_upto_region 7 with (fail)
    obtain ⟨c0, c1⟩ := HX.out.bx.cells
    obtain ⟨hlt1, hlt2, hlt3⟩ := HX.out.lt
    have hws := HX.out.bel.size
    go_cut [11, 12] from 43 to 49 (fun p e wc => e = .int .i64 2 ∧ Hid (NX w wc b g gt))
    case first =>
      go_region_held3 (fun w' => w'.cell? ⟨b, 0, none⟩ = some (.slice (some ⟨g, 0, none⟩) 3 3) ∧ w'.cell? ⟨b, 1, none⟩ = some (.slice none 0 0))
        (first | assumption | exact ⟨c0, c1⟩ | exact ⟨hx.bx.cells.1, hx.bx.cells.2⟩ | (refine ⟨?_, ?_⟩ <;> (repeat (first | exact c0 | exact c1 | exact hx.bx.cells.1 | exact hx.bx.cells.2 | refine cell_ald ?_ _ | refine cell_al ?_ _ | refine cell_offd _ (by omega) ?_ | refine cell_off _ (by omega) ?_))))
        (first
          | (go_at_call 12; (with_reducible refine (chg_S1 (X := w5) n5 HX.out).mono ?_); rintro e wx ⟨pa, pn, pc, oa, on_, oc, rfl, hps, hx⟩)
          | (go_at_call 12; (with_reducible refine (chg_S2 (X := w5) n5 HX.out).mono ?_); rintro e wx ⟨⟨pa, pn, pc, oa, on_, oc, rfl, hps, hx⟩, hbx⟩; obtain ⟨j0, j1⟩ := hbx.cells; obtain ⟨f0, k2, f1, ks⟩ := two_st hbx (.slice pa pn pc) (.slice oa on_ oc)))
      all_goals (
        have HX2 := Lib.hid hx
        clear hx hps
        go_wp2_with fail
        go_meet
        refine ⟨rfl, Lib.hid ?_⟩
        first | (with_reducible exact NX.ad HX2.out _) | (with_reducible exact NX.drew (NX.ad HX2.out _)) | (with_reducible refine NX.two HX2.out ?_ ?_ _ _ <;> omega) | (with_reducible refine NX.drew (NX.two HX2.out ?_ ?_ _ _) <;> omega))
    case rest =>
      clear HX c0 c1 hlt1 hlt2 hlt3 hws
      obtain ⟨rfl, HX⟩ := hcut
      obtain ⟨w6, hw6⟩ : ∃ w6, w6 = wc := ⟨_, rfl⟩
      rw [← hw6] at HX ⊢
      clear hw6
      go_upto_region 8 with (fail)
      obtain ⟨c0, c1⟩ := HX.out.bx.cells
      obtain ⟨hlt1, hlt2, hlt3⟩ := HX.out.lt
      have hws := HX.out.bel.size
      go_cut [13, 14] from 50 to 55 (fun p e wc => e = .int .i64 9 ∧ Hid (NX w wc b g gt))
      case first =>
        go_region_held3 (fun w' => w'.cell? ⟨b, 0, none⟩ = some (.slice (some ⟨g, 0, none⟩) 3 3) ∧ w'.cell? ⟨b, 1, none⟩ = some (.slice none 0 0))
          (first | assumption | exact ⟨c0, c1⟩ | exact ⟨hx.bx.cells.1, hx.bx.cells.2⟩ | (refine ⟨?_, ?_⟩ <;> (repeat (first | exact c0 | exact c1 | exact hx.bx.cells.1 | exact hx.bx.cells.2 | refine cell_ald ?_ _ | refine cell_al ?_ _ | refine cell_offd _ (by omega) ?_ | refine cell_off _ (by omega) ?_))))
          (first
            | (go_at_call 12; (with_reducible refine (chg_R1 (X := w6) HFR.out n6 HX.out).mono ?_); rintro e wx ⟨pa, pn, pc, oa, on_, oc, rfl, hps, hx⟩)
            | (go_at_call 12; (with_reducible refine (chg_R2 (X := w6) HFR.out n6 HX.out).mono ?_); rintro e wx ⟨⟨pa, pn, pc, oa, on_, oc, rfl, hps, hx⟩, hbx⟩; obtain ⟨j0, j1⟩ := hbx.cells; obtain ⟨f0, k2, f1, ks⟩ := two_st hbx (.slice pa pn pc) (.slice oa on_ oc))
            | (go_at_call 12; (with_reducible refine (chg_R3 (X := w6) HFR.out n6 HX.out).mono ?_); rintro e wx ⟨⟨pa, pn, pc, oa, on_, oc, rfl, hps, hx⟩, hbx⟩; obtain ⟨j0, j1⟩ := hbx.cells; obtain ⟨f0, k2, f1, ks⟩ := two_st hbx (.slice pa pn pc) (.slice oa on_ oc)))
        all_goals (
          have HX2 := Lib.hid hx
          clear hx hps
          go_wp2_with fail
          go_meet
          refine ⟨rfl, Lib.hid ?_⟩
          first | (with_reducible exact NX.ad HX2.out _) | (with_reducible exact NX.drew (NX.ad HX2.out _)) | (with_reducible refine NX.two HX2.out ?_ ?_ _ _ <;> omega) | (with_reducible refine NX.drew (NX.two HX2.out ?_ ?_ _ _) <;> omega))
      case rest =>
        clear HX c0 c1 hlt1 hlt2 hlt3 hws
        obtain ⟨rfl, HX⟩ := hcut
        obtain ⟨w7, hw7⟩ : ∃ w7, w7 = wc := ⟨_, rfl⟩
        rw [← hw7] at HX ⊢
        clear hw7
        go_upto_region 9 with (fail)
        obtain ⟨c0, c1⟩ := HX.out.bx.cells
        obtain ⟨hlt1, hlt2, hlt3⟩ := HX.out.lt
        have hws := HX.out.bel.size
        go_cut [15, 16] from 56 to 61 (fun p e wc => e = .int .i64 0 ∧ ∃ (xb : Nat) (pa : Option Addr) (pc : Nat) (oa : Option Addr) (on_ oc : Nat), p = .pointer (some ⟨xb, 0, none⟩) ∧ Hid (NX w wc b g gt ∧ CBo wc xb (.slice pa 3 pc) (.slice oa on_ oc) ∧ PS wc (.slice pa 3 pc) [⟨2, 1, 0, z0⟩, ⟨2, 1, 0, z0⟩, ⟨64, 64, 0, z0⟩]))
        case first =>
          go_region_held3 (fun w' => w'.cell? ⟨b, 0, none⟩ = some (.slice (some ⟨g, 0, none⟩) 3 3) ∧ w'.cell? ⟨b, 1, none⟩ = some (.slice none 0 0))
            (first | assumption | exact ⟨c0, c1⟩ | exact ⟨hx.bx.cells.1, hx.bx.cells.2⟩ | (refine ⟨?_, ?_⟩ <;> (repeat (first | exact c0 | exact c1 | exact hx.bx.cells.1 | exact hx.bx.cells.2 | refine cell_ald ?_ _ | refine cell_al ?_ _ | refine cell_offd _ (by omega) ?_ | refine cell_off _ (by omega) ?_))))
            (first
              | (go_at_call 12; (with_reducible refine (chg_R1 (X := w7) HFR.out n7 HX.out).mono ?_); rintro e wx ⟨pa, pn, pc, oa, on_, oc, rfl, hps, hx⟩; have hpn : pn = 3 := (hps rfl).len; subst hpn)
              | (go_at_call 12; (with_reducible refine (chg_R2 (X := w7) HFR.out n7 HX.out).mono ?_); rintro e wx ⟨⟨pa, pn, pc, oa, on_, oc, rfl, hps, hx⟩, hbx⟩; have hpn : pn = 3 := (hps rfl).len; subst hpn; obtain ⟨j0, j1⟩ := hbx.cells; obtain ⟨f0, k2, f1, ks⟩ := two_st hbx (.slice pa 3 pc) (.slice oa on_ oc))
              | (go_at_call 12; (with_reducible refine (chg_R3 (X := w7) HFR.out n7 HX.out).mono ?_); rintro e wx ⟨⟨pa, pn, pc, oa, on_, oc, rfl, hps, hx⟩, hbx⟩; have hpn : pn = 3 := (hps rfl).len; subst hpn; obtain ⟨j0, j1⟩ := hbx.cells; obtain ⟨f0, k2, f1, ks⟩ := two_st hbx (.slice pa 3 pc) (.slice oa on_ oc)))
          all_goals (
            have HX2 := Lib.hid hx
            have HP2 := Lib.hid (hps (by first | rfl | trivial))
            clear hx hps
            go_wp2_with fail
            go_meet
            refine ⟨rfl, _, pa, pc, oa, on_, oc, rfl, Lib.hid ⟨?_, ?_, ?_⟩⟩
            · first | (with_reducible exact NX.ad HX2.out _) | (with_reducible exact NX.drew (NX.ad HX2.out _)) | (with_reducible refine NX.two HX2.out ?_ ?_ _ _ <;> omega) | (with_reducible refine NX.drew (NX.two HX2.out ?_ ?_ _ _) <;> omega)
            · first | exact ks | exact alc0 _ _
            · first | exact HP2.out.cc hbx _ _ | exact HP2.out.below (below_alloc _ _))
        case rest =>
          clear HX c0 c1 hlt1 hlt2 hlt3 hws
          obtain ⟨rfl, xb, pa, pc, oa, on_, oc, rfl, HX⟩ := hcut
          have HH := Lib.hid HX.out.2
          have HB9 := Lib.hid HX.out.1.bel
          clear HX
          go_wp2_with fail
          refine (HT.out _).mono ?_
          rintro e w8 ⟨g2, rfl, hpb, hb, hge⟩
          have HG := Lib.hid hge
          have HB8 := Lib.hid (chn hb (below_alloc w8 (.cells #[.slice (some ⟨g2, 0, none⟩) 3 3, .slice none 0 0] 25)))
          have HP8 := Lib.hid (hpb.below (below_alloc w8 (.cells #[.slice (some ⟨g2, 0, none⟩) 3 3, .slice none 0 0] 25)))
          have HC8 : Hid (CBo (w8.alloc (.cells #[.slice (some ⟨g2, 0, none⟩) 3 3, .slice none 0 0] 25)) w8.heap.size (.slice (some ⟨g2, 0, none⟩) 3 3) (.slice none 0 0)) := alc0 w8 _
          have hgl := lt_of_block hpb
          clear hpb hb HT hge
          go_upto_region 11 with (fail)
          generalize w8.alloc (.cells #[.slice (some ⟨g2, 0, none⟩) 3 3, .slice none 0 0] 25) = W8 at *
          obtain ⟨b17, hb17⟩ : ∃ b, b = w8.heap.size := ⟨_, rfl⟩
          rw [← hb17] at HC8 hgl ⊢
          clear hb17
          have hne : b17 ≠ g2 := by omega
          have HL1 := Lib.hid (lay1 HP8.out HB8.out HG.out HC8.out hne)
          have p0 := HC8.out.cells.1
          have p1 : (W8.alloc (.cells #[.int .i64 4, .int .i64 1, .int .i64 1, .int .i64 0, .int .i64 0, .int .i64 0, .int .i64 0, .int .i64 0] 40)).cell? ⟨g2, 3 + 2, none⟩ = some (.slice none 0 0) := ((HP8.out.below (below_alloc W8 _)).at (i := 1) (by decide)).2.2
          have p2 : (W8.alloc (.cells #[.int .i64 4, .int .i64 1, .int .i64 1, .int .i64 0, .int .i64 0, .int .i64 0, .int .i64 0, .int .i64 0] 40)).frozen? ⟨g2, 3 + 2, none⟩ = false := frozen_of_row _ _ _ _ _ (HP8.out.below (below_alloc W8 _))
          have HT1 : Hid (W8.heap.size ≠ g2) := by have := lt_of_block HP8.out; unfold Hid; omega
          clear HB8 HC8
          go_upto_region 12 with (fail)
          clear p0 p1 p2 HP8
          unfold T1 at HL1
          obtain ⟨t1, ht1⟩ : ∃ t1, t1 = W8.heap.size := ⟨_, rfl⟩
          rw [← ht1] at HL1 HT1 ⊢
          clear ht1
          generalize (W8.alloc (.cells #[.int .i64 4, .int .i64 1, .int .i64 1, .int .i64 0, .int .i64 0, .int .i64 0, .int .i64 0, .int .i64 0] 40)).setCell ⟨g2, 5, none⟩ (.slice (some ⟨t1, 0, none⟩) 1 1) = W9 at *
          obtain ⟨hq1, hq2, hq3, hq4, _⟩ := HL1.out
          have HL2 := Lib.hid (lay2 hq1 hq2 HG.out hq3 HT1.out hq4 hne)
          have p0 := hq4.cells.1
          have p1 : (W9.alloc (.cells #[.int .i64 8, .int .i64 2, .int .i64 1, .int .i64 0, .int .i64 0, .int .i64 0, .int .i64 0, .int .i64 0] 40)).cell? ⟨g2, 6 + 2, none⟩ = some (.slice none 0 0) := ((hq1.below (below_alloc W9 _)).at (i := 2) (by show 2 < 3; decide)).2.2
          have p2 : (W9.alloc (.cells #[.int .i64 8, .int .i64 2, .int .i64 1, .int .i64 0, .int .i64 0, .int .i64 0, .int .i64 0, .int .i64 0] 40)).frozen? ⟨g2, 6 + 2, none⟩ = false := frozen_of_row _ _ _ _ _ (hq1.below (below_alloc W9 _))
          clear hq1 hq2 hq3 hq4 HL1
          go_upto_region 13 with (fail)
          clear p0 p1 p2
          unfold T2 at HL2
          generalize (W9.alloc (.cells #[.int .i64 8, .int .i64 2, .int .i64 1, .int .i64 0, .int .i64 0, .int .i64 0, .int .i64 0, .int .i64 0] 40)).setCell ⟨g2, 8, none⟩ (.slice (some ⟨W9.heap.size, 0, none⟩) 1 1) = W10 at *
          have HX1 := Lib.hid (HH.out.1.below HL2.out.2.1)
          have HX2 := Lib.hid (HH.out.2.below HL2.out.2.1)
          have HBW := Lib.hid (chn HB9.out HL2.out.2.1)
          have HPS := Lib.hid HL2.out.1
          have HCB := Lib.hid HL2.out.2.2
          clear HL2 HH HB9 HG HT1
          obtain ⟨q0, q1⟩ := HCB.out.cells
          go_wp2_with fail
          have HGC : Hid (GC (W10.alloc (.cells #[.bool false, .bool false, .bool false] 4)) (.agg #[.slice (some ⟨g2, 0, none⟩) 3 3, .slice none 0 0]) lp3) := ⟨_, rfl, HPS.out.below (below_alloc W10 _)⟩
          have HBV : Hid (BV (W10.alloc (.cells #[.bool false, .bool false, .bool false] 4)) (.slice (some ⟨W10.heap.size, 0, none⟩) 3 3) [false, false, false]) := bv_of (b := [false, false, false]) (heap_alloc_new W10 _) (by decide)
          refine (chg_fit n8 HGC.out HBV.out).mono ?_
          rintro e w11 ⟨pa4, pn4, pc4, oa4, on4, oc4, rfl, _, hb⟩
          have q := chn (below_alloc W10 (.cells #[.bool false, .bool false, .bool false] 4)) (chn hb (below_alloc w11 (.cells #[.slice pa4 pn4 pc4, .slice oa4 on4 oc4] 25)))
          have HX1' := Lib.hid (HX1.out.below q)
          have HX2' := Lib.hid (HX2.out.below q)
          have HBW' := Lib.hid (chn HBW.out q)
          have HPS' := Lib.hid (HPS.out.below q)
          have HCB' := Lib.hid (HCB.out.below q)
          clear q hb HX1 HX2 HBW HPS HCB HGC HBV q0 q1
          go_wp2_with fail
          refine (HWK.out _).mono ?_
          rintro e w12 ⟨rfl, hb⟩
          obtain ⟨x0, x1⟩ := (HX1'.out.below hb).cells
          obtain ⟨xo, xof, tb, tc, rfl, hpc⟩ := (HX2'.out.below hb).at (i := 2) (by decide)
          have d1 := hpc.c1
          have d1' : w12.cell? ⟨xo, xof + 6 + 1, none⟩ = some (.int .i64 64) := d1
          have HBW2 := Lib.hid (chn HBW'.out hb)
          have HPS2 := Lib.hid (HPS'.out.below hb)
          have HCB2 := Lib.hid (HCB'.out.below hb)
          clear HX1' HX2' HBW' HPS' HCB' hpc d1 hb
          obtain ⟨y0, y1⟩ := HCB2.out.cells
          have HV1 : Hid (BV (w12.alloc (.cells #[.bool true, .bool true, .bool false] 4)) (.slice (some ⟨w12.heap.size, 0, none⟩) 3 3) [true, true, false]) := bv_of (b := [true, true, false]) (heap_alloc_new w12 _) (by decide)
          have HP1 := Lib.hid (HPS2.out.below (below_alloc w12 (.cells #[.bool true, .bool true, .bool false] 4)))
          go_wp2_with fail
          refine (tests_any n9 ⟨_, rfl, HP1.out⟩ HV1.out).mono ?_
          rintro e w13 ⟨rfl, hb⟩
          have hb := chn (below_alloc w12 (.cells #[.bool true, .bool true, .bool false] 4)) hb
          have HBW3 := Lib.hid (chn HBW2.out hb)
          have HPS3 := Lib.hid (HPS2.out.below hb)
          have HCB3 := Lib.hid (HCB2.out.below hb)
          clear HV1 HP1 HBW2 HPS2 HCB2 y0 y1 hb x0 x1 d1'
          obtain ⟨y0, y1⟩ := HCB3.out.cells
          have HV1 : Hid (BV (w13.alloc (.cells #[.bool true, .bool false, .bool true] 4)) (.slice (some ⟨w13.heap.size, 0, none⟩) 3 3) [true, false, true]) := bv_of (b := [true, false, true]) (heap_alloc_new w13 _) (by decide)
          have HP1 := Lib.hid (HPS3.out.below (below_alloc w13 (.cells #[.bool true, .bool false, .bool true] 4)))
          go_wp2_with fail
          refine (tests_any n10 ⟨_, rfl, HP1.out⟩ HV1.out).mono ?_
          rintro e w14 ⟨rfl, hb⟩
          have hb := chn (below_alloc w13 (.cells #[.bool true, .bool false, .bool true] 4)) hb
          have HBW4 := Lib.hid (chn HBW3.out hb)
          have HPS4 := Lib.hid (HPS3.out.below hb)
          have HCB4 := Lib.hid (HCB3.out.below hb)
          clear HV1 HP1 HBW3 HPS3 HCB3 y0 y1 hb
          obtain ⟨y0, y1⟩ := HCB4.out.cells
          have HV1 : Hid (BV (w14.alloc (.cells #[.bool true, .bool false, .bool false] 4)) (.slice (some ⟨w14.heap.size, 0, none⟩) 3 3) [true, false, false]) := bv_of (b := [true, false, false]) (heap_alloc_new w14 _) (by decide)
          have HP1 := Lib.hid (HPS4.out.below (below_alloc w14 (.cells #[.bool true, .bool false, .bool false] 4)))
          go_wp2_with fail
          refine (tests_any n11 ⟨_, rfl, HP1.out⟩ HV1.out).mono ?_
          rintro e w15 ⟨rfl, hb⟩
          have hb := chn (below_alloc w14 (.cells #[.bool true, .bool false, .bool false] 4)) hb
          have HBW5 := Lib.hid (chn HBW4.out hb)
          clear HV1 HP1 HBW4 HPS4 HCB4 y0 y1 hb
          go_wp2_with fail
          go_ret
          exact ⟨rfl, HBW5.out⟩
end Go.Proofs.Ytbdiekolkniajaa
