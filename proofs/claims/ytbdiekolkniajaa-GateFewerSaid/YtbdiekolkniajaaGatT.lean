/- The gate's calls over configurations without ports; the chapter's examples. -/
import Derived.Test.YtbdiekolkniajaaGatL
import Derived.Handy
namespace Go.Proofs.Ytbdiekolkniajaa
open Go.RowKit Tk De Dl Lo Gt
set_option linter.unusedVariables false

/-- a configuration without ports, that can be read -/
def GC (w : World) (v : Value) (ps : List Pn) : Prop := ∃ pv, v = .agg #[pv, .slice none 0 0] ∧ PS w pv ps
theorem GC.o {w : World} {v : Value} {ps : List Pn} (h : GC w v ps) : GCo w v ps none 0 := by
  obtain ⟨pv, rfl, hp⟩ := h
  obtain ⟨a, cap, rfl, _, _⟩ := hp.slice
  exact ⟨a, cap, rfl, hp, Nat.zero_le _, fun _ => rfl⟩
theorem GTest_any {w : World} {v u : Value} {ps : List Pn} {ins : List Bool} (h : GC w v ps) (hb : BV w u ins) : Calls Try.prog 7 #[v, u] w (ThreeR (gtR ps ins) w) := GTest_o h.o hb
theorem GJoin_any {w : World} {v u : Value} {ps : List Pn} {ins : List Bool} (h : GC w v ps) (hb : BV w u ins) (part : Int) : Calls Try.prog 11 #[v, u, .int .i64 part] w (YI (gjR ps ins part) w) := GJoin_o h.o hb part
theorem GChange_any {w : World} {v u : Value} {ps : List Pn} {ins : List Bool} (h : GC w v ps) (hb : BV w u ins) (part per bud : Int) : Calls Try.prog 12 #[v, u, .int .i64 part, .int .i64 per, .int .i64 bud] w (ChgP ps ins part per bud w) := GChange_o h.o hb part per bud
/-! the chapter's partitions -/
def z0 : Nat → Nat → Int := fun _ _ => 0
def tp3 : List Pn := [⟨2, 1, 0, z0⟩, ⟨2, 1, 0, z0⟩, ⟨4, 1, 0, z0⟩]
def tl3 : List (Pn × Value) := [(⟨2, 1, 0, z0⟩, .slice none 0 0), (⟨2, 1, 0, z0⟩, .slice none 0 0), (⟨4, 1, 0, z0⟩, .slice none 0 0)]
theorem tl3_ps {W : World} {g : Nat} (h : PB_ W g tl3) : PS W (.slice (some ⟨g, 0, none⟩) 3 3) tp3 := h.ps (by decide) (fun q hq => by
  simp only [tl3, List.mem_cons, List.not_mem_nil, or_false] at hq
  rcases hq with rfl | rfl | rfl <;> exact ⟨TK.nil _ _, Nat.zero_le _⟩)
def ThrP (w : World) (e : Ending) (w' : World) : Prop := ∃ g, e = .returned (.agg #[.slice (some ⟨g, 0, none⟩) 3 3, .slice none 0 0]) ∧ PB_ w' g tl3 ∧ Below w.heap.size w w'
theorem thr_facts (w W : World) (hW : W = (w.alloc (.cells #[.slice (some ⟨w.heap.size + 1, 0, none⟩) 3 3, .slice none 0 0] 25)).alloc (.cells (pcells tl3).toArray 43)) :
    W.cell? ⟨w.heap.size, 0, none⟩ = some (.slice (some ⟨w.heap.size + 1, 0, none⟩) 3 3) ∧ W.cell? ⟨w.heap.size, 1, none⟩ = some (.slice none 0 0) ∧ PB_ W (w.heap.size + 1) tl3 ∧ Below w.heap.size w W := by
  subst hW
  have h1 : CBo (w.alloc (.cells #[.slice (some ⟨w.heap.size + 1, 0, none⟩) 3 3, .slice none 0 0] 25)) w.heap.size (.slice (some ⟨w.heap.size + 1, 0, none⟩) 3 3) (.slice none 0 0) := heap_alloc_new w _
  have h2 := h1.below (below_alloc _ (.cells (pcells tl3).toArray 43))
  have h3 := heap_alloc_new (w.alloc (.cells #[.slice (some ⟨w.heap.size + 1, 0, none⟩) 3 3, .slice none 0 0] 25)) (.cells (pcells tl3).toArray 43)
  rw [World.size_alloc] at h3
  exact ⟨h2.cells.1, h2.cells.2, h3, chn (below_alloc w _) (below_alloc _ _)⟩
theorem three_any (w : World) : Calls Try.prog 10 #[] w (ThrP w) := by
  go_enter Try.func10, Try.ntmps10
  go_wp2_with fail
  obtain ⟨e0, e1, h2, h3⟩ := thr_facts w _ rfl
  unfold tl3 at e0 e1 h2 h3
  simp only [pcells] at e0 e1 h3
  refine bodyPost_ret (v := .agg #[.slice (some ⟨w.heap.size + 1, 0, none⟩) 3 3, .slice none 0 0]) (by simp [results, Try.results10, go_sem, e0, e1]) rfl ?_
  exact ⟨_, rfl, h2, h3⟩
theorem g1 : gcE tp3 [true, true, false] 1 4 2 = 0 := by decide
theorem g2 : gcE tp3 [true, true, false] 1 4 3 = 120 := by decide
theorem g3 : gcE tp3 [true, true, false] 1 4 5 = 50 := by decide
theorem g4 : gtR tp3 [true, true, false] = (-1, 0, 0) := by decide
theorem g5 : gtR tp3 [true, true, true] = (-1, 0, 120) := by decide
theorem g6 : gjR tp3 [true, false, false] 2 = 0 := by decide
theorem g7 : gjR tp3 [true, true, false] 2 = 120 := by decide
theorem g8 : gjR tp3 [true, true, false] 3 = 9 := by decide
/-- what the examples stand on -/
structure XS (w W : World) (b g gt : Nat) : Prop where
  bx : CBo W b (.slice (some ⟨g, 0, none⟩) 3 3) (.slice none 0 0)
  pb : PB_ W g tl3
  tw : W.heap[gt]? = some (.cells #[.bool true, .bool true, .bool false] 4 (0, 0))
  bel : Below w.heap.size w W
theorem XS.below {w W W' : World} {b g gt : Nat} (h : XS w W b g gt) (q : Below W.heap.size W W') : XS w W' b g gt := ⟨h.bx.below q, h.pb.below q, (q.block _ (lt_of_block h.tw)).trans h.tw, chn h.bel q⟩
theorem XS.gc {w W : World} {b g gt : Nat} (h : XS w W b g gt) : GC W (.agg #[.slice (some ⟨g, 0, none⟩) 3 3, .slice none 0 0]) tp3 := ⟨_, rfl, tl3_ps h.pb⟩
theorem XS.bv {w W : World} {b g gt : Nat} (h : XS w W b g gt) : BV W (.slice (some ⟨gt, 0, none⟩) 3 3) [true, true, false] := bv_of (b := [true, true, false]) h.tw (by decide)
theorem chg_fit {w : World} {v u : Value} {ps : List Pn} {ins : List Bool} {part per bud r : Int} (hr : gcE ps ins part per bud = r) (h : GC w v ps) (hb : BV w u ins) : Calls Try.prog 12 #[v, u, .int .i64 part, .int .i64 per, .int .i64 bud] w (fun e w' => ∃ pa pn pc oa on_ oc, e = .returned (.tuple #[.agg #[.slice pa pn pc, .slice oa on_ oc], .int .i64 r]) ∧ (r = 0 → PS w' (.slice pa pn pc) (chg ps part.toNat per bud)) ∧ Below w.heap.size w w') := by
  subst hr
  exact GChange_any h hb part per bud
theorem join_fit {w : World} {v u : Value} {ps : List Pn} {ins : List Bool} {part r : Int} (hr : gjR ps ins part = r) (h : GC w v ps) (hb : BV w u ins) : Calls Try.prog 11 #[v, u, .int .i64 part] w (YI r w) := by
  subst hr
  exact GJoin_any h hb part
theorem test_fit {w : World} {v u : Value} {ps : List Pn} {ins : List Bool} {a b e : Int} (hr : gtR ps ins = (a, b, e)) (h : GC w v ps) (hb : BV w u ins) : Calls Try.prog 7 #[v, u] w (fun x w' => x = .returned (.tuple #[.int .i64 a, .int .i64 b, .int .i64 e]) ∧ Below w.heap.size w w') := by
  have := GTest_any h hb
  rw [hr] at this
  exact this
theorem tests_any {w : World} {v u : Value} {ps : List Pn} {ins : List Bool} {a b e : Int} (hr : gtR ps ins = (a, b, e)) (h : GC w v ps) (hb : BV w u ins) : Calls Try.prog 13 #[v, u, .int .i64 a, .int .i64 b, .int .i64 e] w (YB true w) := by
  have HT := Lib.hid (fun w' (q : Below w.heap.size w w') => test_fit hr (show GC w' v ps by obtain ⟨pv, e1, hp⟩ := h; exact ⟨pv, e1, hp.below q⟩) (hb.below q))
  obtain ⟨pv, rfl, hp⟩ := h
  obtain ⟨pa, pc, rfl, _, _⟩ := hp.slice
  obtain ⟨bp, bc, rfl, _, _⟩ := hb.slice
  have HA := Lib.hid (below_alloc w (.cells #[.slice pa ps.length pc, .slice none 0 0] 25))
  generalize ps.length = n at *
  generalize ins.length = b0 at *
  clear hp hb hr
  go_enter Try.func13, Try.ntmps13
  go_wp2_with fail
  refine (HT.out _ HA.out).mono ?_
  rintro e1 w1 ⟨rfl, hb⟩
  have HB := Lib.hid (chn HA.out hb)
  clear hb
  go_wp2_with fail
  go_ret
  exact ⟨rfl, HB.out⟩
/-- .. and on what was changed -/
structure XT (w W : World) (b g gt bx : Nat) (pa : Option Addr) (pn pc : Nat) (oa : Option Addr) (on_ oc : Nat) : Prop where
  xs : XS w W b g gt
  cx : CBo W bx (.slice pa pn pc) (.slice oa on_ oc)
  ps : PS W (.slice pa pn pc) [⟨2, 1, 0, z0⟩, ⟨4, 2, 0, z0⟩, ⟨4, 1, 0, z0⟩]
theorem XT.below {w W W' : World} {b g gt bx : Nat} {pa : Option Addr} {pn pc : Nat} {oa : Option Addr} {on_ oc : Nat} (h : XT w W b g gt bx pa pn pc oa on_ oc) (q : Below W.heap.size W W') : XT w W' b g gt bx pa pn pc oa on_ oc := ⟨h.xs.below q, h.cx.below q, h.ps.below q⟩
set_option maxRecDepth 100000 in
set_option maxHeartbeats 4000000 in
theorem works_any (w : World) : Calls Try.prog 9 #[] w (YB true w) := by
  have HT := Lib.hid (three_any w)
  unfold ThrP at HT
  go_enter Try.func9, Try.ntmps9
  go_wp2_with fail
  refine HT.out.mono ?_
  rintro e w1 ⟨g, rfl, hpb, hb⟩
  obtain ⟨b, hbb⟩ : ∃ b, b = w1.heap.size := ⟨_, rfl⟩
  have HX : Hid (XS w ((w1.alloc (.cells #[.slice (some ⟨g, 0, none⟩) 3 3, .slice none 0 0] 25)).alloc (.cells #[.bool true, .bool true, .bool false] 4)) b g (b + 1)) := by
    have h1 := heap_alloc_new w1 (.cells #[.slice (some ⟨g, 0, none⟩) 3 3, .slice none 0 0] 25)
    have h2 := heap_alloc_new (w1.alloc (.cells #[.slice (some ⟨g, 0, none⟩) 3 3, .slice none 0 0] 25)) (.cells #[.bool true, .bool true, .bool false] 4)
    rw [World.size_alloc, ← hbb] at h2
    rw [← hbb] at h1
    have q1 := below_alloc w1 (.cells #[.slice (some ⟨g, 0, none⟩) 3 3, .slice none 0 0] 25)
    have q2 := below_alloc (w1.alloc (.cells #[.slice (some ⟨g, 0, none⟩) 3 3, .slice none 0 0] 25)) (.cells #[.bool true, .bool true, .bool false] 4)
    exact ⟨(q2.block _ (lt_of_block h1)).trans h1, (hpb.below q1).below q2, h2, chn (chn hb q1) q2⟩
  have HBB := Lib.hid hbb
  obtain ⟨c0, c1⟩ := HX.out.bx.cells
  clear hpb hb HT
  go_wp2_with fail
  rw [← hbb]
  clear hbb
  generalize (w1.alloc (.cells #[.slice (some ⟨g, 0, none⟩) 3 3, .slice none 0 0] 25)).alloc (.cells #[.bool true, .bool true, .bool false] 4) = W0 at *
  refine (chg_fit g1 HX.out.gc HX.out.bv).mono ?_
  rintro e w2 ⟨pa, pn, pc, oa, on_, oc, rfl, hps, hb⟩
  obtain ⟨bx, hbx⟩ : ∃ b, b = w2.heap.size := ⟨_, rfl⟩
  have HT2 : Hid (XT w (w2.alloc (.cells #[.slice pa pn pc, .slice oa on_ oc] 25)) b g (b + 1) bx pa pn pc oa on_ oc) := by
    have q := below_alloc w2 (.cells #[.slice pa pn pc, .slice oa on_ oc] 25)
    exact ⟨(HX.out.below hb).below q, by rw [hbx]; exact heap_alloc_new w2 _, (hps rfl).below q⟩
  have hpn : pn = 3 := (hps rfl).len
  subst hpn
  obtain ⟨c0, c1⟩ := HT2.out.xs.bx.cells
  have HBX := Lib.hid hbx
  clear hps hb HX
  go_wp2_with fail
  rw [← hbx]
  clear hbx
  generalize w2.alloc (.cells #[.slice pa 3 pc, .slice oa on_ oc] 25) = W2 at *
  refine (chg_fit g2 HT2.out.xs.gc HT2.out.xs.bv).mono ?_
  rintro e w3 ⟨pa3, pn3, pc3, oa3, on3, oc3, rfl, _, hb⟩
  have HT3 : Hid (XT w (w3.alloc (.cells #[.slice pa3 pn3 pc3, .slice oa3 on3 oc3] 25)) b g (b + 1) bx pa 3 pc oa on_ oc) := (HT2.out.below hb).below (below_alloc w3 _)
  obtain ⟨c0, c1⟩ := HT3.out.xs.bx.cells
  clear hb HT2
  go_wp2_with fail
  refine (chg_fit g3 HT3.out.xs.gc HT3.out.xs.bv).mono ?_
  rintro e w4 ⟨pa4, pn4, pc4, oa4, on4, oc4, rfl, _, hb⟩
  have HT4 : Hid (XT w (w4.alloc (.cells #[.slice pa4 pn4 pc4, .slice oa4 on4 oc4] 25)) b g (b + 1) bx pa 3 pc oa on_ oc) := (HT3.out.below hb).below (below_alloc w4 _)
  obtain ⟨c0, c1⟩ := HT4.out.xs.bx.cells
  obtain ⟨x0, x1⟩ := HT4.out.cx.cells
  obtain ⟨xb, xo, ta, tc, rfl, hpc⟩ := HT4.out.ps.at (i := 1) (by decide)
  have d0 := hpc.c0
  have d1 := hpc.c1
  have d0' : (w4.alloc (.cells #[.slice pa4 pn4 pc4, .slice oa4 on4 oc4] 25)).cell? ⟨xb, xo + 3, none⟩ = some (.int .i64 4) := d0
  have d1' : (w4.alloc (.cells #[.slice pa4 pn4 pc4, .slice oa4 on4 oc4] 25)).cell? ⟨xb, xo + 3 + 1, none⟩ = some (.int .i64 2) := d1
  clear hb HT3 hpc d0 d1
  go_wp2_with fail
  have HS4 := Lib.hid HT4.out.xs
  clear x0 x1 d0' d1' HT4
  refine (tests_any g4 HS4.out.gc HS4.out.bv).mono ?_
  rintro e w5 ⟨rfl, hb⟩
  have HS5 : Hid (XS w (w5.alloc (.cells #[.bool true, .bool true, .bool true] 4)) b g (b + 1)) := (HS4.out.below hb).below (below_alloc w5 _)
  have HS5x := Lib.hid (HS4.out.below hb)
  obtain ⟨c0, c1⟩ := HS5x.out.bx.cells
  have HV5 : Hid (BV (w5.alloc (.cells #[.bool true, .bool true, .bool true] 4)) (.slice (some ⟨w5.heap.size, 0, none⟩) 3 3) [true, true, true]) := bv_of (b := [true, true, true]) (heap_alloc_new w5 _) (by decide)
  clear hb HS4
  go_wp2_with fail
  refine (tests_any g5 HS5.out.gc HV5.out).mono ?_
  rintro e w6 ⟨rfl, hb⟩
  have HS6 : Hid (XS w (w6.alloc (.cells #[.bool true, .bool false, .bool false] 4)) b g (b + 1)) := (HS5.out.below hb).below (below_alloc w6 _)
  have HS6x := Lib.hid (HS5.out.below hb)
  obtain ⟨c0, c1⟩ := HS6x.out.bx.cells
  have HV6 : Hid (BV (w6.alloc (.cells #[.bool true, .bool false, .bool false] 4)) (.slice (some ⟨w6.heap.size, 0, none⟩) 3 3) [true, false, false]) := bv_of (b := [true, false, false]) (heap_alloc_new w6 _) (by decide)
  clear hb HS5 HS5x HV5
  go_wp2_with fail
  refine (join_fit g6 HS6.out.gc HV6.out).mono ?_
  rintro e w7 ⟨rfl, hb⟩
  have HS7 := Lib.hid (HS6.out.below hb)
  obtain ⟨c0, c1⟩ := HS7.out.bx.cells
  clear hb HS6 HS6x HV6
  go_wp2_with fail
  refine (join_fit g7 HS7.out.gc HS7.out.bv).mono ?_
  rintro e w8 ⟨rfl, hb⟩
  have HS8 := Lib.hid (HS7.out.below hb)
  obtain ⟨c0, c1⟩ := HS8.out.bx.cells
  clear hb HS7
  go_wp2_with fail
  refine (join_fit g8 HS8.out.gc HS8.out.bv).mono ?_
  rintro e w9 ⟨rfl, hb⟩
  have HS9 := Lib.hid (HS8.out.below hb)
  clear hb HS8
  go_wp2_with fail
  go_ret
  exact ⟨rfl, HS9.out.bel⟩
end Go.Proofs.Ytbdiekolkniajaa
