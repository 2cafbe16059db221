/- Waits, the program's: the iterator over those that share, the sum over it. -/
import Derived.Test.YthhdfmpoebedcaaDelB
import Derived.RangeFuncNested
import Derived.RangeFuncBound
import Derived.RangeFuncCalls
import Derived.RangeFuncLeaves
import Derived.Shelf.Abstract
import Derived.Shelf.RegionOpen
import Derived.WalkKit
import Derived.OwnWalkIn
import Derived.TacticsInMore
import Derived.LoopNIn
import Derived.LoopIn
namespace Go.Proofs.Ythhdfmpoebedcaa
open Go.RowKit Go.Shelf Tk De Dl
set_option linter.unusedVariables false
attribute [local go_sem] Oper.semAt_some

/-- a partition that is handed to a round: its period is one that may be -/
structure Pv where
  per : Int
  bud : Int
  a : Option Addr
  n : Nat
  cap : Nat
  p1 : 1 ≤ per
  p2 : per ≤ 64
def Pv.enc (x : Pv) : Array Value := #[.agg #[.int .i64 x.per, .int .i64 x.bud, .slice x.a x.n x.cap]]
/-- what they add to a wait -/
def tw (l : List Pv) : Int := (l.map fun x => 2 * x.per).sum
theorem tw_snoc (l : List Pv) (x : Pv) : tw (l ++ [x]) = tw l + 2 * x.per := by simp [tw]
theorem tw_bd : ∀ l : List Pv, 0 ≤ tw l ∧ tw l ≤ 128 * l.length
  | [] => by simp [tw]
  | x :: r => by
    have h1 := tw_bd r
    have h2 := x.p1; have h3 := x.p2
    have : tw (x :: r) = 2 * x.per + tw r := rfl
    rw [this, List.length_cons]
    omega
theorem grown_of_below {A B : World} (h : Below A.heap.size A B) : A.grownBy B none := ⟨h.os, h.tape, h.output, h.size, fun k hk _ => h.block k hk⟩
/-- the two boxes that the iterator has captured -/
structure Cap (W : World) (Bo Bg : Nat) (a : Option Addr) (m cap q : Nat) (g : Int) : Prop where
  o : W.heap[Bo]? = some (.cells #[.slice a m cap, .int .i64 q] 80 (0, 0))
  g : W.heap[Bg]? = some (.cells #[.int .i64 g] 3 (0, 0))
theorem Cap.c0 {W : World} {Bo Bg : Nat} {a : Option Addr} {m cap q : Nat} {g : Int} (h : Cap W Bo Bg a m cap q g) : W.cell? ⟨Bo, 0, none⟩ = some (.slice a m cap) := cell_of_row _ _ 0 _ _ _ h.o
theorem Cap.c1 {W : World} {Bo Bg : Nat} {a : Option Addr} {m cap q : Nat} {g : Int} (h : Cap W Bo Bg a m cap q g) : W.cell? ⟨Bo, 1, none⟩ = some (.int .i64 q) := cell_of_row _ _ 1 _ _ _ h.o
theorem Cap.c2 {W : World} {Bo Bg : Nat} {a : Option Addr} {m cap q : Nat} {g : Int} (h : Cap W Bo Bg a m cap q g) : W.cell? ⟨Bg, 0, none⟩ = some (.int .i64 g) := cell_of_row _ _ 0 _ _ _ h.g
/-- what a round keeps -/
def Kx (B Bo Bg : Nat) (W W' : World) : Prop := Below B W W' ∧ W'.heap[Bo]? = W.heap[Bo]? ∧ W'.heap[Bg]? = W.heap[Bg]?
theorem Kx.t {B Bo Bg : Nat} {X Y Z : World} (h : Kx B Bo Bg X Y) (k : Kx B Bo Bg Y Z) : Kx B Bo Bg X Z := ⟨h.1.trans k.1, k.2.1.trans h.2.1, k.2.2.trans h.2.2⟩
theorem Kx.b {B Bo Bg : Nat} {w : World} (hB : B ≤ w.heap.size) (h1 : Bo < w.heap.size) (h2 : Bg < w.heap.size) (W : World) (l : Nat) (o o' : Obj) (hl : w.heap.size ≤ l) (h : W.heap[l]? = some o) (hc : o.isCells = false) (hw : o.isWalk = false) : Kx B Bo Bg W (W.putObj l o') :=
  ⟨belowK_b hB W l o o' hl h hc hw, World.putObj_heap_other (by omega), World.putObj_heap_other (by omega)⟩
theorem Kx.below {B Bo Bg : Nat} {W W' : World} (h : Below W.heap.size W W') (hB : B ≤ W.heap.size) (h1 : Bo < W.heap.size) (h2 : Bg < W.heap.size) : Kx B Bo Bg W W' := ⟨h.mono hB, h.block _ h1, h.block _ h2⟩
theorem Cap.kept {W W' : World} {B Bo Bg : Nat} {a : Option Addr} {m cap q : Nat} {g : Int} (h : Cap W Bo Bg a m cap q g) (k : Kx B Bo Bg W W') : Cap W' Bo Bg a m cap q g := ⟨k.2.1.trans h.o, k.2.2.trans h.g⟩
theorem Cap.lt {W : World} {Bo Bg : Nat} {a : Option Addr} {m cap q : Nat} {g : Int} (h : Cap W Bo Bg a m cap q g) : Bo < W.heap.size ∧ Bg < W.heap.size := ⟨lt_of_block h.o, lt_of_block h.g⟩
theorem wt_skip {ps : List Pn} {q k : Nat} {g : Int} (h : k = q ∨ uses (ps.getD k p0) g = false) : wt ps q g (k + 1) = wt ps q g k := by
  have hn : ¬ (0 < g ∧ k ≠ q ∧ uses (ps.getD k p0) g = true) := fun hc => by
    rcases h with h | h
    · exact hc.2.1 h
    · rw [h] at hc; exact absurd hc.2.2 (by decide)
  rw [wt, add1, if_neg hn, Int.add_zero]
theorem wt_take {ps : List Pn} {q k : Nat} {g : Int} (hg : 0 < g) (h1 : k ≠ q) (h2 : uses (ps.getD k p0) g = true) : wt ps q g (k + 1) = wt ps q g k + 2 * (ps.getD k p0).per := by
  rw [wt, add1, if_pos ⟨hg, h1, h2⟩]

set_option maxRecDepth 100000 in
set_option maxHeartbeats 4000000 in
/-- the iterator's walk -/
theorem shar1_in {n : Nat} (hn : 1 ≤ n) {w : World} (l Bo Bg : Nat) {a : Option Addr} {m cap q : Nat} {g : Int} {ps : List Pn} (hg : 0 < g) (hP : PS w (.slice a m cap) ps) (hok : chkP ps = true) (J Jx : List Pv → World → Prop)
    (W : World) (hW : Below w.heap.size w W) (hJ : AbidesFrom W.heap.size J) (hC : Cap W Bo Bg a m cap q g)
    (hY : ∀ pre x W1, J pre W1 → pre.length < m → YieldAt Fence.wide (n - 1) Try.prog l x.enc W1 fun e W' =>
      (e = .returned (.bool true) ∧ J (pre ++ [x]) W' ∧ Kx w.heap.size Bo Bg W1 W') ∨ (e = .returned (.bool false) ∧ Jx (pre ++ [x]) W'))
    (h0 : J [] W) :
    CallsIn Fence.wide n Try.prog 73 #[.func (.yield l) #[] #[], .pointer (some ⟨Bo, 0, none⟩), .pointer (some ⟨Bg, 0, none⟩)] W fun e W' => (∃ v, e = .returned v) ∧
      ((∃ xs, tw xs = wt ps q g m ∧ J xs W') ∨ (∃ pre, True ∧ Jx pre W')) := by
  have HP := Lib.hid hP; have HW := Lib.hid hW; have HC := Lib.hid hC; have HY := Lib.hid hY; have HJ := Lib.hid hJ; have H0 := Lib.hid h0
  have HOK := Lib.hid hok
  have hml := hP.len
  have HML := Lib.hid hml
  have hmx : m ≤ 9223372036854775807 := by have := chkP_len hok; omega
  have c0 := hC.c0
  clear hP hW hC hY hJ h0 hok hml
  refine callsIn_of_wp Try.func73 rfl trivial ?_ rfl
  simp only [Try.ntmps73, List.size_toArray, List.length_cons, List.length_nil, Nat.reduceAdd, Nat.reduceSub, Array.replicate_succ, Array.replicate_zero, List.push_toArray, List.append_toArray, List.nil_append, List.cons_append]
  gi_wp2
  clear c0
  gi_loopw [9] (fun i wr => ∃ (k : Nat) (pre : List Pv), k ≤ m ∧ i = .int .i64 k ∧ Hid (pre.length ≤ k) ∧ Hid (tw pre = wt ps q g k) ∧ Hid (J pre wr) ∧ Hid (Kx w.heap.size Bo Bg W wr) ∧ Hid (W.heap.size ≤ wr.heap.size)) (fun i _ => m - (intOf i).toNat)
  case atStart => exact ⟨0, [], Nat.zero_le _, rfl, Nat.le_refl _, rfl, H0.out, ⟨Below.refl _ _, rfl, rfl⟩, Nat.le_refl _⟩
  case round =>
    obtain ⟨k, pre, hk, rfl, HL, HT, HJS, HK, HS⟩ := hrel
    by_cases hlt : k < m
    · have HCW := Lib.hid (HC.out.kept HK.out)
      have c1 := HCW.out.c1
      obtain ⟨b, off, ta, tcap, rfl, d0, d1, d2, hT, l1, l2, l3⟩ := (HP.out.below (HW.out.trans HK.out.1)).at hlt
      have hpb := chkP_at HOK.out (i := k) (by rw [← HML.out]; exact hlt)
      have HSK : Hid (k = q ∨ uses (ps.getD k p0) g = false → wt ps q g (k + 1) = wt ps q g k) := wt_skip
      have HTA : Hid (k ≠ q → uses (ps.getD k p0) g = true → wt ps q g (k + 1) = wt ps q g k + 2 * (ps.getD k p0).per) := wt_take hg
      obtain ⟨p, hp⟩ : ∃ p, p = ps.getD k p0 := ⟨_, rfl⟩
      rw [← hp] at d0 d1 d2 hT l1 l3 hpb HSK HTA
      have hp1 := hpb.p1; have hp2 := hpb.p2
      clear hp hpb
      obtain ⟨per, bud, pn, z⟩ := p
      dsimp only [uses] at d0 d1 d2 hT l1 l3 hp1 hp2 HSK HTA
      have HKB := Lib.hid (KB.made wr per bud ta pn tcap)
      have HCB := Lib.hid (HCW.out.kept (Kx.below HKB.out.b (Nat.le_trans HW.out.size HS.out) HCW.out.lt.1 HCW.out.lt.2))
      have e2 := HKB.out.c2
      have e1 := HCB.out.c1
      have eg := HCB.out.c2
      have HTK := Lib.hid hT
      unfold pvo at HKB HCB e2 e1 eg
      clear hT
      by_cases hq : k = q
      · have hne : ((k : Int) != (q : Int)) = false := by simp; omega
        have HE : Hid (tw pre = wt ps q g (k + 1)) := HT.out.trans (HSK.out (Or.inl hq)).symm
        have HJ2 : Hid (J pre (wr.alloc (.cells #[.int .i64 per, .int .i64 bud, .slice ta pn tcap] 33))) := HJ.out _ _ _ none HJS.out (grown_of_below HKB.out.b) (fun r e => by cases e)
        have HK2 : Hid (Kx w.heap.size Bo Bg W (wr.alloc (.cells #[.int .i64 per, .int .i64 bud, .slice ta pn tcap] 33))) := HK.out.t (Kx.below HKB.out.b (Nat.le_trans HW.out.size HS.out) HCW.out.lt.1 HCW.out.lt.2)
        have HS2 := Lib.hid (Nat.le_trans HS.out HKB.out.b.size)
        clear hq HSK HTA HCW HK HJS HT HS
        gi_wp2
        refine ⟨trivial, ?_⟩
        gi_wp2
        refine ⟨fun _ h => (by cases h), ?_⟩
        gi_wp2
        go_roundw
        case rel => exact ⟨k + 1, pre, by omega, by go_num, Nat.le_succ_of_le HL.out, HE.out, HJ2.out, HK2.out, HS2.out⟩
        case measure => simp [intOf]; omega
      · have hne : ((k : Int) != (q : Int)) = true := by simp; omega
        cases hu : usesN z g pn with
        | false =>
          have HE : Hid (tw pre = wt ps q g (k + 1)) := HT.out.trans (HSK.out (Or.inr hu)).symm
          have HH := Lib.hid (has_any (HTK.out.below HKB.out.b) g)
          rw [hu] at HH
          clear hq hu HSK HTA
          gi_wp2_with (refine ⟨trivial, ?_⟩; gi_at_call 74; refine (callsIn_wide.2 HH.out).mono ?_; rintro e w2 ⟨rfl, hb⟩)
          have hkb := HKB.out.below hb
          have HJ2 : Hid (J pre w2) := HJ.out _ _ _ none HJS.out (grown_of_below hkb.b) (fun r e => by cases e)
          have HK2 : Hid (Kx w.heap.size Bo Bg W w2) := HK.out.t (Kx.below hkb.b (Nat.le_trans HW.out.size HS.out) HCW.out.lt.1 HCW.out.lt.2)
          have HS2 := Lib.hid (Nat.le_trans HS.out hkb.b.size)
          clear HCW HK HJS HT HS hb hkb
          refine ⟨fun _ h => (by cases h), ?_⟩
          gi_wp2
          go_roundw
          case rel => exact ⟨k + 1, pre, by omega, by go_num, Nat.le_succ_of_le HL.out, HE.out, HJ2.out, HK2.out, HS2.out⟩
          case measure => simp [intOf]; omega
        | true =>
          have HE : Hid (tw (pre ++ [⟨per, bud, ta, pn, tcap, hp1, hp2⟩]) = wt ps q g (k + 1)) := by
            unfold Hid; rw [tw_snoc, HTA.out hq hu, HT.out]
          have HH := Lib.hid (has_any (HTK.out.below HKB.out.b) g)
          rw [hu] at HH
          clear hq hu HSK HTA
          gi_wp2_with (refine ⟨trivial, ?_⟩; gi_at_call 74; refine (callsIn_wide.2 HH.out).mono ?_; rintro e w2 ⟨rfl, hb⟩; have HKB2 := Lib.hid (HKB.out.below hb); have f0 := HKB2.out.c0; have f1 := HKB2.out.c1; have f2 := HKB2.out.c2; clear hb; obtain ⟨fn, tmps, assign, body, hy, hR⟩ := HY.out pre ⟨per, bud, ta, pn, tcap, hp1, hp2⟩ w2 (HJ.out _ _ _ none HJS.out (grown_of_below HKB2.out.b) (fun r e => by cases e)) (Nat.lt_of_le_of_lt HL.out hlt); dsimp only [Pv.enc] at hy)
          have HK2 : Hid (Kx w.heap.size Bo Bg W w2) := HK.out.t (Kx.below HKB2.out.b (Nat.le_trans HW.out.size HS.out) HCW.out.lt.1 HCW.out.lt.2)
          have HS2 := Lib.hid (Nat.le_trans HS.out HKB2.out.b.size)
          have HL2 := Lib.hid (Nat.succ_le_succ HL.out)
          clear hy f0 f1 f2 HCW HK HJS HT HS HL
          refine hR.mono ?_
          rintro e W3 (⟨rfl, hJ3, hk3⟩ | ⟨rfl, hJx3⟩)
          · have HJ3 := Lib.hid hJ3
            have HK3 := Lib.hid (HK2.out.t hk3)
            have HS3 := Lib.hid (Nat.le_trans HS2.out hk3.1.size)
            clear hJ3 hk3 hR HKB2 HK2 HS2
            gi_wp2
            go_roundw
            case rel => exact ⟨k + 1, _, by omega, by go_num, by unfold Hid; rw [List.length_append]; exact HL2.out, HE.out, HJ3.out, HK3.out, HS3.out⟩
            case measure => simp [intOf]; omega
          · have HX := Lib.hid hJx3
            clear hJx3 hR HKB2 HK2 HS2
            gi_wp2
            refine bodyPost_ret (results_none rfl _ _ _) rfl ?_
            exact ⟨⟨_, rfl⟩, .inr ⟨_, trivial, HX.out⟩⟩
    · obtain rfl : k = m := by omega
      gi_wp2
      go_end0
      exact ⟨⟨_, rfl⟩, .inl ⟨pre, HT.out, HJS.out⟩⟩
/-- its contract -/
theorem shar_stops {n : Nat} (hn : 1 ≤ n) {w : World} {Bo Bg : Nat} {a : Option Addr} {m cap q : Nat} {g : Int} {ps : List Pn} (hg : 0 < g) (hP : PS w (.slice a m cap) ps) (hok : chkP ps = true)
    (W0 : World) (hW : Below w.heap.size w W0) (hC : Cap W0 Bo Bg a m cap q g) :
    SeqStopsK Fence.wide n Try.prog 73 #[.pointer (some ⟨Bo, 0, none⟩), .pointer (some ⟨Bg, 0, none⟩)] Pv.enc (Kx w.heap.size Bo Bg) (fun xs => tw xs = wt ps q g m) (fun _ => True) m W0 :=
  fun l J Jx W hWW hJ _ hY h0 => shar1_in hn l Bo Bg hg hP hok J Jx W (hW.trans (hWW.mono hW.size)) hJ (hC.kept ⟨hWW.mono hW.size, hWW.block _ hC.lt.1, hWW.block _ hC.lt.2⟩) hY h0
/-- sharing: two boxes, one function that has captured them -/
theorem shar_in {n : Nat} (a : Option Addr) (m cap : Nat) (q g : Int) (w : World) : CallsIn Fence.wide n Try.prog 65 #[.agg #[.slice a m cap, .int .i64 q], .int .i64 g] w fun e w' =>
    e = .returned (.func (.func 73) #[] #[.pointer (some ⟨w.heap.size, 0, none⟩), .pointer (some ⟨w.heap.size + 1, 0, none⟩)]) ∧ w' = (w.alloc (.cells #[.slice a m cap, .int .i64 q] 80)).alloc (.cells #[.int .i64 g] 3) := by
  refine callsIn_of_wp Try.func65 rfl trivial ?_ rfl
  simp only [Try.ntmps65, List.size_toArray, List.length_cons, List.length_nil, Nat.reduceAdd, Nat.reduceSub, Array.replicate_succ, Array.replicate_zero, List.push_toArray, List.append_toArray, List.nil_append, List.cons_append]
  gi_wp2
  go_ret
  exact ⟨rfl, rfl⟩
/-- a partition that is looked at, by value, and its box -/
abbrev lv (per bud : Int) (ta : Option Addr) (n tcap : Nat) (a : Option Addr) (m cap : Nat) (q : Int) : Value := .agg #[.int .i64 per, .int .i64 bud, .slice ta n tcap, .slice a m cap, .int .i64 q]
def lvo (per bud : Int) (ta : Option Addr) (n tcap : Nat) (a : Option Addr) (m cap : Nat) (q : Int) : Obj := .cells #[.int .i64 per, .int .i64 bud, .slice ta n tcap, .slice a m cap, .int .i64 q] 82
/-- the world at the loop's head -/
theorem wait_start (w : World) (per bud : Int) (ta : Option Addr) (n tcap : Nat) (a : Option Addr) (m cap q : Nat) (t : Nat → Int) (W0 : World)
    (h : W0 = ((((w.alloc (lvo per bud ta n tcap a m cap q)).alloc (tko t)).alloc (.cells #[.int .i64 0] 3)).alloc (.cells #[.slice a m cap, .int .i64 q] 80)).alloc (.cells #[.int .i64 (t 5)] 3)) :
    Boxed W0 (w.heap.size + 1 + 1) 3 (.int .i64 0) ∧ Cap W0 (w.heap.size + 1 + 1 + 1) (w.heap.size + 1 + 1 + 1 + 1) a m cap q (t 5) ∧ Below w.heap.size w W0 ∧ W0.heap.size = w.heap.size + 5 := by
  subst h
  have bS := ((Boxed.new ((w.alloc (lvo per bud ta n tcap a m cap q)).alloc (tko t)) 3 (.int .i64 0)).alloc (.cells #[.slice a m cap, .int .i64 q] 80)).alloc (.cells #[.int .i64 (t 5)] 3)
  have bO := heap_alloc_new (((w.alloc (lvo per bud ta n tcap a m cap q)).alloc (tko t)).alloc (.cells #[.int .i64 0] 3)) (.cells #[.slice a m cap, .int .i64 q] 80)
  have bO2 := (Below.heap_alloc _ (.cells #[.int .i64 (t 5)] 3) _ (lt_of_block bO)).trans bO
  have bG := heap_alloc_new ((((w.alloc (lvo per bud ta n tcap a m cap q)).alloc (tko t)).alloc (.cells #[.int .i64 0] 3)).alloc (.cells #[.slice a m cap, .int .i64 q] 80)) (.cells #[.int .i64 (t 5)] 3)
  simp only [World.size_alloc] at bS bO2 bG
  refine ⟨bS, ⟨bO2, bG⟩, (((((Below.refl _ w).alloc (Nat.le_refl _) _).alloc (by simp) _).alloc (by simp; omega) _).alloc (by simp; omega) _).alloc (by simp; omega) _, by simp⟩
set_option maxRecDepth 100000 in
set_option maxHeartbeats 4000000 in
theorem wait_any {w : World} {per bud : Int} {ta : Option Addr} {n tcap : Nat} {a : Option Addr} {m cap q : Nat} {t : Nat → Int} {ps : List Pn} (hP : PS w (.slice a m cap) ps) (hok : chkP ps = true) (h5 : 0 ≤ t 5) :
    Calls Try.prog 53 #[lv per bud ta n tcap a m cap q, tv t] w (YI (wait ps q t) w) := by
  have hml := hP.len
  have hm4 : m ≤ 4 := by rw [hml]; exact chkP_len hok
  obtain ⟨R, hR⟩ : ∃ R, R = wait ps q t := ⟨_, rfl⟩
  have HR : Hid (R = wt ps q (t 5) m) := by unfold Hid; rw [hR, hml]; rfl
  clear hml
  rw [← hR]
  clear hR
  cases h0 : t 5 == 0 with
  | true =>
    have e5 : t 5 = 0 := by simpa using h0
    have HE : Hid (R = 0) := by
      have : ∀ i, wt ps q (t 5) i = 0 := fun i => by
        induction i with
        | zero => rfl
        | succ i ih => rw [wt, ih, add1, if_neg (fun hc => by have := hc.1; omega)]; rfl
      exact HR.out.trans (this m)
    have HB : Hid (Below w.heap.size w ((w.alloc (lvo per bud ta n tcap a m cap q)).alloc (tko t))) := ((Below.refl _ w).alloc (Nat.le_refl _) _).alloc (by simp) _
    unfold lvo tko at HB
    clear e5 HR hP
    unfold tv
    go_enter Try.func53, Try.ntmps53
    go_wp2_with fail
    go_ret
    exact ⟨by rw [HE.out]; rfl, HB.out⟩
  | false =>
    have hg : 0 < t 5 := by have : t 5 ≠ 0 := by simpa using h0
                            omega
    unfold tv
    refine (callsIn_wide (n := 6)).1 ?_
    refine callsIn_of_wp_marks Try.func53 rfl trivial ?_ rfl
    simp only [Try.ntmps53, List.size_toArray, List.length_cons, List.length_nil, Nat.reduceAdd, Nat.reduceSub, Array.replicate_succ, Array.replicate_zero, List.push_toArray, List.append_toArray, List.nil_append, List.cons_append]
    gi_wp2_with (refine ⟨trivial, ?_⟩; gi_at_call 65; refine (shar_in _ _ _ _ _ _).mono ?_; rintro e w' ⟨rfl, rfl⟩)
    obtain ⟨W0, hW0⟩ : ∃ W0, W0 = ((((w.alloc (lvo per bud ta n tcap a m cap q)).alloc (tko t)).alloc (.cells #[.int .i64 0] 3)).alloc (.cells #[.slice a m cap, .int .i64 q] 80)).alloc (.cells #[.int .i64 (t 5)] 3) := ⟨_, rfl⟩
    obtain ⟨b0, hC0, hB0, hsz⟩ := wait_start w per bud ta n tcap a m cap q t W0 hW0
    unfold lvo tko at hW0
    rw [← hW0]
    clear hW0
    unfold lv
    refine wpIn_rangeFunc_ownH rfl (by omega) (gf := 73) (lb := #[.pointer (some ⟨w.heap.size + 1 + 1 + 1, 0, none⟩), .pointer (some ⟨w.heap.size + 1 + 1 + 1 + 1, 0, none⟩)]) rfl trivial (enters_of Try.func73 (by kernel_rfl) rfl)
      (shar_stops (n := 5) (by omega) hg hP hok W0 hB0 hC0) (fun h k => h.t k) (Kx.b (by omega) (by omega) (by omega)) (Below.refl _ _) (fun _ => rfl)
      (fun pre W => Boxed W (w.heap.size + 1 + 1) 3 (.int .i64 (tw pre)) ∧ Below w.heap.size w W ∧ W0.heap.size ≤ W.heap.size)
      (fun _ _ _ => False)
      (OwnFrom.and (Own.from (boxed_own _ _ fun pre => .int .i64 (tw pre)) _) (OwnFrom.and (ownFrom_below (Nat.le_refl _) (by omega)) (fun _ _ _ _ hs hg _ => Nat.le_trans hs hg.size)))
      (fun _ => fun _ _ _ _ hs _ _ => hs)
      ⟨b0, hB0, Nat.le_refl _⟩
      (fun x a' W => ∃ Bx, W.heap[Bx]? = some (.cells #[.int .i64 x.per, .int .i64 x.bud, .slice x.a x.n x.cap] 33 (0, 0)) ∧ a' = { tmps := #[.agg #[.int .i64 per, .int .i64 bud, .slice ta n tcap, .slice a m cap, .int .i64 q], .agg #[.int .i64 (t 0), .int .i64 (t 1), .int .i64 (t 2), .int .i64 (t 3), .int .i64 (t 4), .int .i64 (t 5), .int .i64 (t 6), .int .i64 (t 7)], .pointer (some ⟨w.heap.size, 0, none⟩), .pointer (some ⟨w.heap.size + 1, 0, none⟩), .int .i64 0, .pointer (some ⟨w.heap.size + 1 + 1, 0, none⟩), .pointer (some ⟨Bx, 0, none⟩), .pointer (some ⟨w.heap.size + 1, 5, none⟩), .int .i64 (t 5), .bool false, .pointer (some ⟨w.heap.size, 3, none⟩), .agg #[.slice a m cap, .int .i64 q], .pointer (some ⟨w.heap.size + 1, 5, none⟩), .int .i64 (t 5), .func (.func 73) #[] #[.pointer (some ⟨w.heap.size + 1 + 1 + 1, 0, none⟩), .pointer (some ⟨w.heap.size + 1 + 1 + 1 + 1, 0, none⟩)], .agg #[.int .i64 x.per, .int .i64 x.bud, .slice x.a x.n x.cap], undef, undef, undef, undef, undef, undef], defers := [] })
      ?hax ?assign ?body ?done ?stop
    case hax =>
      rintro x a' s X Y row ⟨Bx, h1, h2⟩ hg hr
      exact ⟨Bx, (grownBy_keeps_cells hg (fun r e => (hr r e).2) h1 rfl).trans h1, h2⟩
    case assign =>
      rintro l pre x W K ⟨hbx, hB, hs⟩ hK
      obtain ⟨pe, bu, xa, xn, xc, q1, q2⟩ := x
      dsimp only [Pv.enc] at hK ⊢
      gi_wp2
      refine hK _ _ ((KeepsOthers.alloc _ _).from _) (Kx.below ((Below.refl _ W).alloc (Nat.le_refl _) _) (by omega) (by omega) (by omega)) ⟨hbx.alloc _, hB.alloc (by omega) _, ?_⟩ ⟨W.heap.size, heap_alloc_new W _, rfl⟩
      rw [World.size_alloc]; omega
    case body =>
      rintro l pre x a' W hl ⟨r, hr⟩ ⟨hbx, hB, hs⟩ ⟨Bx, hbX, rfl⟩ hlt
      have c0 := hbx.cell
      have f0 := hbx.frozen
      have d0 := cell_of_row _ _ 0 _ _ _ hbX
      have htb := tw_bd pre
      have HX := Lib.hid (tw_snoc pre x)
      have hp1 := x.p1; have hp2 := x.p2
      have HBX := Lib.hid hbx; have HB := Lib.hid hB; have HS := Lib.hid hs
      clear hbx hB hs hbX hr
      obtain ⟨pe, bu, xa, xn, xc, q1, q2⟩ := x
      dsimp only at d0 HX hp1 hp2 ⊢
      obtain ⟨T, hT⟩ : ∃ T, T = tw pre := ⟨_, rfl⟩
      rw [← hT] at c0 htb HX HBX
      clear hT
      have hw1 : wrap64 (2 * pe) = 2 * pe := by unfold wrap64; omega
      have hw2 : wrap64 (T + 2 * pe) = T + 2 * pe := by unfold wrap64; omega
      gi_wp2
      exact ⟨(KeepsOthers.setCell _ _ _).from _, ⟨(Below.refl _ W).setCell (p := ⟨w.heap.size + 1 + 1, 0, none⟩) (by show w.heap.size ≤ w.heap.size + 1 + 1; omega) _, Below.heap_setCell _ _ _ _ (by show w.heap.size + 1 + 1 + 1 ≠ w.heap.size + 1 + 1; omega), Below.heap_setCell _ _ _ _ (by show w.heap.size + 1 + 1 + 1 + 1 ≠ w.heap.size + 1 + 1; omega)⟩,
        by rw [HX.out]; exact HBX.out.set _, HB.out.setCell (p := ⟨w.heap.size + 1 + 1, 0, none⟩) (by show w.heap.size ≤ w.heap.size + 1 + 1; omega) _, Nat.le_trans HS.out (KeepsOthers.setCell _ _ _).size⟩
    case done =>
      rintro D xs W hD hS ⟨hbx, hB, hs⟩ hK
      have c0 := hbx.cell
      gi_wp2
      refine ⟨by simp, .inl ⟨_, _, rfl, run_takeDeferred hK, ?_⟩⟩
      exact ⟨_, results_tmp rfl _ _ _, by rw [HR.out, ← hS]; rfl, hB.trans (belowK_b (w := w) (Nat.le_refl _) W D _ _ (by omega) hK rfl rfl)⟩
    case stop =>
      rintro D c pre W _ _ h _
      exact h.elim
end Go.Proofs.Ythhdfmpoebedcaa
