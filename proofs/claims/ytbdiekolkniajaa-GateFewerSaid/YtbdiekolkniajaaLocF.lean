/- Slacks, one tick behind the other: the iterator's contract. -/
import Derived.Test.YtbdiekolkniajaaLocE
namespace Go.Proofs.Ytbdiekolkniajaa
open Go.RowKit Go.Shelf Tk De Dl Lo
set_option linter.unusedVariables false
attribute [local go_sem] Oper.semAt_some

/-- a number of ticks that may be asked for -/
abbrev Tn := { t : Nat // t ≤ 1048576 }
def tkE (ps : List Pn) (q : Nat) (x : Tn) : Array Value := #[.int .i64 (x.1 : Nat), .agg #[.int .i64 (supN (ps.getD q p0) x.1 : Nat), .int .i64 (demN ps q x.1 : Nat), .int .i64 (del ps q (x.1 : Nat) (ps.getD q p0).n)]]
/-- the two boxes that the iterator has captured -/
structure CapG (W : World) (Bo Bg : Nat) (o : Obj) (last : Int) : Prop where
  o : W.heap[Bo]? = some o
  g : W.heap[Bg]? = some (.cells #[.int .i64 last] 3 (0, 0))
theorem CapG.kept {W W' : World} {B Bo Bg : Nat} {o : Obj} {last : Int} (h : CapG W Bo Bg o last) (k : Kx B Bo Bg W W') : CapG W' Bo Bg o last := ⟨k.2.1.trans h.o, k.2.2.trans h.g⟩
theorem CapG.lt {W : World} {Bo Bg : Nat} {o : Obj} {last : Int} (h : CapG W Bo Bg o last) : Bo < W.heap.size ∧ Bg < W.heap.size := ⟨lt_of_block h.o, lt_of_block h.g⟩
def upto (k : Nat) (xs : List Tn) : Prop := xs.map (·.1) = List.range' 1 k
theorem upto_snoc {k : Nat} {xs : List Tn} (h : upto k xs) (hk : k + 1 ≤ 1048576) : upto (k + 1) (xs ++ [⟨k + 1, hk⟩]) := by
  unfold upto at h ⊢
  rw [List.map_append, h, List.range'_concat]
  simp [Nat.add_comm]
theorem upto_len {k : Nat} {xs : List Tn} (h : upto k xs) : xs.length = k := by
  have := congrArg List.length h
  simpa using this
set_option maxRecDepth 100000 in
set_option maxHeartbeats 4000000 in
theorem slk1_in {n : Nat} (hn : 1 ≤ n) {w : World} (l Bo Bg : Nat) {ps : List Pn} {a : Option Addr} {m cap q : Nat} {ta : Option Addr} {tcap : Nat} {ma : Option Addr} {mcap : Nat} {last : Nat} (hl : last ≤ 1048575) (hG : LG w ps a m cap q ta tcap ma mcap) (J Jx : List Tn → World → Prop)
    (W : World) (hW : Below w.heap.size w W) (hJ : AbidesFrom W.heap.size J) (hC : CapG W Bo Bg (gvo (ps.getD q p0).per (ps.getD q p0).bud ta (ps.getD q p0).n tcap ma mcap a m cap q) last)
    (hY : ∀ pre x W1, J pre W1 → pre.length < last → YieldAt Fence.wide (n - 1) Try.prog l (tkE ps q x) W1 fun e W' =>
      (e = .returned (.bool true) ∧ J (pre ++ [x]) W' ∧ Kx w.heap.size Bo Bg W1 W') ∨ (e = .returned (.bool false) ∧ Jx (pre ++ [x]) W'))
    (h0 : J [] W) :
    CallsIn Fence.wide n Try.prog 59 #[.func (.yield l) #[] #[], .pointer (some ⟨Bg, 0, none⟩), .pointer (some ⟨Bo, 0, none⟩)] W fun e W' => (∃ v, e = .returned v) ∧
      ((∃ xs, upto last xs ∧ J xs W') ∨ (∃ pre, (∃ k, k ≤ last ∧ upto k pre) ∧ Jx pre W')) := by
  have HG := Lib.hid hG; have HW := Lib.hid hW; have HC := Lib.hid hC; have HY := Lib.hid hY; have HJ := Lib.hid hJ; have H0 := Lib.hid h0
  have HSL := Lib.hid (fun W (b : Below w.heap.size w W) T (hT : T ≤ 1048576) => slack_any (hG.below b) hT)
  unfold gkv gv at HSL
  unfold gvo at HC
  unfold tkE at HY
  clear hG hW hC hY hJ h0
  generalize (ps.getD q p0).n = tn at *
  generalize (ps.getD q p0).per = per at *
  generalize (ps.getD q p0).bud = bud at *
  refine callsIn_of_wp Try.func59 rfl trivial ?_ rfl
  simp only [Try.ntmps59, List.size_toArray, List.length_cons, List.length_nil, Nat.reduceAdd, Nat.reduceSub, Array.replicate_succ, Array.replicate_zero, List.push_toArray, List.append_toArray, List.nil_append, List.cons_append]
  gi_wp2
  gi_loopw [4] (fun i wr => ∃ (k : Nat) (pre : List Tn), k ≤ last ∧ i = .int .i64 (k + 1) ∧ Hid (upto k pre) ∧ Hid (J pre wr) ∧ Hid (Kx w.heap.size Bo Bg W wr) ∧ Hid (W.heap.size ≤ wr.heap.size)) (fun i _ => last + 1 - (intOf i).toNat)
  case atStart => exact ⟨0, [], Nat.zero_le _, rfl, rfl, H0.out, ⟨Below.refl _ _, rfl, rfl⟩, Nat.le_refl _⟩
  case round =>
    obtain ⟨k, pre, hk, rfl, HU, HJS, HK, HS⟩ := hrel
    have HCW := Lib.hid (HC.out.kept HK.out)
    have d0 := cell_of_row _ _ 0 _ _ _ HCW.out.g
    change _ = some (Value.int .i64 last) at d0
    by_cases hlt : k < last
    · have hd : decide ((k : Int) + 1 ≤ last) = true := by simp; omega
      have c0 := cell_of_row _ _ 0 _ _ _ HCW.out.o
      have c1 := cell_of_row _ _ 1 _ _ _ HCW.out.o
      have c2 := cell_of_row _ _ 2 _ _ _ HCW.out.o
      have c3 := cell_of_row _ _ 3 _ _ _ HCW.out.o
      have c4 := cell_of_row _ _ 4 _ _ _ HCW.out.o
      have c5 := cell_of_row _ _ 5 _ _ _ HCW.out.o
      change _ = some (Value.int .i64 per) at c0
      change _ = some (Value.int .i64 bud) at c1
      change _ = some (Value.slice ta tn tcap) at c2
      change _ = some (Value.slice ma tn mcap) at c3
      change _ = some (Value.slice a m cap) at c4
      change _ = some (Value.int .i64 q) at c5
      have hk2 : k + 1 ≤ 1048576 := by omega
      have HS1 := Lib.hid (HSL.out wr (HW.out.trans HK.out.1) (k + 1) hk2)
      have HUS := Lib.hid (upto_snoc HU.out hk2)
      have HLT : Hid (pre.length < last) := by unfold Hid; rw [upto_len HU.out]; exact hlt
      have e1 : ((k + 1 : Nat) : Int) = (k : Int) + 1 := by push_cast; rfl
      have HY1 := Lib.hid (fun W1 h1 => HY.out pre ⟨k + 1, hk2⟩ W1 h1 HLT.out)
      dsimp only at HY1
      rw [e1] at HS1 HY1
      generalize supN (ps.getD q p0) (k + 1) = G at *
      generalize demN ps q (k + 1) = A at *
      generalize del ps q ((k : Int) + 1) tn = D at *
      clear e1 HU
      have HKX := Lib.hid (fun W' (b : Below wr.heap.size wr W') => Kx.below (B := w.heap.size) b (Nat.le_trans HW.out.size HS.out) HCW.out.lt.1 HCW.out.lt.2)
      have HSZ := HS
      gi_wp2_with (refine ⟨trivial, ?_⟩; gi_at_call 60; refine (callsIn_wide.2 HS1.out).mono ?_; rintro e w2 ⟨rfl, hb⟩; have HB2 := Lib.hid hb; clear hb; obtain ⟨fn, tmps, assign, body, hy, hR⟩ := HY1.out w2 (HJ.out _ _ _ none HJS.out (grown_of_below HB2.out) (fun r e => by cases e)))
      have HK2 := Lib.hid (HK.out.t (HKX.out _ HB2.out))
      have HS2 := Lib.hid (Nat.le_trans HS.out HB2.out.size)
      clear hy HY1 HKX HSZ HS HK HJS HS1 HB2 c0 c1 c2 c3 c4 c5 d0 HCW
      refine hR.mono ?_
      rintro e W3 (⟨rfl, hJ3, hk3⟩ | ⟨rfl, hJx3⟩)
      · have HJ3 := Lib.hid hJ3
        have HK3 := Lib.hid (HK2.out.t hk3)
        have HS3 := Lib.hid (Nat.le_trans HS2.out hk3.1.size)
        clear hJ3 hk3 hR HK2 HS2
        gi_wp2
        go_roundw
        case rel => exact ⟨k + 1, _, by omega, by go_num, HUS.out, HJ3.out, HK3.out, HS3.out⟩
        case measure => simp [intOf]; omega
      · have HX := Lib.hid hJx3
        clear hJx3 hR HK2 HS2
        gi_wp2
        refine bodyPost_ret (results_none rfl _ _ _) rfl ?_
        exact ⟨⟨_, rfl⟩, .inr ⟨_, ⟨k + 1, by omega, HUS.out⟩, HX.out⟩⟩
    · obtain rfl : k = last := by omega
      have hd : decide ((k : Int) + 1 ≤ k) = false := by simp; omega
      gi_wp2
      go_end0
      exact ⟨⟨_, rfl⟩, .inl ⟨pre, HU.out, HJS.out⟩⟩
/-- its contract -/
theorem slk_stops {n : Nat} (hn : 1 ≤ n) {w : World} {Bo Bg : Nat} {ps : List Pn} {a : Option Addr} {m cap q : Nat} {ta : Option Addr} {tcap : Nat} {ma : Option Addr} {mcap : Nat} {last : Nat} (hl : last ≤ 1048575) (hG : LG w ps a m cap q ta tcap ma mcap)
    (W0 : World) (hW : Below w.heap.size w W0) (hC : CapG W0 Bo Bg (gvo (ps.getD q p0).per (ps.getD q p0).bud ta (ps.getD q p0).n tcap ma mcap a m cap q) last) :
    SeqStopsK Fence.wide n Try.prog 59 #[.pointer (some ⟨Bg, 0, none⟩), .pointer (some ⟨Bo, 0, none⟩)] (tkE ps q) (Kx w.heap.size Bo Bg) (upto last) (fun pre => ∃ k, k ≤ last ∧ upto k pre) last W0 :=
  fun l J Jx W hWW hJ _ hY h0 => slk1_in hn l Bo Bg hl hG J Jx W (hW.trans (hWW.mono hW.size)) hJ (hC.kept ⟨hWW.mono hW.size, hWW.block _ hC.lt.1, hWW.block _ hC.lt.2⟩) hY h0
/-- slacks: two boxes, one function that has captured them -/
theorem slacks_any (per bud : Int) (ta : Option Addr) (n tcap : Nat) (ma : Option Addr) (mcap : Nat) (a : Option Addr) (m cap : Nat) (q : Int) (last : Int) (w : World) :
    Calls Try.prog 38 #[gv per bud ta n tcap ma mcap a m cap q, .int .i64 last] w (fun e w' => ∃ g, e = .returned (.func (.func 59) #[] #[.pointer (some ⟨g + 1, 0, none⟩), .pointer (some ⟨g, 0, none⟩)]) ∧ CapG w' g (g + 1) (gvo per bud ta n tcap ma mcap a m cap q) last ∧ w.heap.size ≤ g ∧ Below w.heap.size w w') := by
  have h1 := heap_alloc_new w (gvo per bud ta n tcap ma mcap a m cap q)
  have h2 := heap_alloc_new (w.alloc (gvo per bud ta n tcap ma mcap a m cap q)) (.cells #[.int .i64 last] 3)
  have h3 := (Below.heap_alloc _ (.cells #[.int .i64 last] 3) _ (lt_of_block h1)).trans h1
  rw [World.size_alloc] at h2
  have HC := Lib.hid (CapG.mk h3 h2 : CapG _ _ _ _ _)
  have HB := Lib.hid (((Below.refl _ w).alloc (Nat.le_refl _) (gvo per bud ta n tcap ma mcap a m cap q)).alloc (by simp) (.cells #[.int .i64 last] 3))
  unfold gvo at HC HB
  clear h1 h2 h3
  unfold gv
  go_enter Try.func38, Try.ntmps38
  go_wp2_with fail
  go_ret
  exact ⟨w.heap.size, rfl, HC.out, Nat.le_refl _, HB.out⟩
end Go.Proofs.Ytbdiekolkniajaa
