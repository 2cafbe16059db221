/- TurnNames. -/
import Derived.Test.YtfjeoefnpcgnnaaTurV
import Derived.Test.YtfjeoefnpcgnnaaTurT
namespace Go.Proofs.Ytfjeoefnpcgnnaa.Pw
open Go.RowKit Go.Sort Pu
set_option linter.unusedVariables false
set_option maxRecDepth 100000

def NoB (r : Int) (w : World) (E : Ending) (w' : World) : Prop := E = .returned (.tuple #[.slice none 0 0, .int .i64 r]) ∧ Below w.heap.size w w'
theorem plan_lit_no {w : World} {v : Value} {m : Nat} {p q : Nat → Int} (h : SV w v m p q) (bs : List Int) (hl : bs.length ≤ 1000) {n r : Int} (hE : plE m p q bs n = r) (hr : r ≠ 0) : Calls Try.prog 9 #[v, .slice (some ⟨w.heap.size, 0, none⟩) bs.length bs.length, .int .i64 n] (w.alloc (.cells (bs.map (Value.int .i64)).toArray 3)) (NoB r w) := by
  subst hE
  have q1 := below_al w (.cells (bs.map (Value.int .i64)).toArray 3)
  refine (plan_no (h.below q1) (lit_is w bs (by unfold maxLen; omega)) hr).mono ?_
  rintro E w' ⟨rfl, hb⟩
  exact ⟨rfl, chnB q1 hb⟩
theorem plan_nil_no {w : World} {v : Value} {m : Nat} {p q : Nat → Int} (h : SV w v m p q) {n r : Int} (hE : plE m p q [] n = r) (hr : r ≠ 0) : Calls Try.prog 9 #[v, .slice none 0 0, .int .i64 n] w (NoB r w) := by
  subst hE
  exact plan_no h (IS.nil w) hr
theorem plan_made_no {w : World} {v : Value} {m : Nat} {p q : Nat → Int} (h : SV w v m p q) (k : Nat) (hk : k ≤ 1000) {n r : Int} (hE : plE m p q (List.replicate k 0) n = r) (hr : r ≠ 0) : Calls Try.prog 9 #[v, .slice (some ⟨w.heap.size, 0, none⟩) k k, .int .i64 n] (w.alloc (.cells (madeCells #[.int .i64 0] k) 3)) (NoB r w) := by
  subst hE
  have q1 := below_al w (.cells (madeCells #[.int .i64 0] k) 3)
  have hi := (NB.made w k).is (by simp; unfold maxLen; omega)
  rw [List.length_replicate] at hi
  refine (plan_no (h.below q1) hi hr).mono ?_
  rintro E w' ⟨rfl, hb⟩
  exact ⟨rfl, chnB q1 hb⟩
/-- a long plan of one server -/
theorem plan_long {w : World} {v : Value} {p q : Nat → Int} (h : SV w v 1 p q) (hE : plE 1 p q [1000] 1000 = 0) : Calls Try.prog 9 #[v, .slice (some ⟨w.heap.size, 0, none⟩) 1 1, .int .i64 1000] (w.alloc (.cells #[.int .i64 1000] 3)) (fun E w' => ∃ a c, E = .returned (.tuple #[.slice a 1000 c, .int .i64 0]) ∧ Below w.heap.size w w') := by
  have q1 := below_al w (.cells #[.int .i64 1000] 3)
  refine (plan_ok (h.below q1) (lit_is w [1000] (by decide)) hE).mono ?_
  rintro E w' ⟨r, rfl, hi, hb⟩
  obtain ⟨a, c, rfl, _, _⟩ := hi.slice
  exact ⟨a, c, by unfold tk; rw [ticks_len]; rfl, chnB q1 hb⟩
def sp : St := ⟨5, 1, 1, 5, 0, 0, 0, false, false⟩
def sp0 : St := ⟨5, 1, 0, 5, 0, 0, 0, false, false⟩
def sql : St := ⟨5, 1, 1, 5, 0, 0, 0, true, false⟩
def sqg : St := ⟨5, 1, 0, 5, 0, 0, 1, true, true⟩
def r3 (x y : St) (i : Nat) : Option St := match i with | 1 => some x | 2 => some y | _ => none
def r5 (x y : St) (i : Nat) : Option St := match i with | 1 => some x | 2 => some y | 3 => some zp | 4 => some x | _ => none
def c5 (a b z : Nat) (i : Nat) : Nat := match i with | 1 => a | 2 => b | 3 => z | 4 => a | _ => 0
theorem ok3 {x y : St} (hx : 0 ≤ x.n ∧ 0 ≤ x.e ∧ (x.ov = true → x.n = 0)) (hy : 0 ≤ y.n ∧ 0 ≤ y.e ∧ (y.ov = true → y.n = 0)) : OkS 3 (r3 x y) := fun i z hi hz => by
  match i, hi with
  | 0, _ => cases hz
  | 1, _ => obtain rfl : x = z := by simpa [r3] using hz
            exact hx
  | 2, _ => obtain rfl : y = z := by simpa [r3] using hz
            exact hy
theorem ok5 {x y : St} (hx : 0 ≤ x.n ∧ 0 ≤ x.e ∧ (x.ov = true → x.n = 0)) (hy : 0 ≤ y.n ∧ 0 ≤ y.e ∧ (y.ov = true → y.n = 0)) : OkS 5 (r5 x y) := fun i z hi hz => by
  match i, hi with
  | 0, _ => cases hz
  | 1, _ => obtain rfl : x = z := by simpa [r5] using hz
            exact hx
  | 2, _ => obtain rfl : y = z := by simpa [r5] using hz
            exact hy
  | 3, _ => obtain rfl : zp = z := by simpa [r5] using hz
            exact ⟨by decide, by decide, by decide⟩
  | 4, _ => obtain rfl : x = z := by simpa [r5] using hz
            exact hx
/-- who runs, of a row of three -/
theorem who3 {w : World} {a b : Nat} {x y : St} (ha : PP w a x) (hb : PP w b y) (hx : 0 ≤ x.n ∧ 0 ≤ x.e ∧ (x.ov = true → x.n = 0)) (hy : 0 ≤ y.n ∧ 0 ≤ y.e ∧ (y.ov = true → y.n = 0)) {k : Int} (hk : who (r3 x y) 3 = k) :
    Calls Try.prog 18 #[.slice (some ⟨w.heap.size, 0, none⟩) 3 3] (w.alloc (.cells #[.pointer none, .pointer (some ⟨a, 0, none⟩), .pointer (some ⟨b, 0, none⟩)] 34)) (fun E w' => E = .returned (.tuple #[.int .i64 (if k < 0 then 0 else k), .bool (decide (0 ≤ k))]) ∧ Below w.heap.size w w') := by
  subst hk
  have hd := dw_lit pk_prog w #[.pointer none, .pointer (some ⟨a, 0, none⟩), .pointer (some ⟨b, 0, none⟩)] 3 (c5 a b 0) (r3 x y) (by decide) (fun i hi => by match i, hi with | 0, _ => rfl | 1, _ => rfl | 2, _ => rfl) (fun i z hi hz => by
    match i, hi with
    | 0, _ => cases hz
    | 1, _ => obtain rfl : x = z := by simpa [r3] using hz
              exact ha
    | 2, _ => obtain rfl : y = z := by simpa [r3] using hz
              exact hb)
  refine (who_any hd (ok3 hx hy)).mono ?_
  rintro E w' ⟨rfl, hq⟩
  exact ⟨rfl, chnB (below_al w _) hq⟩
/-- who runs, of a row of five -/
theorem who5 {w : World} {a b : Nat} {x y : St} (ha : PP w a x) (hb : PP w b y) (hx : 0 ≤ x.n ∧ 0 ≤ x.e ∧ (x.ov = true → x.n = 0)) (hy : 0 ≤ y.n ∧ 0 ≤ y.e ∧ (y.ov = true → y.n = 0)) {z : Nat} (hz0 : PP w z zp) {k : Int} (hk : who (r5 x y) 4 = k) :
    Calls Try.prog 18 #[.slice (some ⟨w.heap.size, 0, none⟩) 5 5] (w.alloc (.cells #[.pointer none, .pointer (some ⟨a, 0, none⟩), .pointer (some ⟨b, 0, none⟩), .pointer (some ⟨z, 0, none⟩), .pointer (some ⟨a, 0, none⟩)] 34)) (fun E w' => E = .returned (.tuple #[.int .i64 (if k < 0 then 0 else k), .bool (decide (0 ≤ k))]) ∧ Below w.heap.size w w') := by
  subst hk
  have hd := dw_lit pk_prog w #[.pointer none, .pointer (some ⟨a, 0, none⟩), .pointer (some ⟨b, 0, none⟩), .pointer (some ⟨z, 0, none⟩), .pointer (some ⟨a, 0, none⟩)] 5 (c5 a b z) (r5 x y) (by decide) (fun i hi => by match i, hi with | 0, _ => rfl | 1, _ => rfl | 2, _ => rfl | 3, _ => rfl | 4, _ => rfl) (fun i u hi hu => by
    match i, hi with
    | 0, _ => cases hu
    | 1, _ => obtain rfl : x = u := by simpa [r5] using hu
              exact ha
    | 2, _ => obtain rfl : y = u := by simpa [r5] using hu
              exact hb
    | 3, _ => obtain rfl : zp = u := by simpa [r5] using hu
              exact hz0
    | 4, _ => obtain rfl : x = u := by simpa [r5] using hu
              exact ha)
  refine (who_any hd (ok5 hx hy)).mono ?_
  rintro E w' ⟨rfl, hq⟩
  exact ⟨rfl, chnB (below_al w _) hq⟩
theorem who_nil (w : World) : Calls Try.prog 18 #[.slice none 0 0] w (VB (.tuple #[.int .i64 0, .bool false]) w) := who_any (DW.nil PP w (fun _ => none)) (fun i x hi => by omega)
/-- two purses of the call's own -/
structure TwP (B : Nat) (W w : World) (a b : Nat) (x y : St) : Prop where
  p : PP w a x
  q : PP w b y
  ne : a ≠ b
  ha : B ≤ a
  hb : B ≤ b
  bel : Below B W w
section
variable {B : Nat} {W w w' : World} {a b : Nat} {x y z : St}
theorem TwP.below (h : TwP B W w a b x y) (q : Below w.heap.size w w') : TwP B W w' a b x y :=
  ⟨h.p.below q, h.q.below q, h.ne, h.ha, h.hb, h.bel.trans (q.mono (Nat.le_trans h.ha (Nat.le_of_lt h.p.lt)))⟩
theorem TwP.op1 (h : TwP B W w a b x y) (o : Only a w w') (hz : PP w' a z) : TwP B W w' a b z y :=
  ⟨hz, pk_prog.other h.q h.p (Ne.symm h.ne) o, h.ne, h.ha, h.hb, h.bel.trans (o.below (Nat.le_trans h.ha (Nat.le_of_lt h.p.lt)) h.ha)⟩
theorem TwP.op2 (h : TwP B W w a b x y) (o : Only b w w') (hz : PP w' b z) : TwP B W w' a b x z :=
  ⟨pk_prog.other h.p h.q h.ne o, hz, h.ne, h.ha, h.hb, h.bel.trans (o.below (Nat.le_trans h.ha (Nat.le_of_lt h.p.lt)) h.hb)⟩
end
theorem oksp : Ok 0 sp := Ok.new (p := 5) (b := 1) (t := 0) (by decide)
theorem nE1 : plE 5 (tP [1, 2, 1, 2, 1, 2, 1, 2, 1, 2]) (tB [1, 2, 1, 2, 1, 2, 1, 2, 1, 2]) (List.replicate 5 0) 1 = 5 := by decide +kernel
theorem nE2 : plE 1 (tP [1, 2]) (tB [1, 2]) [0] (-1) = 5 := by decide +kernel
theorem nE3 : plE 1 (tP [1, 2]) (tB [1, 2]) [0] 1001 = 5 := by decide +kernel
theorem nE4 : plE 1 (tP [1, 2]) (tB [1, 2]) [] 1 = 2 := by decide +kernel
theorem nE5 : plE 1 (tP [1, 2]) (tB [1, 2]) [-1] 1 = 2 := by decide +kernel
theorem nE6 : plE 1 (tP [1, 2]) (tB [1, 2]) [1001] 1 = 2 := by decide +kernel
theorem nE7 : plE 1 (tP [3, 2]) (tB [3, 2]) [0] 1 = 2 := by decide +kernel
theorem nE8 : plE 1 (tP [1, 2]) (tB [1, 2]) [1000] 1000 = 0 := by decide +kernel
set_option maxHeartbeats 40000000 in
theorem names_law (w : World) : Calls Try.prog 7 #[] w (VB (.bool true) w) := by
  have HT := Lib.hid serv_any
  have hmk : ∀ w, (Instr.makeSlice 23 (.int .i64 5) (.int .i64 5)).run Try.prog w = .ok (.slice (some ⟨w.heap.size, 0, none⟩) 5 5) (w.alloc (.cells (madeCells #[.int .i64 0] 5) 3)) := run_make_row' (P := Try.prog) 23 3 (.int .i64 0) 8 Try.underlying23 infoN13 rfl .i64 .i64 5 (by omega) (by omega)
  go_enter Try.func7, Try.ntmps7
  go_wp2_with fail
  refine (HT.out w [1, 2] (by decide)).mono ?_
  rintro E w1 ⟨a1, c1, rfl, hs, hb⟩
  have S1 := Lib.hid hs
  have B1 := Lib.hid hb
  clear hs hb
  go_wp2_with fail
  refine (HT.out w1 [1, 2, 1, 2, 1, 2, 1, 2, 1, 2] (by decide)).mono ?_
  rintro E w2 ⟨a2, c2, rfl, hs, hb⟩
  have T2 := Lib.hid hs
  have S2 := Lib.hid (S1.out.below hb)
  have B2 := Lib.hid (chnB B1.out hb)
  clear hs hb S1 B1
  go_wp2_with fail
  refine (plan_made_no T2.out 5 (by decide) nE1 (by decide)).mono ?_
  rintro E w3 ⟨rfl, hb⟩
  have S3 := Lib.hid (S2.out.below hb)
  have B3 := Lib.hid (chnB B2.out hb)
  clear hb S2 B2 T2 hmk
  go_wp2_with fail
  refine (plan_lit_no S3.out [0] (by decide) nE2 (by decide)).mono ?_
  rintro E w4 ⟨rfl, hb⟩
  have S4 := Lib.hid (S3.out.below hb)
  have B4 := Lib.hid (chnB B3.out hb)
  clear hb S3 B3
  go_wp2_with fail
  refine (plan_lit_no S4.out [0] (by decide) nE3 (by decide)).mono ?_
  rintro E w5 ⟨rfl, hb⟩
  have S5 := Lib.hid (S4.out.below hb)
  have B5 := Lib.hid (chnB B4.out hb)
  clear hb S4 B4
  go_wp2_with fail
  refine (plan_nil_no S5.out nE4 (by decide)).mono ?_
  rintro E w6 ⟨rfl, hb⟩
  have S6 := Lib.hid (S5.out.below hb)
  have B6 := Lib.hid (chnB B5.out hb)
  clear hb S5 B5
  go_wp2_with fail
  refine (plan_lit_no S6.out [-1] (by decide) nE5 (by decide)).mono ?_
  rintro E w7 ⟨rfl, hb⟩
  have S7 := Lib.hid (S6.out.below hb)
  have B7 := Lib.hid (chnB B6.out hb)
  clear hb S6 B6
  go_wp2_with fail
  refine (plan_lit_no S7.out [1001] (by decide) nE6 (by decide)).mono ?_
  rintro E w8 ⟨rfl, hb⟩
  have S8 := Lib.hid (S7.out.below hb)
  have B8 := Lib.hid (chnB B7.out hb)
  clear hb S7 B7
  go_wp2_with fail
  refine (HT.out w8 [3, 2] (by decide)).mono ?_
  rintro E w9 ⟨a3, c3, rfl, hs, hb⟩
  have T9 := Lib.hid hs
  have S9 := Lib.hid (S8.out.below hb)
  have B9 := Lib.hid (chnB B8.out hb)
  clear hs hb S8 B8
  go_wp2_with fail
  refine (plan_lit_no T9.out [0] (by decide) nE7 (by decide)).mono ?_
  rintro E w10 ⟨rfl, hb⟩
  have S10 := Lib.hid (S9.out.below hb)
  have B10 := Lib.hid (chnB B9.out hb)
  clear hb S9 B9
  clear T9
  go_wp2_with fail
  refine (plan_long S10.out nE8).mono ?_
  rintro E w11 ⟨ha, hc, rfl, hb⟩
  have B11 := Lib.hid (chnB B10.out hb)
  clear hb S10 B10
  go_wp2_with fail
  refine (og_new w11 (p := 5) (b := 1) (t := 0) (s := sp) (by decide) rfl).mono ?_
  rintro E wa ⟨ga, rfl, hg⟩
  have GA := Lib.hid hg
  clear hg
  go_wp2_with fail
  refine (og_new wa (p := 5) (b := 1) (t := 0) (s := sp) (by decide) rfl).mono ?_
  rintro E wb ⟨gb, rfl, hg⟩
  have hl := GA.out.g.lt
  have D0 : Hid (TwP w11.heap.size w11 wb ga gb sp sp) := Lib.hid ⟨GA.out.g.below hg.bel, hg.g, Nat.ne_of_lt (Nat.lt_of_lt_of_le hl hg.hb), GA.out.hb, Nat.le_trans GA.out.hb (Nat.le_trans (Nat.le_of_lt hl) hg.hb), GA.out.bel.trans (hg.bel.mono (Nat.le_trans GA.out.hb (Nat.le_of_lt hl)))⟩
  clear hg hl GA
  go_wp2_with fail
  refine (who3 (x := sp) (y := sp) D0.out.p D0.out.q (by decide) (by decide) (k := 1) (by decide +kernel)).mono ?_
  rintro E wc ⟨rfl, hq⟩
  have D1 := Lib.hid (D0.out.below hq)
  have HCH := Lib.hid (charge_any D1.out.p oksp)
  clear hq D0
  go_wp2_with fail
  refine HCH.out.mono ?_
  rintro E wd ⟨rfl, hp, ho⟩
  have D2 : Hid (TwP w11.heap.size w11 wd ga gb sp0 sp) := Lib.hid (D1.out.op1 ho hp)
  clear hp ho D1 HCH
  go_wp2_with fail
  refine (who3 (x := sp0) (y := sp) D2.out.p D2.out.q (by decide) (by decide) (k := 2) (by decide +kernel)).mono ?_
  rintro E we ⟨rfl, hq⟩
  have D3 := Lib.hid (D2.out.below hq)
  have HLE := Lib.hid (leave_any D3.out.q oksp)
  clear hq D2
  go_wp2_with fail
  refine HLE.out.mono ?_
  rintro E wf ⟨rfl, hp, ho⟩
  have D4 : Hid (TwP w11.heap.size w11 wf ga gb sp0 sql) := Lib.hid (D3.out.op2 ho hp)
  have HTU := Lib.hid (turn_any D4.out.q (show Ok 1 sql from oksp.le) (by decide) 5)
  clear hp ho D3 HLE
  go_wp2_with fail
  refine HTU.out.mono ?_
  rintro E wg ⟨rfl, hp, ho⟩
  have D5 : Hid (TwP w11.heap.size w11 wg ga gb sp0 sqg) := Lib.hid (D4.out.op2 ho hp)
  clear hp ho D4 HTU
  have D6 := Lib.hid (D5.out.below (below_al wg (.cells #[.int .i64 0, .int .i64 0, .pointer none, .int .i64 0, .int .i64 0, .int .i64 0, .bool false] 63)))
  have Z6 := Lib.hid (zero_pp (w := wg.alloc (.cells #[.int .i64 0, .int .i64 0, .pointer none, .int .i64 0, .int .i64 0, .int .i64 0, .bool false] 63)) (b := wg.heap.size) (heap_alloc_new wg _))
  clear D5
  go_wp2_with fail
  have es : wg.heap.size + 1 = (wg.alloc (.cells #[.int .i64 0, .int .i64 0, .pointer none, .int .i64 0, .int .i64 0, .int .i64 0, .bool false] 63)).heap.size := (Array.size_push _).symm
  rw [es]
  clear es
  generalize wg.heap.size = gz at *
  generalize wg.alloc (.cells #[.int .i64 0, .int .i64 0, .pointer none, .int .i64 0, .int .i64 0, .int .i64 0, .bool false] 63) = W6 at *
  refine (who5 (x := sp0) (y := sqg) D6.out.p D6.out.q (by decide) (by decide) Z6.out (k := -1) (by decide +kernel)).mono ?_
  rintro E wh ⟨rfl, hq⟩
  have D7 := Lib.hid (D6.out.below hq)
  clear hq D6 Z6
  go_wp2_with fail
  refine (who_nil wh).mono ?_
  rintro E wi ⟨rfl, hq⟩
  have D8 := Lib.hid (D7.out.below hq)
  clear hq D7
  go_wp2_with fail
  refine (works_any _).mono ?_
  rintro E wj ⟨rfl, hq⟩
  have D9 := Lib.hid (D8.out.below hq)
  have HF := Lib.hid (chnB B11.out D9.out.bel)
  clear hq D8 D9
  go_wp2_with fail
  go_ret
  exact ⟨rfl, HF.out⟩
end Go.Proofs.Ytfjeoefnpcgnnaa.Pw
