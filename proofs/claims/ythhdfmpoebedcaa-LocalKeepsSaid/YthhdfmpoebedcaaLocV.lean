/- In which ticks a server runs: given. -/
import Derived.Test.YthhdfmpoebedcaaLocMb
import Derived.Test.YthhdfmpoebedcaaLocI
import Derived.OwnWalk
namespace Go.Proofs.Ythhdfmpoebedcaa
open Go.RowKit Tk De Dl Lo Su Go.Sort
set_option linter.unusedVariables false

/-- a row of bools, asked at a place -/
def bt (bs : List Bool) : Nat → Bool := fun i => bs.getD i false
theorem bt_snoc_lt {bs : List Bool} {b : Bool} {i : Nat} (h : i < bs.length) : bt (bs ++ [b]) i = bt bs i := by
  unfold bt; simp only [List.getD, List.getElem?_append_left h]
theorem bt_snoc_at {bs : List Bool} {b : Bool} {i : Nat} (h : i = bs.length) : bt (bs ++ [b]) i = b := by
  unfold bt; subst h; simp [List.getD]
theorem cnt_snoc {bs : List Bool} {b : Bool} {a n : Nat} (h : a + n ≤ bs.length) : cnt (bt (bs ++ [b])) a n = cnt (bt bs) a n := by
  induction n with
  | zero => rfl
  | succ n ih => rw [cnt_succ, cnt_succ, ih (by omega), bt_snoc_lt (by omega)]
/-- what stands behind k periods, and i ticks more -/
structure Rn (P B k i left : Nat) (bs : List Bool) : Prop where
  len : bs.length = k * P + i
  ok : Runs P B (bt bs) k
  now : cnt (bt bs) (k * P) i + left = B
  fit : left + i ≤ P
theorem Rn.start {P B k : Nat} {bs : List Bool} (h1 : bs.length = k * P) (h2 : Runs P B (bt bs) k) (hB : B ≤ P) : Rn P B k 0 B bs := ⟨by omega, h2, by simp [cnt], by omega⟩
theorem Rn.step {P B k i left : Nat} {bs : List Bool} (h : Rn P B k i left bs) (hi : i < P) {b : Bool} (hb : b = true → 0 < left) (hn : b = false → left + i < P) : Rn P B k (i + 1) (if b then left - 1 else left) (bs ++ [b]) := by
  refine ⟨by simp [h.len]; omega, ?_, ?_, ?_⟩
  · intro j hj
    have h1 := h.ok j hj
    have h2 : (j + 1) * P ≤ k * P := Nat.mul_le_mul_right _ (by omega)
    rw [Nat.add_mul, Nat.one_mul] at h2
    rw [cnt_snoc (by rw [h.len]; omega), h1]
  · rw [cnt_succ, cnt_snoc (by rw [h.len]; omega), bt_snoc_at h.len.symm]
    have := h.now
    cases b with
    | true => have := hb rfl; simp; omega
    | false => simp; omega
  · have := h.fit
    cases b with
    | true => have := hb rfl; simp; omega
    | false => have := hn rfl; simp; omega
theorem Rn.done {P B k left : Nat} {bs : List Bool} (h : Rn P B k P left bs) : bs.length = (k + 1) * P ∧ Runs P B (bt bs) (k + 1) := by
  refine ⟨by rw [h.len, Nat.add_mul, Nat.one_mul], fun j hj => ?_⟩
  by_cases e : j = k
  · subst e
    have := h.now; have := h.fit; omega
  · exact h.ok j (by omega)
theorem info4 : (Try.prog.info? 4).map (fun i => (i.zero, i.size, i.bytes)) = some (some (.bool false), 1, 1) := by kernel_rfl
/-- a row of bools of the call's own -/
def OB (W : World) (g : Nat) (v : Value) (bs : List Bool) : Prop := W.ownsRow g 4 1 v bs.length (bs.map Value.bool)
theorem OB.form {W : World} {g : Nat} {v : Value} {bs : List Bool} (h : OB W g v bs) : ∃ a cap, v = .slice a bs.length cap := by
  rcases h.2 with ⟨rfl, h0⟩ | ⟨g', cap, cur, rfl, _⟩
  · exact ⟨none, 0, by rw [h0]⟩
  · exact ⟨_, _, rfl⟩
def slen : Value → Nat
  | .slice _ n _ => n
  | _ => 0
theorem OB.slen {W : World} {g : Nat} {v : Value} {bs : List Bool} (h : OB W g v bs) : slen v = bs.length := by
  obtain ⟨a, cap, rfl⟩ := h.form
  rfl
theorem OB.read {W : World} {g : Nat} {a : Option Addr} {n cap : Nat} {bs : List Bool} (h : OB W g (.slice a n cap) bs) {i : Nat} (hi : i < bs.length) : ∃ b, a = some ⟨b, 0, none⟩ ∧ g ≤ b ∧ W.cell? ⟨b, i, none⟩ = some (.bool (bt bs i)) := by
  have hc := h
  rcases h.2 with ⟨_, h0⟩ | ⟨g', cap', cur, hv, hg, _⟩
  · omega
  · obtain ⟨rfl, _, _⟩ : a = some ⟨g', 0, none⟩ ∧ n = bs.length ∧ cap = cap' := by simpa using hv
    refine ⟨g', rfl, hg, ?_⟩
    have := World.ownsRow.cells hc (g := g') rfl i (.bool (bt bs i)) (by simp [bt, List.getD, hi])
    rwa [Addr.add_lit, Nat.zero_add] at this
theorem bring_bg (a : Int) (n : Nat) (w : World) (h : 0 < n) (hn : n ≤ 9007199254740992) : Calls Try.prog 9 #[.int .i64 a, .int .i64 n] w (IsN (bn a n : Nat) w) := by
  have e : ((bn a n : Nat) : Int) = a % (n : Int) := by
    unfold bn
    have h1 := Int.emod_nonneg a (show (n : Int) ≠ 0 by omega)
    omega
  rw [e]
  exact brings_any a n w (by omega) (by omega)
/-- what the partition's box, and what lay below it, are behind the row's making -/
def RV (w W : World) (P B : Nat) (ta : Option Addr) (tn tcap : Nat) : Prop := Below (w.heap.size + 1) (w.alloc (.cells #[.int .i64 P, .int .i64 B, .slice ta tn tcap] 33)) W
section
variable {w W : World} {P B : Nat} {ta : Option Addr} {tn tcap : Nat}
theorem RV.c0 (h : RV w W P B ta tn tcap) : W.cell? ⟨w.heap.size, 0, none⟩ = some (.int .i64 P) := cell_of_row _ _ 0 _ _ _ ((h.block w.heap.size (by omega)).trans (heap_alloc_new w _))
theorem RV.c1 (h : RV w W P B ta tn tcap) : W.cell? ⟨w.heap.size, 1, none⟩ = some (.int .i64 B) := cell_of_row _ _ 1 _ _ _ ((h.block w.heap.size (by omega)).trans (heap_alloc_new w _))
theorem RV.size (h : RV w W P B ta tn tcap) : w.heap.size + 1 ≤ W.heap.size := by have := Below.size h; simp at this; exact this
theorem RV.bel (h : RV w W P B ta tn tcap) : Below w.heap.size w W := ((Below.refl _ w).alloc (Nat.le_refl _) _).trans (h.mono (by omega))
end
theorem cell_one_b (w : World) (b : Bool) : ∀ j u, ([Value.bool b] : List Value)[j]? = some u → (w.alloc (.cells #[.bool b] 4)).cell? ((⟨w.heap.size, 0, none⟩ : Addr).add j) = some u := by
  intro j u hj
  cases j with
  | zero => simp at hj; subst hj; exact cell_of_row _ _ 0 _ _ _ (heap_alloc_new w _)
  | succ j => simp at hj
theorem one_b (b : Bool) : ∀ u ∈ ([Value.bool b] : List Value), u.oneCell' = true := by intro u hu; simp at hu; subst hu; rfl
theorem OB.push {w W w1 : World} {P B : Nat} {ta : Option Addr} {tn tcap : Nat} {v v' : Value} {bs : List Bool} {b : Bool} (hO : OB W (w.heap.size + 1) v bs) (hB : RV w W P B ta tn tcap) (hown : w1.ownsRow (w.heap.size + 1) 4 1 v' (bs.length + 1) (bs.map Value.bool ++ [.bool b]))
    (hgrow : (W.alloc (.cells #[.bool b] 4)).grownBy w1 v.ownBlock) : OB w1 (w.heap.size + 1) v' (bs ++ [b]) ∧ RV w w1 P B ta tn tcap := by
  refine ⟨by unfold OB; simpa using hown, ?_⟩
  have hs := hB.size
  exact Below.grown (Below.alloc hB hs _) hgrow (by simp; omega) (fun k hk => (hO.lt k hk).1)
theorem quo_mul {j P : Nat} (hP : 0 < P) : ((j * P : Nat) : Int).tdiv (P : Int) = (j : Int) := by
  rw [Int.tdiv_eq_ediv_of_nonneg (by omega)]
  have : (j * P) / P = j := Nat.mul_div_cancel j hP
  omega
set_option maxRecDepth 100000 in
set_option maxHeartbeats 4000000 in
theorem given_any {P B : Nat} {ta : Option Addr} {tn tcap : Nat} {w : World} {v : Value} {xs : List Int} (hB : 0 < B) (hBP : B ≤ P) (hP : P ≤ 64) (hx : IS w v xs) :
    Calls Try.prog 13 #[pv P B ta tn tcap, v, .slice none 0 0] w (fun e w' => ∃ u bs K, e = .returned u ∧ OB w' (w.heap.size + 1) u bs ∧ bs.length = K * P ∧ 400 ≤ bs.length ∧ bs.length ≤ 464 ∧ Runs P B (bt bs) K ∧ Below w.heap.size w w') := by
  obtain ⟨i0, hi, hz0, hz1, hz2⟩ := info_parts info4
  have HI := Lib.hid (⟨hi, hz0, hz1, hz2⟩ : _ ∧ _ ∧ _ ∧ _)
  clear hi hz0 hz1 hz2
  obtain ⟨a, cap, rfl, hcap, hmx⟩ := hx.slice
  have HX := Lib.hid hx
  clear hx
  obtain ⟨n, hn⟩ : ∃ n, n = xs.length := ⟨_, rfl⟩
  have HN := Lib.hid hn
  rw [← hn] at hcap HX ⊢
  unfold maxLen at hmx
  clear hn
  have HO := Lib.hid (World.ownsRow_nil w (w.heap.size + 1) 4 1)
  have HB0 : Hid (RV w (w.alloc (.cells #[.int .i64 P, .int .i64 B, .slice ta tn tcap] 33)) P B ta tn tcap) := Below.refl _ _
  go_enter Try.func13, Try.ntmps13
  go_wp2_with fail
  go_loopw [2, 7, 8, 9, 10] (fun v _ _ _ _ W => ∃ (j : Nat) (bs : List Bool), bs.length ≤ 464 ∧ bs.length = j * P ∧ Hid (Runs P B (bt bs) j) ∧ Hid (OB W (w.heap.size + 1) v bs) ∧ Hid (RV w W P B ta tn tcap)) (fun v _ _ _ _ _ => 1000 - slen v)
  case atStart => exact ⟨0, [], by simp, by simp, (fun j hj => by omega), HO.out.alloc _, HB0.out⟩
  case round =>
    clear HO HB0
    obtain ⟨j, bs, hb464, hlen, HRn, HO, HB⟩ := hrel
    have c0 := HB.out.c0
    have c1 := HB.out.c1
    obtain ⟨oa, ocap, hov⟩ := HO.out.form
    subst hov
    have HOV : Hid (slen (.slice oa bs.length ocap) = j * P) := hlen
    rw [hlen] at HOV HO ⊢
    have hO2 : OB wr (w.heap.size + 1) (.slice oa (j * P) ocap) bs := HO.out
    by_cases hlt : j * P < 400
    · have HLT := Lib.hid hlt
      have hjd : decide (((j * P : Nat) : Int) < 400) = true := by simp; omega
      have hjd2 : decide (j * P < 400) = true := by simp; omega
      have hq := quo_mul (j := j) (P := P) (by omega)
      have hpz : ((P : Int) == 0) = false := by simp; omega
      have hj400 : j ≤ 400 := by
        have : j * 1 ≤ j * P := Nat.mul_le_mul_left j (by omega)
        omega
      have hqw : wrap64 (j : Int) = j := by unfold wrap64; omega
      obtain ⟨LL, hLL⟩ : ∃ LL, LL = j * P := ⟨_, rfl⟩
      rw [← hLL] at hjd hjd2 hq HOV HO ⊢
      have HLL := Lib.hid hLL
      have HLN : Hid (bs.length = j * P) := hlen
      have HLT2 : Hid (LL < 400) := by unfold Hid; rw [hLL]; exact hlt
      clear hLL hO2 hj400 hb464 hlen hlt HLT
      cases hn0 : decide (0 < n) with
      | false =>
        go_wp2_with fail
        clear hjd hjd2 hq
        obtain ⟨wo, rfl⟩ : ∃ wo : World, wo = wr := ⟨_, rfl⟩
        go_loopw [2, 8, 9, 10] (fun v l i _ W => ∃ (k left : Nat) (bs : List Bool), k ≤ P ∧ i = .int .i64 k ∧ l = .int .i64 left ∧ left ≤ B ∧ Hid (Rn P B j k left bs) ∧ Hid (OB W (w.heap.size + 1) v bs) ∧ Hid (RV w W P B ta tn tcap)) (fun _ _ i _ _ => P - (intOf i).toNat)
        case atStart => exact ⟨0, B, bs, by omega, rfl, rfl, by omega, Rn.start HLN.out HRn.out hBP, HO.out, HB.out⟩
        case round =>
          clear HO HB HRn c0 c1
          obtain ⟨k, left, bs, hk, rfl, rfl, hl, HRn, HO, HB⟩ := hrel
          have c0 := HB.out.c0
          have c1 := HB.out.c1
          by_cases hlt2 : k < P
          · have hfit := HRn.out.fit
            obtain ⟨bit, hbit⟩ : ∃ bit : Bool, (bits BinOp.and IntKind.i64 0 1 == 1) = bit := ⟨_, rfl⟩
            have hks : (P : Int) - k = ((P - k : Nat) : Int) := by omega
            have hcases : ∃ (is : Bool) (l2 : Nat), l2 = (if is then left - 1 else left) ∧ (is = true → 0 < left) ∧ (is = false → left + k < P) ∧
                ((decide (0 < left) = false ∧ is = false) ∨ (decide (0 < left) = true ∧ decide (P ≤ left + k) = true ∧ is = true) ∨ (decide (0 < left) = true ∧ decide (P ≤ left + k) = false ∧ is = bit)) := by
              by_cases h1 : 0 < left
              · by_cases h2 : P ≤ left + k
                · exact ⟨true, _, rfl, fun _ => h1, fun h => (by cases h), Or.inr (Or.inl ⟨by simpa using h1, by simpa using h2, rfl⟩)⟩
                · exact ⟨bit, _, rfl, fun _ => h1, fun _ => by omega, Or.inr (Or.inr ⟨by simpa using h1, by simpa using h2, rfl⟩)⟩
              · exact ⟨false, _, rfl, fun h => (by cases h), fun _ => by omega, Or.inl ⟨by simpa using h1, rfl⟩⟩
            obtain ⟨is, l2, hl2, hs1, hs2, hc⟩ := hcases
            have HR2 := Lib.hid (HRn.out.step hlt2 hs1 hs2)
            rw [← hl2] at HR2
            have hl2e : Hid (is = true → (left : Int) - 1 = l2) := fun h => by have := hs1 h; rw [hl2, h]; simp; omega
            have hl2f : Hid (is = false → (left : Int) = l2) := fun h => by rw [hl2, h]; simp
            have hl2le : l2 ≤ B := by rw [hl2]; split <;> omega
            clear hl2 hs1 hs2
            have hbl : bs.length ≤ 464 := by
              rw [HRn.out.len, ← HLL.out]
              have h2 := HLT2.out
              omega
            have Hm1 : Hid (bs.length + 1 ≤ maxLen) := by unfold Hid maxLen; omega
            have Hm2 : Hid ((bs.length + 1) * 1 ≤ 140737488355328) := by unfold Hid; omega
            have Hm3 : ∀ b : Bool, Hid (w.heap.size + 1 ≤ (wr.alloc (.cells #[.bool b] 4)).heap.size) := fun b => by have := HB.out.size; unfold Hid; simp; omega
            clear hbl
            rcases hc with ⟨h1, rfl⟩ | ⟨h1, h2, rfl⟩ | ⟨h1, h2, rfl⟩
            · have hl0 : left = 0 := by have := of_decide_eq_false h1; omega
              subst hl0
              go_wp2_with (at_builtin; refine wpList_append_own _ rfl _ _ 39 rfl (w.heap.size + 1) 4 i0 (.bool false) 1 1 Try.underlying39 HI.out.1 HI.out.2.1 HI.out.2.2.1 HI.out.2.2.2 rfl (by decide) _ bs.length _ rfl (World.ownsRow.alloc HO.out _) ⟨wr.heap.size, 0, none⟩ 1 1 [.bool false] rfl rfl (cell_one_b _ _) (one_b _) Hm1.out Hm2.out (Hm3 _).out ?_)
              intro v' w1 hown hgrow _
              have HP := Lib.hid (OB.push HO.out HB.out hown hgrow)
              clear hown hgrow
              go_wp2_with fail
              go_roundw
              case rel => exact ⟨k + 1, l2, bs ++ [false], by omega, by go_num, congrArg (Value.int .i64) (hl2f.out (by first | rfl | trivial)), hl2le, HR2.out, HP.out.1, HP.out.2⟩
              case measure => simp [intOf]; omega
            · go_wp2_with (at_builtin; refine wpList_append_own _ rfl _ _ 39 rfl (w.heap.size + 1) 4 i0 (.bool false) 1 1 Try.underlying39 HI.out.1 HI.out.2.1 HI.out.2.2.1 HI.out.2.2.2 rfl (by decide) _ bs.length _ rfl (World.ownsRow.alloc HO.out _) ⟨wr.heap.size, 0, none⟩ 1 1 [.bool true] rfl rfl (cell_one_b _ _) (one_b _) Hm1.out Hm2.out (Hm3 _).out ?_)
              intro v' w1 hown hgrow _
              have HP := Lib.hid (OB.push HO.out HB.out hown hgrow)
              clear hown hgrow
              go_wp2_with fail
              go_roundw
              case rel => exact ⟨k + 1, l2, bs ++ [true], by omega, by go_num, congrArg (Value.int .i64) (hl2e.out (by first | rfl | trivial)), hl2le, HR2.out, HP.out.1, HP.out.2⟩
              case measure => simp [intOf]; omega
            · cases is with
              | true =>
                go_wp2_with (at_builtin; refine wpList_append_own _ rfl _ _ 39 rfl (w.heap.size + 1) 4 i0 (.bool false) 1 1 Try.underlying39 HI.out.1 HI.out.2.1 HI.out.2.2.1 HI.out.2.2.2 rfl (by decide) _ bs.length _ rfl (World.ownsRow.alloc HO.out _) ⟨wr.heap.size, 0, none⟩ 1 1 [.bool true] rfl rfl (cell_one_b _ _) (one_b _) Hm1.out Hm2.out (Hm3 _).out ?_)
                intro v' w1 hown hgrow _
                have HP := Lib.hid (OB.push HO.out HB.out hown hgrow)
                clear hown hgrow
                go_wp2_with fail
                go_roundw
                case rel => exact ⟨k + 1, l2, bs ++ [true], by omega, by go_num, congrArg (Value.int .i64) (hl2e.out (by first | rfl | trivial)), hl2le, HR2.out, HP.out.1, HP.out.2⟩
                case measure => simp [intOf]; omega
              | false =>
                go_wp2_with (at_builtin; refine wpList_append_own _ rfl _ _ 39 rfl (w.heap.size + 1) 4 i0 (.bool false) 1 1 Try.underlying39 HI.out.1 HI.out.2.1 HI.out.2.2.1 HI.out.2.2.2 rfl (by decide) _ bs.length _ rfl (World.ownsRow.alloc HO.out _) ⟨wr.heap.size, 0, none⟩ 1 1 [.bool false] rfl rfl (cell_one_b _ _) (one_b _) Hm1.out Hm2.out (Hm3 _).out ?_)
                intro v' w1 hown hgrow _
                have HP := Lib.hid (OB.push HO.out HB.out hown hgrow)
                clear hown hgrow
                go_wp2_with fail
                go_roundw
                case rel => exact ⟨k + 1, l2, bs ++ [false], by omega, by go_num, congrArg (Value.int .i64) (hl2f.out (by first | rfl | trivial)), hl2le, HR2.out, HP.out.1, HP.out.2⟩
                case measure => simp [intOf]; omega
          · obtain rfl : k = P := by omega
            have HD := Lib.hid HRn.out.done
            go_wp2_with fail
            go_roundw
            case rel => exact ⟨j + 1, bs, by rw [HD.out.1, Nat.add_mul, ← HLL.out]; have := HLT2.out; omega, HD.out.1, HD.out.2, HO.out, HB.out⟩
            case measure =>
              rw [HO.out.slen, HD.out.1, Nat.add_mul, ← HLL.out]
              show 1000 - _ < 1000 - LL
              have := HLT2.out
              omega
      | true =>
        have hnp := of_decide_eq_true hn0
        have hm := Nat.mod_lt j hnp
        obtain ⟨b, off, rfl, cx⟩ := (HX.out.below HB.out.bel).at (i := j % n) hm
        obtain ⟨z, hz⟩ : ∃ z, z = xs.getD (j % n) 0 := ⟨_, rfl⟩
        rw [← hz] at cx
        have HBr := Lib.hid (fun w => bring_bg z 1048576 w (by decide) (by decide))
        obtain ⟨X, hX⟩ : ∃ X, X = bn z 1048576 := ⟨_, rfl⟩
        have hX2 : X < 1048576 := by rw [hX]; exact bn_lt z (by decide)
        rw [← hX] at HBr
        have hnz : ((n : Int) == 0) = false := by simp; omega
        have hmod : (j : Int).tmod (n : Int) = ((j % n : Nat) : Int) := by rw [Int.tmod_eq_emod_of_nonneg (by omega)]; rfl
        have hmod2 : ((j : Int)) % n = ((j % n : Nat) : Int) := rfl
        have hnx : n ≤ 9223372036854775807 := by omega
        generalize j % n = qq at *
        have hqi : (qq : Int) < n := by omega
        have hq0 : (0 : Int) ≤ qq := by omega
        clear hz hX
        go_wp2_with fail
        refine (HBr.out _).mono ?_
        rintro e w2 ⟨rfl, rfl⟩
        go_wp2_with fail
        clear hjd hjd2 hq cx hmod hmod2
        obtain ⟨wo, rfl⟩ : ∃ wo : World, wo = wr := ⟨_, rfl⟩
        go_loopw [2, 8, 9, 10] (fun v l i _ W => ∃ (k left : Nat) (bs : List Bool), k ≤ P ∧ i = .int .i64 k ∧ l = .int .i64 left ∧ left ≤ B ∧ Hid (Rn P B j k left bs) ∧ Hid (OB W (w.heap.size + 1) v bs) ∧ Hid (RV w W P B ta tn tcap)) (fun _ _ i _ _ => P - (intOf i).toNat)
        case atStart => exact ⟨0, B, bs, by omega, rfl, rfl, by omega, Rn.start HLN.out HRn.out hBP, HO.out, HB.out⟩
        case round =>
          clear HO HB HRn c0 c1
          obtain ⟨k, left, bs, hk, rfl, rfl, hl, HRn, HO, HB⟩ := hrel
          have c0 := HB.out.c0
          have c1 := HB.out.c1
          by_cases hlt2 : k < P
          · have hfit := HRn.out.fit
            obtain ⟨bit, hbit⟩ : ∃ bit : Bool, (bits BinOp.and IntKind.i64 ((X : Int) / 2 ^ (k % 20)) 1 == 1) = bit := ⟨_, rfl⟩
            have hks : (P : Int) - k = ((P - k : Nat) : Int) := by omega
            have hcases : ∃ (is : Bool) (l2 : Nat), l2 = (if is then left - 1 else left) ∧ (is = true → 0 < left) ∧ (is = false → left + k < P) ∧
                ((decide (0 < left) = false ∧ is = false) ∨ (decide (0 < left) = true ∧ decide (P ≤ left + k) = true ∧ is = true) ∨ (decide (0 < left) = true ∧ decide (P ≤ left + k) = false ∧ is = bit)) := by
              by_cases h1 : 0 < left
              · by_cases h2 : P ≤ left + k
                · exact ⟨true, _, rfl, fun _ => h1, fun h => (by cases h), Or.inr (Or.inl ⟨by simpa using h1, by simpa using h2, rfl⟩)⟩
                · exact ⟨bit, _, rfl, fun _ => h1, fun _ => by omega, Or.inr (Or.inr ⟨by simpa using h1, by simpa using h2, rfl⟩)⟩
              · exact ⟨false, _, rfl, fun h => (by cases h), fun _ => by omega, Or.inl ⟨by simpa using h1, rfl⟩⟩
            obtain ⟨is, l2, hl2, hs1, hs2, hc⟩ := hcases
            have HR2 := Lib.hid (HRn.out.step hlt2 hs1 hs2)
            rw [← hl2] at HR2
            have hl2e : Hid (is = true → (left : Int) - 1 = l2) := fun h => by have := hs1 h; rw [hl2, h]; simp; omega
            have hl2f : Hid (is = false → (left : Int) = l2) := fun h => by rw [hl2, h]; simp
            have hl2le : l2 ≤ B := by rw [hl2]; split <;> omega
            clear hl2 hs1 hs2
            have hbl : bs.length ≤ 464 := by
              rw [HRn.out.len, ← HLL.out]
              have h2 := HLT2.out
              omega
            have Hm1 : Hid (bs.length + 1 ≤ maxLen) := by unfold Hid maxLen; omega
            have Hm2 : Hid ((bs.length + 1) * 1 ≤ 140737488355328) := by unfold Hid; omega
            have Hm3 : ∀ b : Bool, Hid (w.heap.size + 1 ≤ (wr.alloc (.cells #[.bool b] 4)).heap.size) := fun b => by have := HB.out.size; unfold Hid; simp; omega
            clear hbl
            rcases hc with ⟨h1, rfl⟩ | ⟨h1, h2, rfl⟩ | ⟨h1, h2, rfl⟩
            · have hl0 : left = 0 := by have := of_decide_eq_false h1; omega
              subst hl0
              go_wp2_with (at_builtin; refine wpList_append_own _ rfl _ _ 39 rfl (w.heap.size + 1) 4 i0 (.bool false) 1 1 Try.underlying39 HI.out.1 HI.out.2.1 HI.out.2.2.1 HI.out.2.2.2 rfl (by decide) _ bs.length _ rfl (World.ownsRow.alloc HO.out _) ⟨wr.heap.size, 0, none⟩ 1 1 [.bool false] rfl rfl (cell_one_b _ _) (one_b _) Hm1.out Hm2.out (Hm3 _).out ?_)
              intro v' w1 hown hgrow _
              have HP := Lib.hid (OB.push HO.out HB.out hown hgrow)
              clear hown hgrow
              go_wp2_with fail
              go_roundw
              case rel => exact ⟨k + 1, l2, bs ++ [false], by omega, by go_num, congrArg (Value.int .i64) (hl2f.out (by first | rfl | trivial)), hl2le, HR2.out, HP.out.1, HP.out.2⟩
              case measure => simp [intOf]; omega
            · go_wp2_with (at_builtin; refine wpList_append_own _ rfl _ _ 39 rfl (w.heap.size + 1) 4 i0 (.bool false) 1 1 Try.underlying39 HI.out.1 HI.out.2.1 HI.out.2.2.1 HI.out.2.2.2 rfl (by decide) _ bs.length _ rfl (World.ownsRow.alloc HO.out _) ⟨wr.heap.size, 0, none⟩ 1 1 [.bool true] rfl rfl (cell_one_b _ _) (one_b _) Hm1.out Hm2.out (Hm3 _).out ?_)
              intro v' w1 hown hgrow _
              have HP := Lib.hid (OB.push HO.out HB.out hown hgrow)
              clear hown hgrow
              go_wp2_with fail
              go_roundw
              case rel => exact ⟨k + 1, l2, bs ++ [true], by omega, by go_num, congrArg (Value.int .i64) (hl2e.out (by first | rfl | trivial)), hl2le, HR2.out, HP.out.1, HP.out.2⟩
              case measure => simp [intOf]; omega
            · cases is with
              | true =>
                go_wp2_with (at_builtin; refine wpList_append_own _ rfl _ _ 39 rfl (w.heap.size + 1) 4 i0 (.bool false) 1 1 Try.underlying39 HI.out.1 HI.out.2.1 HI.out.2.2.1 HI.out.2.2.2 rfl (by decide) _ bs.length _ rfl (World.ownsRow.alloc HO.out _) ⟨wr.heap.size, 0, none⟩ 1 1 [.bool true] rfl rfl (cell_one_b _ _) (one_b _) Hm1.out Hm2.out (Hm3 _).out ?_)
                intro v' w1 hown hgrow _
                have HP := Lib.hid (OB.push HO.out HB.out hown hgrow)
                clear hown hgrow
                go_wp2_with fail
                go_roundw
                case rel => exact ⟨k + 1, l2, bs ++ [true], by omega, by go_num, congrArg (Value.int .i64) (hl2e.out (by first | rfl | trivial)), hl2le, HR2.out, HP.out.1, HP.out.2⟩
                case measure => simp [intOf]; omega
              | false =>
                go_wp2_with (at_builtin; refine wpList_append_own _ rfl _ _ 39 rfl (w.heap.size + 1) 4 i0 (.bool false) 1 1 Try.underlying39 HI.out.1 HI.out.2.1 HI.out.2.2.1 HI.out.2.2.2 rfl (by decide) _ bs.length _ rfl (World.ownsRow.alloc HO.out _) ⟨wr.heap.size, 0, none⟩ 1 1 [.bool false] rfl rfl (cell_one_b _ _) (one_b _) Hm1.out Hm2.out (Hm3 _).out ?_)
                intro v' w1 hown hgrow _
                have HP := Lib.hid (OB.push HO.out HB.out hown hgrow)
                clear hown hgrow
                go_wp2_with fail
                go_roundw
                case rel => exact ⟨k + 1, l2, bs ++ [false], by omega, by go_num, congrArg (Value.int .i64) (hl2f.out (by first | rfl | trivial)), hl2le, HR2.out, HP.out.1, HP.out.2⟩
                case measure => simp [intOf]; omega
          · obtain rfl : k = P := by omega
            have HD := Lib.hid HRn.out.done
            go_wp2_with fail
            go_roundw
            case rel => exact ⟨j + 1, bs, by rw [HD.out.1, Nat.add_mul, ← HLL.out]; have := HLT2.out; omega, HD.out.1, HD.out.2, HO.out, HB.out⟩
            case measure =>
              rw [HO.out.slen, HD.out.1, Nat.add_mul, ← HLL.out]
              show 1000 - _ < 1000 - LL
              have := HLT2.out
              omega
    · have hjd : decide (((j * P : Nat) : Int) < 400) = false := by simp; omega
      have hjd2 : decide (j * P < 400) = false := by simp; omega
      go_wp2_with fail
      go_ret
      exact ⟨_, bs, j, rfl, hO2, hlen, by omega, hb464, HRn.out, HB.out.bel⟩
end Go.Proofs.Ythhdfmpoebedcaa
