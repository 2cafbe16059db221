/- Those that are in, gathered. -/
import Derived.Test.YtbdiekolkniajaaGatE
namespace Go.Proofs.Ytbdiekolkniajaa
open Go.RowKit Tk De Dl Gt
set_option linter.unusedVariables false

/-! plainly -/
def isQ (q : Pn × Value) : Bool := decide (q.1.per > 0)
def filt (l : List (Pn × Value)) : List (Pn × Value) := l.filter isQ
def ixs (l : List (Pn × Value)) : List Nat := (List.range l.length).filter fun i => isQ (l.getD i pr0)
theorem take_snoc {α : Type} {l : List α} {d : α} {k : Nat} (hk : k < l.length) : l.take (k + 1) = l.take k ++ [l.getD k d] := by
  rw [List.take_succ_eq_append_getElem hk]
  simp [List.getD, List.getElem?_eq_getElem hk]
theorem filt_yes {l : List (Pn × Value)} {k : Nat} (hk : k < l.length) (h : isQ (l.getD k pr0) = true) : filt (l.take (k + 1)) = filt (l.take k) ++ [l.getD k pr0] := by
  unfold filt
  rw [take_snoc (d := pr0) hk, List.filter_append]
  generalize l.getD k pr0 = x at *
  simp [h]
theorem filt_no {l : List (Pn × Value)} {k : Nat} (hk : k < l.length) (h : isQ (l.getD k pr0) = false) : filt (l.take (k + 1)) = filt (l.take k) := by
  unfold filt
  rw [take_snoc (d := pr0) hk, List.filter_append]
  generalize l.getD k pr0 = x at *
  simp [h]
theorem ixs_at (l : List (Pn × Value)) {k : Nat} (hk : k ≤ l.length) : ixs (l.take k) = (List.range k).filter fun i => isQ (l.getD i pr0) := by
  unfold ixs
  rw [List.length_take, Nat.min_eq_left hk]
  refine List.filter_congr fun i hi => ?_
  have := List.mem_range.1 hi
  congr 1
  simp [List.getD, this]
theorem ixs_yes {l : List (Pn × Value)} {k : Nat} (hk : k < l.length) (h : isQ (l.getD k pr0) = true) : ixs (l.take (k + 1)) = ixs (l.take k) ++ [k] := by
  rw [ixs_at l (by omega), ixs_at l (by omega), List.range_succ, List.filter_append]
  simp only [List.filter_cons, h, List.filter_nil, if_true]
theorem ixs_no {l : List (Pn × Value)} {k : Nat} (hk : k < l.length) (h : isQ (l.getD k pr0) = false) : ixs (l.take (k + 1)) = ixs (l.take k) := by
  rw [ixs_at l (by omega), ixs_at l (by omega), List.range_succ, List.filter_append]
  simp only [List.filter_cons, h, List.filter_nil, Bool.false_eq_true, if_false, List.append_nil]
theorem filt_len : ∀ l : List (Pn × Value), (filt l).length ≤ l.length := fun l => List.length_filter_le _ _
/-- two numbers, each of its own row -/
theorem infoIt : (Try.prog.info? 3).map (fun i => (i.zero, i.size, i.bytes)) = some (some (.int .i64 0), 1, 8) := by kernel_rfl
def OPs (W : World) (B : Nat) (v : Value) (l : List (Pn × Value)) : Prop := W.ownsRow B 43 3 v l.length (pcells l)
def ONs (W : World) (B : Nat) (v : Value) (l : List Nat) : Prop := W.ownsRow B 3 1 v l.length (l.map fun i => Value.int .i64 (i : Nat))
def GthP (w : World) (l : List (Pn × Value)) (e : Ending) (w' : World) : Prop := ∃ u m, e = .returned (.tuple #[u, m]) ∧ OPs w' w.heap.size u (filt l) ∧ ONs w' w.heap.size m (ixs l) ∧ Below w.heap.size w w'
theorem one_i (i : Int) : ∀ u ∈ ([Value.int .i64 i] : List Value), u.oneCell' = true := by intro u hu; simp at hu; subst hu; rfl
theorem PB_.at {W : World} {g : Nat} {l : List (Pn × Value)} (h : PB_ W g l) {i : Nat} (hi : i < l.length) : W.cell? ⟨g, i * 3, none⟩ = some (.int .i64 (l.getD i pr0).1.per) ∧ W.cell? ⟨g, i * 3 + 1, none⟩ = some (.int .i64 (l.getD i pr0).1.bud) ∧ W.cell? ⟨g, i * 3 + 2, none⟩ = some (l.getD i pr0).2 := by
  obtain ⟨a0, a1, a2⟩ := pcells_at hi
  refine ⟨?_, ?_, ?_⟩
  · rw [cell_of_row _ _ _ _ _ _ h, List.getElem?_toArray]; exact a0
  · rw [cell_of_row _ _ _ _ _ _ h, List.getElem?_toArray]; exact a1
  · rw [cell_of_row _ _ _ _ _ _ h, List.getElem?_toArray]; exact a2
theorem PB_.below {W W' : World} {g : Nat} {l : List (Pn × Value)} (h : PB_ W g l) (q : Below W.heap.size W W') : PB_ W' g l := (q.block _ (lt_of_block h)).trans h
theorem filt_take (l : List (Pn × Value)) (k : Nat) : (filt (l.take k)).length ≤ k := Nat.le_trans (filt_len _) (by rw [List.length_take]; omega)
theorem ixs_take (l : List (Pn × Value)) {k : Nat} (hk : k ≤ l.length) : (ixs (l.take k)).length = (filt (l.take k)).length := by
  induction k with
  | zero => rfl
  | succ k ih =>
    have ih := ih (by omega)
    cases h : isQ (l.getD k pr0) with
    | true => rw [filt_yes hk h, ixs_yes hk h, List.length_append, List.length_append, ih]; rfl
    | false => rw [filt_no hk h, ixs_no hk h, ih]
theorem gth_one {w wr w5 : World} {B : Nat} {u v' m : Value} {fl : List (Pn × Value)} {ix : List Nat} {q : Pn × Value} (o1 o2 : Obj) (h1 : OPs wr B u fl) (h2 : ONs wr B m ix) (h3 : Below B w wr) (hB : B ≤ wr.heap.size)
    (hown : w5.ownsRow B 43 3 v' (fl.length + 1) (pcells fl ++ [.int .i64 q.1.per, .int .i64 q.1.bud, q.2])) (hgrow : ((wr.alloc o1).alloc o2).grownBy w5 u.ownBlock) : OPs w5 B v' (fl ++ [q]) ∧ ONs w5 B m ix ∧ Below B w w5 := by
  have a1 := World.ownsRow.alloc (World.ownsRow.alloc h1 o1) o2
  have a2 := World.ownsRow.alloc (World.ownsRow.alloc h2 o1) o2
  refine ⟨?_, a2.kept hgrow (own_two a2 a1 (by decide)), ?_⟩
  · unfold OPs
    rw [pcells_app, List.length_append]
    exact hown
  · exact ((h3.alloc hB o1).alloc (by rw [World.size_alloc]; omega) o2).grown hgrow (by rw [World.size_alloc, World.size_alloc]; omega) (fun x hx => (World.ownsRow.lt a1 x hx).1)
theorem gth_two {w wr w5 : World} {B : Nat} {u v' m : Value} {fl : List (Pn × Value)} {ix : List Nat} {k : Nat} (o1 : Obj) (h1 : OPs wr B u fl) (h2 : ONs wr B m ix) (h3 : Below B w wr) (hB : B ≤ wr.heap.size)
    (hown : w5.ownsRow B 3 1 v' (ix.length + 1) ((ix.map fun i => Value.int .i64 (i : Nat)) ++ [.int .i64 (k : Nat)])) (hgrow : (wr.alloc o1).grownBy w5 m.ownBlock) : OPs w5 B u fl ∧ ONs w5 B v' (ix ++ [k]) ∧ Below B w w5 := by
  have a1 := World.ownsRow.alloc h1 o1
  have a2 := World.ownsRow.alloc h2 o1
  refine ⟨a1.kept hgrow (own_two a1 a2 (by decide)), ?_, ?_⟩
  · unfold ONs
    rw [List.map_append, List.length_append]
    exact hown
  · exact (h3.alloc hB o1).grown hgrow (by rw [World.size_alloc]; omega) (fun x hx => (World.ownsRow.lt a2 x hx).1)
theorem own_slc {W : World} {B e s n : Nat} {v : Value} {xs : List Value} (h : W.ownsRow B e s v n xs) : ∃ a c, v = .slice a n c := by
  rcases h.2 with ⟨rfl, rfl⟩ | ⟨g, cap, cur, rfl, _⟩
  · exact ⟨_, _, rfl⟩
  · exact ⟨_, _, rfl⟩
theorem grown_size {w w' : World} {b : Option Nat} (h : w.grownBy w' b) : w.heap.size ≤ w'.heap.size := by obtain ⟨_, _, _, h4, _⟩ := h; exact h4
set_option maxHeartbeats 2000000 in
theorem gathered_any {w : World} {g : Nat} {l : List (Pn × Value)} (h : PB_ w g l) (hn : l.length ≤ 4) (ho : ∀ q ∈ l, ∃ a n c, q.2 = .slice a n c) : Calls Try.prog 20 #[.slice (some ⟨g, 0, none⟩) l.length l.length] w (GthP w l) := by
  obtain ⟨i0, hi, hz0, hz1, hz2⟩ := info_parts infoPa
  have HI := Lib.hid (⟨hi, hz0, hz1, hz2⟩ : _ ∧ _ ∧ _ ∧ _)
  obtain ⟨i1, hj, hy0, hy1, hy2⟩ := info_parts infoIt
  have HJ := Lib.hid (⟨hj, hy0, hy1, hy2⟩ : _ ∧ _ ∧ _ ∧ _)
  obtain ⟨n, hnn⟩ : ∃ n, n = l.length := ⟨_, rfl⟩
  have HN := Lib.hid hnn
  have HP := Lib.hid h
  have HO := Lib.hid ho
  rw [← hnn] at hn ⊢
  obtain ⟨B, hB⟩ : ∃ B, B = w.heap.size := ⟨_, rfl⟩
  have HB := Lib.hid hB
  have HA : Hid (Below B w w) := Below.refl _ _
  unfold GthP
  rw [← hB]
  clear hi hz0 hz1 hz2 hj hy0 hy1 hy2 h ho hnn hB
  go_enter Try.func20, Try.ntmps20
  go_wp2_with fail
  go_loopw [2, 3, 8] (fun u m i wr => ∃ k : Nat, k ≤ n ∧ i = .int .i64 k ∧ (∃ ua uc, u = .slice ua (filt (l.take k)).length uc) ∧ (∃ ma mc, m = .slice ma (filt (l.take k)).length mc) ∧ Hid (OPs wr B u (filt (l.take k)) ∧ ONs wr B m (ixs (l.take k)) ∧ Below B w wr)) (fun _ _ i _ => n - (intOf i).toNat)
  case atStart => exact ⟨0, by omega, rfl, ⟨none, 0, rfl⟩, ⟨none, 0, rfl⟩, World.ownsRow_nil _ _ _ _, World.ownsRow_nil _ _ _ _, HA.out⟩
  case round =>
    clear HA
    obtain ⟨k, hk, rfl, ⟨ua, uc, rfl⟩, ⟨ma, mc, rfl⟩, HS⟩ := hrel
    by_cases hlt : k < n
    · have hkl : k < l.length := by rw [← HN.out]; exact hlt
      obtain ⟨d0, d1, d2⟩ := (HP.out.below (by rw [← HB.out]; exact HS.out.2.2)).at hkl
      have HFY := Lib.hid (filt_yes hkl)
      have HFN := Lib.hid (filt_no hkl)
      have HXY := Lib.hid (ixs_yes hkl)
      have HXN := Lib.hid (ixs_no hkl)
      have HXL := Lib.hid (ixs_take l (k := k) (by omega))
      obtain ⟨ta, tn, tc, htv⟩ := HO.out (l.getD k pr0) (by
        have : l.getD k pr0 = l[k] := by simp [List.getD, List.getElem?_eq_getElem hkl]
        rw [this]; exact List.getElem_mem hkl)
      obtain ⟨q, hq⟩ : ∃ q, q = l.getD k pr0 := ⟨_, rfl⟩
      rw [← hq] at d0 d1 d2 HFY HFN HXY HXN htv
      rw [htv] at d2
      have hfl := filt_take l k
      obtain ⟨fl, hfl2⟩ : ∃ fl, fl = filt (l.take k) := ⟨_, rfl⟩
      obtain ⟨ix, hix⟩ : ∃ ix, ix = ixs (l.take k) := ⟨_, rfl⟩
      rw [← hfl2] at HS hfl HXL HFY HFN
      rw [← hix] at HS HXL HXY HXN
      rw [← hfl2]
      obtain ⟨f, hf⟩ : ∃ f, f = fl.length := ⟨_, rfl⟩
      rw [← hf] at hfl HXL HS ⊢
      have HFL := Lib.hid hf
      have HB0 : Hid (B ≤ wr.heap.size) := by have := HS.out.2.2.size; rw [HB.out]; exact this
      obtain ⟨⟨per, bud, tn0, tz⟩, tv⟩ := q
      dsimp only at d0 d1 d2
      have htv2 : tv = .slice ta tn tc := htv
      subst htv2
      clear hfl2 hix hq hf htv
      cases hp : decide (per > 0) with
      | true =>
        have HY1 := Lib.hid (HFY.out hp)
        have HY2 := Lib.hid (HXY.out hp)
        have HX2 : Hid (ix.length = f) := HXL.out
        have HOP : Hid (wr.ownsRow B 43 3 (.slice ua f uc) f (pcells fl)) := by
          have := HS.out.1
          unfold OPs at this
          rw [← HFL.out] at this
          exact this
        have Hm1 : Hid (f + 1 ≤ maxLen) := by unfold Hid maxLen; omega
        have Hm2 : Hid ((f + 1) * 40 ≤ 140737488355328) := by unfold Hid; omega
        have Hm3 : Hid ((f + 1) * 8 ≤ 140737488355328) := by unfold Hid; omega
        have HG1 : Hid (∀ v' w5, w5.ownsRow B 43 3 v' (f + 1) (pcells fl ++ [.int .i64 per, .int .i64 bud, .slice ta tn tc]) → ((wr.alloc (.cells #[.int .i64 per, .int .i64 bud, .slice ta tn tc] 43)).alloc (.cells #[.int .i64 per, .int .i64 bud, .slice ta tn tc] 43)).grownBy w5 (Value.slice ua f uc).ownBlock →
            OPs w5 B v' (fl ++ [(⟨per, bud, tn0, tz⟩, .slice ta tn tc)]) ∧ ONs w5 B (.slice ma f mc) ix ∧ Below B w w5 ∧ B ≤ w5.heap.size) := fun v' w5 a b => by
          have c := gth_one (q := (⟨per, bud, tn0, tz⟩, .slice ta tn tc)) _ _ HS.out.1 HS.out.2.1 HS.out.2.2 HB0.out (by rw [← HFL.out]; exact a) b
          exact ⟨c.1, c.2.1, c.2.2, by have := grown_size b; rw [World.size_alloc, World.size_alloc] at this; have := HB0.out; omega⟩
        clear HFY HFN HXY HXN HXL hfl
        go_wp2_with (first
          | (at_builtin; refine wpList_append_own _ rfl _ _ 22 rfl B 43 i0 (.agg #[.int .i64 0, .int .i64 0, .slice none 0 0]) 3 40 Try.underlying22 HI.out.1 HI.out.2.1 HI.out.2.2.1 HI.out.2.2.2 rfl (by decide) _ f _ rfl (World.ownsRow.alloc (World.ownsRow.alloc HOP.out _) _) ⟨wr.heap.size + 1, 0, none⟩ 1 1 [.int .i64 per, .int .i64 bud, .slice ta tn tc] rfl rfl (lit_add (by simp) _ _) (pt_one _ _ _ rfl) Hm1.out Hm2.out (by have := HB0.out; rw [World.size_alloc, World.size_alloc]; omega) ?_; intro v' w5 hown hgrow _; have HS5 := Lib.hid (HG1.out v' w5 hown hgrow); clear hown hgrow)
          | (at_builtin; refine wpList_append_own _ rfl _ _ 50 rfl B 3 i1 (.int .i64 0) 1 8 Try.underlying50 HJ.out.1 HJ.out.2.1 HJ.out.2.2.1 HJ.out.2.2.2 rfl (by decide) _ f _ rfl (by have := HS5.out.2.1; unfold ONs at this; rw [HX2.out] at this; exact World.ownsRow.alloc this _) ⟨w5.heap.size, 0, none⟩ 1 1 [.int .i64 (k : Nat)] rfl rfl (lit_add (by simp) _ _) (one_i _) Hm1.out Hm3.out (by have := HS5.out.2.2.2; rw [World.size_alloc]; omega) ?_; intro v'' w6 hown2 hgrow2 _; have HS6 := Lib.hid (gth_two _ HS5.out.1 HS5.out.2.1 HS5.out.2.2.1 HS5.out.2.2.2 (by rw [HX2.out]; exact hown2) hgrow2); clear hown2 hgrow2))
        obtain ⟨u2, c2, rfl⟩ := own_slc HS6.out.1
        obtain ⟨u3, c3, rfl⟩ := own_slc HS6.out.2.1
        have HL3 : Hid ((ix ++ [k]).length = (filt (l.take (k + 1))).length) := by
          unfold Hid
          rw [HY1.out, List.length_append, List.length_append, HX2.out, HFL.out]
          rfl
        go_roundw
        case rel => exact ⟨k + 1, by omega, by go_num, ⟨_, _, by rw [HY1.out]⟩, ⟨_, _, by rw [HL3.out]⟩, by rw [HY1.out, HY2.out]; exact HS6.out⟩
        case measure => simp [intOf]; omega
      | false =>
        have HY1 := Lib.hid (HFN.out hp)
        have HY2 := Lib.hid (HXN.out hp)
        have HS6 : Hid (OPs (wr.alloc (.cells #[.int .i64 per, .int .i64 bud, .slice ta tn tc] 43)) B (.slice ua f uc) fl ∧ ONs (wr.alloc (.cells #[.int .i64 per, .int .i64 bud, .slice ta tn tc] 43)) B (.slice ma f mc) ix ∧ Below B w (wr.alloc (.cells #[.int .i64 per, .int .i64 bud, .slice ta tn tc] 43))) :=
          ⟨World.ownsRow.alloc HS.out.1 _, World.ownsRow.alloc HS.out.2.1 _, HS.out.2.2.alloc HB0.out _⟩
        clear HFY HFN HXY HXN HXL hfl
        go_wp2_with fail
        go_roundw
        case rel => exact ⟨k + 1, by omega, by go_num, ⟨_, _, by rw [HY1.out, HFL.out]⟩, ⟨_, _, by rw [HY1.out, HFL.out]⟩, by rw [HY1.out, HY2.out]; exact HS6.out⟩
        case measure => simp [intOf]; omega
    · obtain rfl : k = n := by omega
      have HF := HS
      rw [List.take_of_length_le (by rw [← HN.out]; exact Nat.le_refl _)] at HF ⊢
      clear HS
      generalize (filt l).length = f at *
      go_wp2_with fail
      go_ret2
      exact ⟨_, _, rfl, HF.out⟩
end Go.Proofs.Ytbdiekolkniajaa
