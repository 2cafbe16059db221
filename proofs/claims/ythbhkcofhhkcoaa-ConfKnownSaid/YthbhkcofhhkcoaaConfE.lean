/- The numbers of a configuration; Bytes. -/
import Derived.Test.YthbhkcofhhkcoaaConfC
namespace Go.Proofs.Ythbhkcofhhkcoaa
open Go.RowKit Pk Cn
set_option linter.unusedVariables false

theorem oi_of {w : World} {B m : Nat} {v : Value} {xs : List Int} (h : w.ownsRow B 3 1 v m (xs.map (Value.int .i64))) (hm : m = xs.length) : Oi w B v xs := by subst hm; exact h
theorem oi_to {w : World} {B m : Nat} {v : Value} {xs : List Int} (h : Oi w B v xs) (hm : m = xs.length) : w.ownsRow B 3 1 v m (xs.map (Value.int .i64)) := by subst hm; exact h
theorem Oi.slice {w : World} {B : Nat} {v : Value} {xs : List Int} (h : Oi w B v xs) : ∃ a cap, v = .slice a xs.length cap := by
  obtain ⟨a, cap, h1, _⟩ := h.is; exact ⟨a, cap, h1⟩
/-- the cells of a literal -/
theorem lit_add {W : World} {s : Nat} (hs : W.heap.size = s) (l : List Value) (t : TypeId) : ∀ j u, l[j]? = some u → (W.alloc (.cells l.toArray t)).cell? ((⟨s, 0, none⟩ : Addr).add j) = some u := by
  intro j u hj
  subst hs
  rw [Addr.add_lit, cell_of_row _ _ _ _ _ _ (heap_alloc_new W _)]
  simpa using hj
theorem oi_lit (W : World) {s B : Nat} (hs : W.heap.size = s) (hB : B ≤ s) (l : List Int) (hl : l.length ≤ maxLen) : Oi (W.alloc (.cells (l.map (Value.int .i64)).toArray 3)) B (.slice (some ⟨s, 0, none⟩) l.length l.length) l := by
  subst hs
  exact ⟨by simp, Or.inr ⟨_, l.length, (l.map (Value.int .i64)).toArray, rfl, hB, heap_alloc_new W _, Nat.le_refl _, hl, by simp, by simp; exact List.take_of_length_le (by simp)⟩⟩
theorem flat_snoc {α : Type} {l : List α} {d : α} {k : Nat} (hk : k < l.length) (r : α → List Int) : (l.take (k + 1)).flatMap r = (l.take k).flatMap r ++ r (l.getD k d) := by
  have e : l.take (k + 1) = l.take k ++ [l.getD k d] := by
    rw [List.take_add_one]
    simp [List.getElem?_eq_getElem hk, List.getD]
  rw [e, List.flatMap_append]; simp
theorem flat_le {α : Type} (l : List α) (k : Nat) (r : α → List Int) : ((l.take k).flatMap r).length ≤ (l.flatMap r).length := by
  conv => rhs; rw [← List.take_append_drop k l]
  rw [List.flatMap_append, List.length_append]; omega
theorem pz2 {w : World} {b : Nat} {x y : Value} {t : TypeId} (h : w.heap[b]? = some (.cells #[x, y] t (0, 0))) : w.cell? ⟨b, 0, none⟩ = some x ∧ w.cell? ⟨b, 1, none⟩ = some y := ⟨cell_of_row w b 0 _ _ _ h, cell_of_row w b 1 _ _ _ h⟩
/-- a row of numbers of the call's own is answered -/
def RowP (B : Nat) (xs : List Int) (w : World) (e : Ending) (w' : World) : Prop := ∃ v', e = .returned v' ∧ Oi w' B v' xs ∧ Below w.heap.size w w'

set_option maxRecDepth 100000 in
set_option maxHeartbeats 4000000 in
theorem nums_any {w : World} {B : Nat} {v : Value} {c : Cf} (h : CF w B v c) (hk : c.row.length ≤ 190) : Calls Try.prog 29 #[v] w (RowP w.heap.size c.row w) := by
  obtain ⟨i0, hi, hz0, hz1, hz2⟩ := info_parts info3
  obtain ⟨pv, ov, rfl, hp, ho⟩ := h
  obtain ⟨a, cap, rfl, hn1, hn2⟩ := hp.slice
  obtain ⟨ao, co, rfl, ho1, ho2⟩ := ho.slice
  obtain ⟨ps, os⟩ := c
  dsimp only at hp ho hn1 ho1 ⊢
  obtain ⟨n, hn⟩ : ∃ n, n = ps.length := ⟨_, rfl⟩
  obtain ⟨m, hm⟩ : ∃ m, m = os.length := ⟨_, rfl⟩
  rw [← hn] at hp hn1 ⊢
  rw [← hm] at ho ho1 ⊢
  obtain ⟨W, hW⟩ : ∃ W, W = w.alloc (.cells #[.slice a n cap, .slice ao m co] 25) := ⟨_, rfl⟩
  have hWs : W.heap.size = w.heap.size + 1 := by rw [hW]; simp
  have hWB : Below w.heap.size w W := by rw [hW]; exact (Below.refl _ w).alloc (Nat.le_refl _) _
  have hWX : W.heap[w.heap.size]? = some (.cells #[.slice a n cap, .slice ao m co] 25 (0, 0)) := by rw [hW]; exact heap_alloc_new w _
  have HP := Lib.hid (hp.below hWB); have HO := Lib.hid (ho.below hWB)
  have HN := Lib.hid hn; have HM := Lib.hid hm; have HWB := Lib.hid hWB; have HWX := Lib.hid hWX
  have hrow : Cf.row ⟨ps, os⟩ = ((n : Int) :: ps.flatMap Pt.row) ++ ((m : Int) :: os.flatMap Po.row) := by rw [hn, hm]; rfl
  rw [hrow] at hk ⊢
  rw [List.length_append, List.length_cons, List.length_cons] at hk
  obtain ⟨L1, hL1⟩ : ∃ L, L = (n : Int) :: ps.flatMap Pt.row := ⟨_, rfl⟩
  rw [← hL1]
  have HL1 := Lib.hid hL1
  have HK := Lib.hid hk
  have hmx : n ≤ 9223372036854775807 ∧ m ≤ 9223372036854775807 := by unfold maxLen at hn2 ho2; omega
  have HC := Lib.hid (fun w' (b : Below W.heap.size W w') => pz2 ((b.block _ (by omega)).trans hWX))
  clear hp ho hn hm hWB hWX hrow hL1 hk
  go_enter Try.func29, Try.ntmps29
  go_wp2_with fail
  rw [← hW]
  have hA0 : Below W.heap.size W (W.alloc (.cells #[.int .i64 (n : Int)] 3)) := (Below.refl _ W).alloc (Nat.le_refl _) _
  have hO0 : Oi (W.alloc (.cells #[.int .i64 (n : Int)] 3)) W.heap.size (.slice (some ⟨w.heap.size + 1, 0, none⟩) 1 1) ((n : Int) :: (ps.take 0).flatMap Pt.row) := oi_lit W hWs (by omega) [(n : Int)] (by simp [maxLen])
  have HA0 := Lib.hid hA0; have HO0 := Lib.hid hO0; have HWs := Lib.hid hWs
  clear hW hA0 hO0 hWs
  go_loopw [3, 17] (fun sv i wr => ∃ k : Nat, k ≤ n ∧ i = .int .i64 k ∧ Hid (Oi wr W.heap.size sv ((n : Int) :: (ps.take k).flatMap Pt.row)) ∧ Hid (Below W.heap.size W wr)) (fun _ i _ => n - (intOf i).toNat)
  case atStart => exact ⟨0, by omega, rfl, HO0, HA0⟩
  case round =>
    clear HA0 HO0
    obtain ⟨k, hk, rfl, HR, HB⟩ := hrel
    by_cases hlt : k < n
    · obtain ⟨b, off, tv, rfl, _, c1, c2, c3, hts⟩ := HP.out.at hlt
      replace c1 := (HB.out.cell (lt_of_cell c1)).trans c1
      replace c2 := (HB.out.cell (lt_of_cell c2)).trans c2
      replace c3 := (HB.out.cell (lt_of_cell c3)).trans c3
      have hkl : k < ps.length := by have := HN.out; omega
      obtain ⟨p, hp⟩ : ∃ p, p = ps.getD k pt0 := ⟨_, rfl⟩
      rw [← hp] at c1 c2 hts
      obtain ⟨ta, tcap, rfl, t1, t2⟩ := hts.slice
      have HS : Hid ((n : Int) :: (ps.take (k + 1)).flatMap Pt.row = ((n : Int) :: (ps.take k).flatMap Pt.row) ++ p.row) := by rw [flat_snoc (d := pt0) hkl, ← hp]; rfl
      have HL : Hid (((n : Int) :: (ps.take (k + 1)).flatMap Pt.row).length ≤ 190) := by have := flat_le ps (k + 1) Pt.row; have := HK.out; simp only [List.length_cons, Hid]; omega
      obtain ⟨z0, z1⟩ := HC.out _ HB.out
      clear hp hkl
      obtain ⟨per, bud, ts⟩ := p
      dsimp only at c1 c2 c3 hts t1
      obtain ⟨l, hl⟩ : ∃ l, l = ts.length := ⟨_, rfl⟩
      rw [← hl] at c3 hts t1
      have HT := Lib.hid hts; have HLN := Lib.hid hl
      have HPR : Hid (Pt.row ⟨per, bud, ts⟩ = [per, bud, (l : Int)] ++ ts.flatMap Tk.row) := by rw [hl]; rfl
      have hlx : l ≤ 9223372036854775807 := by unfold maxLen at t2; omega
      obtain ⟨X, hX⟩ : ∃ X, X = (n : Int) :: (ps.take k).flatMap Pt.row := ⟨_, rfl⟩
      rw [← hX] at HR HS
      obtain ⟨a3, cap3, rfl⟩ := HR.out.slice
      obtain ⟨q, hq⟩ : ∃ q, q = X.length := ⟨_, rfl⟩
      have hqb : q ≤ 190 := by have := HL.out; rw [HS.out, List.length_append] at this; omega
      rw [← hq] at HR ⊢
      have HR2 := Lib.hid (oi_to HR.out hq); have HQ := Lib.hid hq
      have hsz : W.heap.size ≤ wr.heap.size := HB.out.size
      have BX : Hid (∀ w1 row, ((wr.alloc (.cells #[.int .i64 per, .int .i64 bud, .slice ta l tcap] 28)).alloc (.cells #[.int .i64 per, .int .i64 bud, .int .i64 (l : Int)] 3)).grownBy w1 row → row ≠ some wr.heap.size → w1.heap[wr.heap.size]? = some (.cells #[.int .i64 per, .int .i64 bud, .slice ta l tcap] 28 (0, 0))) := fun w1 row hg hne =>
        (hg.block _ (by simp; omega) (fun e => hne e.symm)).trans (((Below.heap_alloc _ _ _ (by simp))).trans (heap_alloc_new wr _))
      have hne : (Value.slice a3 q cap3).ownBlock ≠ some wr.heap.size := fun e => by have := (HR2.out.lt _ e).2; omega
      have HNE := Lib.hid hne
      clear hts hl hX hq HR hne
      go_wp2_with (at_builtin; refine wpList_append_own _ rfl (.tmp 21) (.tmp 29) 36 rfl W.heap.size 3 i0 (.int .i64 0) 1 8 Try.underlying36 hi hz0 hz1 hz2 rfl (by decide) _ _ _ rfl ((HR2.out.alloc _).alloc _) ⟨wr.heap.size + 1, 0, none⟩ 3 3 [.int .i64 per, .int .i64 bud, .int .i64 (l : Int)] rfl rfl (lit_add (by simp) _ _) (one_i64 [per, bud, l]) ?c3 ?c4 ?c5 ?c6)
      case c3 => unfold maxLen; omega
      case c4 => omega
      case c5 => simp; omega
      case c6 =>
        intro v1 w1 hown hgrow _
        have hown' : Oi w1 W.heap.size v1 ((X ++ [per, bud, (l : Int)]) ++ (ts.take 0).flatMap Tk.row) := by
          rw [List.take_zero, List.flatMap_nil, List.append_nil]
          exact oi_of (m := q + 3) (by simpa using hown) (by have := HQ.out; rw [List.length_append, ← this]; rfl)
        have hb := ((HB.out.alloc hsz (.cells #[.int .i64 per, .int .i64 bud, .slice ta l tcap] 28)).alloc (by simp; omega) (.cells #[.int .i64 per, .int .i64 bud, .int .i64 (l : Int)] 3)).grown hgrow (by simp; omega) (fun k hk => (HR2.out.lt k hk).1)
        obtain ⟨y0, y1, y2⟩ := pz_of (BX.out _ _ hgrow HNE.out)
        have H1 := Lib.hid hown'; have H2 := Lib.hid hb
        clear hown hgrow hown' hb HR2 HB BX HNE c1 c2 c3 z0 z1
        go_wp2_with fail
        clear y0 y1 y2
        go_loopw [3, 34] (fun sv i wr => ∃ j : Nat, j ≤ l ∧ i = .int .i64 j ∧ Hid (Oi wr W.heap.size sv ((X ++ [per, bud, (l : Int)]) ++ (ts.take j).flatMap Tk.row)) ∧ Hid (Below W.heap.size W wr)) (fun _ i _ => l - (intOf i).toNat)
        case atStart => exact ⟨0, by omega, rfl, H1, H2⟩
        case round =>
          clear H1 H2
          obtain ⟨j, hj, rfl, HR, HB⟩ := hrel
          have hsz : W.heap.size ≤ wr.heap.size := HB.out.size
          by_cases hjl : j < l
          · obtain ⟨tb, toff, rfl, _, d0, d1, d2, d3, d4, d5, d6, d7⟩ := (HT.out.below HB.out).at hjl
            have hjt : j < ts.length := by have := HLN.out; omega
            obtain ⟨t, ht⟩ : ∃ t, t = ts.getD j tk0 := ⟨_, rfl⟩
            rw [← ht] at d0 d1 d2 d3 d4 d5 d6 d7
            have HS2 : Hid ((X ++ [per, bud, (l : Int)]) ++ (ts.take (j + 1)).flatMap Tk.row = ((X ++ [per, bud, (l : Int)]) ++ (ts.take j).flatMap Tk.row) ++ t.row) := by unfold Hid; rw [flat_snoc (d := tk0) hjt, ← ht]; simp only [List.append_assoc]
            have HL2 : Hid (((X ++ [per, bud, (l : Int)]) ++ (ts.take (j + 1)).flatMap Tk.row).length ≤ 190) := by
              have h1 := HL.out; rw [HS.out, HPR.out] at h1
              have h2 := flat_le ts (j + 1) Tk.row
              simp only [List.length_append, Hid] at h1 ⊢; omega
            clear ht hjt
            obtain ⟨X2, hX2⟩ : ∃ X2, X2 = ((X ++ [per, bud, (l : Int)]) ++ (ts.take j).flatMap Tk.row) := ⟨_, rfl⟩
            rw [← hX2] at HR HS2
            obtain ⟨q0, q1, q2, q3, q4, q5, q6, q7⟩ := t
            dsimp only at d0 d1 d2 d3 d4 d5 d6 d7
            obtain ⟨a3, cap3, rfl⟩ := HR.out.slice
            obtain ⟨q, hq⟩ : ∃ q, q = X2.length := ⟨_, rfl⟩
            have hqb : q + 8 ≤ 190 := by have := HL2.out; rw [HS2.out, List.length_append] at this; simp only [Tk.row, List.length_cons, List.length_nil] at this; omega
            rw [← hq] at HR ⊢
            have HR2 := Lib.hid (oi_to HR.out hq); have HQ := Lib.hid hq
            clear hX2 hq HR
            go_wp2_with (at_builtin; refine wpList_append_own _ rfl (.tmp 38) (.tmp 55) 36 rfl W.heap.size 3 i0 (.int .i64 0) 1 8 Try.underlying36 hi hz0 hz1 hz2 rfl (by decide) _ _ _ rfl ((HR2.out.alloc _).alloc _) ⟨wr.heap.size + 1, 0, none⟩ 8 8 [.int .i64 q0, .int .i64 q1, .int .i64 q2, .int .i64 q3, .int .i64 q4, .int .i64 q5, .int .i64 q6, .int .i64 q7] rfl rfl (lit_add (by simp) _ _) (one_i64 [q0, q1, q2, q3, q4, q5, q6, q7]) ?c3 ?c4 ?c5 ?c6)
            case c3 => unfold maxLen; omega
            case c4 => omega
            case c5 => simp; omega
            case c6 =>
              intro v2 w2 hown hgrow _
              have hown' : Oi w2 W.heap.size v2 ((X ++ [per, bud, (l : Int)]) ++ (ts.take (j + 1)).flatMap Tk.row) := by
                rw [HS2.out]
                exact oi_of (m := q + 8) (by simpa [Tk.row] using hown) (by have := HQ.out; rw [List.length_append, ← this]; rfl)
              have hb := ((HB.out.alloc hsz _).alloc (by simp; omega) _).grown hgrow (by simp; omega) (fun k hk => (HR2.out.lt k hk).1)
              have H1 := Lib.hid hown'; have H2 := Lib.hid hb
              clear hown hgrow hown' hb HR2 HB d0 d1 d2 d3 d4 d5 d6 d7
              go_wp2_with fail
              go_roundw
              case rel => exact ⟨j + 1, by omega, by go_num, H1, H2⟩
              case measure => simp [intOf]; omega
          · have e : j = l := by omega
            subst e
            have H1 : Hid (Oi wr W.heap.size u3 ((n : Int) :: (ps.take (k + 1)).flatMap Pt.row)) := by
              have := HR.out
              rw [HLN.out, List.take_length, ← HLN.out, List.append_assoc, ← HPR.out, ← HS.out] at this
              exact this
            clear HR
            go_wp2_with fail
            go_roundw
            case rel => exact ⟨k + 1, by omega, by go_num, H1, HB⟩
            case measure => simp [intOf]; omega
    · have e : k = n := by omega
      subst e
      have H1 : Hid (Oi wr W.heap.size u3 L1) := by
        have := HR.out
        rw [HN.out, List.take_length, ← HN.out, ← HL1.out] at this
        exact this
      have HLL : Hid (L1.length + 1 + (os.flatMap Po.row).length ≤ 190) := by have := HK.out; rw [HL1.out]; simp only [List.length_cons, Hid]; omega
      clear HR
      obtain ⟨z0, z1⟩ := HC.out _ HB.out
      have hsz : W.heap.size ≤ wr.heap.size := HB.out.size
      obtain ⟨a3, cap3, rfl⟩ := H1.out.slice
      obtain ⟨q, hq⟩ : ∃ q, q = L1.length := ⟨_, rfl⟩
      have hqb : q + 1 ≤ 190 := by have := HLL.out; omega
      rw [← hq] at H1 ⊢
      have HR2 := Lib.hid (oi_to H1.out hq); have HQ := Lib.hid hq
      clear hq H1
      go_wp2_with (at_builtin; refine wpList_append_own _ rfl (.tmp 59) (.tmp 63) 36 rfl W.heap.size 3 i0 (.int .i64 0) 1 8 Try.underlying36 hi hz0 hz1 hz2 rfl (by decide) _ _ _ rfl (HR2.out.alloc _) ⟨wr.heap.size, 0, none⟩ 1 1 [.int .i64 (m : Int)] rfl rfl (lit_add (by simp) _ _) (one_i64 [(m : Int)]) ?c3 ?c4 ?c5 ?c6)
      case c3 => unfold maxLen; omega
      case c4 => omega
      case c5 => simp; omega
      case c6 =>
        intro v2 w2 hown hgrow _
        have hown' : Oi w2 W.heap.size v2 ((L1 ++ [(m : Int)]) ++ (os.take 0).flatMap Po.row) := by
          rw [List.take_zero, List.flatMap_nil, List.append_nil]
          exact oi_of (m := q + 1) (by simpa using hown) (by have := HQ.out; rw [List.length_append, ← this]; rfl)
        have hb := (HB.out.alloc hsz _).grown hgrow (by simp; omega) (fun k hk => (HR2.out.lt k hk).1)
        have H1 := Lib.hid hown'; have H2 := Lib.hid hb
        clear hown hgrow hown' hb HR2 HB z0 z1
        obtain ⟨z0, z1⟩ := HC.out _ H2.out
        go_wp2_with fail
        clear z0 z1
        go_loopw [3, 68] (fun sv i wr => ∃ j : Nat, j ≤ m ∧ i = .int .i64 j ∧ Hid (Oi wr W.heap.size sv ((L1 ++ [(m : Int)]) ++ (os.take j).flatMap Po.row)) ∧ Hid (Below W.heap.size W wr)) (fun _ i _ => m - (intOf i).toNat)
        case atStart => exact ⟨0, by omega, rfl, H1, H2⟩
        case round =>
          clear H1 H2
          obtain ⟨j, hj, rfl, HR, HB⟩ := hrel
          have hsz : W.heap.size ≤ wr.heap.size := HB.out.size
          by_cases hjl : j < m
          · obtain ⟨tb, toff, rfl, _, d0, d1, d2, d3, d4, d5⟩ := (HO.out.below HB.out).at hjl
            have hjt : j < os.length := by have := HM.out; omega
            obtain ⟨t, ht⟩ : ∃ t, t = os.getD j po0 := ⟨_, rfl⟩
            rw [← ht] at d0 d1 d2 d3 d4 d5
            have HS2 : Hid ((L1 ++ [(m : Int)]) ++ (os.take (j + 1)).flatMap Po.row = ((L1 ++ [(m : Int)]) ++ (os.take j).flatMap Po.row) ++ t.row) := by unfold Hid; rw [flat_snoc (d := po0) hjt, ← ht]; simp only [List.append_assoc]
            have HL2 : Hid (((L1 ++ [(m : Int)]) ++ (os.take (j + 1)).flatMap Po.row).length ≤ 190) := by
              have h1 := HLL.out
              have h2 := flat_le os (j + 1) Po.row
              simp only [List.length_append, List.length_cons, List.length_nil, Hid] at h1 ⊢; omega
            clear ht hjt
            obtain ⟨X2, hX2⟩ : ∃ X2, X2 = ((L1 ++ [(m : Int)]) ++ (os.take j).flatMap Po.row) := ⟨_, rfl⟩
            rw [← hX2] at HR HS2
            obtain ⟨q0, q1, q2, q3, q4, q5⟩ := t
            dsimp only at d0 d1 d2 d3 d4 d5
            obtain ⟨a3, cap3, rfl⟩ := HR.out.slice
            obtain ⟨q, hq⟩ : ∃ q, q = X2.length := ⟨_, rfl⟩
            have hqb : q + 6 ≤ 190 := by have := HL2.out; rw [HS2.out, List.length_append] at this; simp only [Po.row, List.length_cons, List.length_nil] at this; omega
            rw [← hq] at HR ⊢
            have HR2 := Lib.hid (oi_to HR.out hq); have HQ := Lib.hid hq
            clear hX2 hq HR
            go_wp2_with (at_builtin; refine wpList_append_own _ rfl (.tmp 72) (.tmp 85) 36 rfl W.heap.size 3 i0 (.int .i64 0) 1 8 Try.underlying36 hi hz0 hz1 hz2 rfl (by decide) _ _ _ rfl ((HR2.out.alloc _).alloc _) ⟨wr.heap.size + 1, 0, none⟩ 6 6 [.int .i64 q0, .int .i64 q1, .int .i64 q2, .int .i64 q3, .int .i64 q4, .int .i64 q5] rfl rfl (lit_add (by simp) _ _) (one_i64 [q0, q1, q2, q3, q4, q5]) ?c3 ?c4 ?c5 ?c6)
            case c3 => unfold maxLen; omega
            case c4 => omega
            case c5 => simp; omega
            case c6 =>
              intro v2 w2 hown hgrow _
              have hown' : Oi w2 W.heap.size v2 ((L1 ++ [(m : Int)]) ++ (os.take (j + 1)).flatMap Po.row) := by
                rw [HS2.out]
                exact oi_of (m := q + 6) (by simpa [Po.row] using hown) (by have := HQ.out; rw [List.length_append, ← this]; rfl)
              have hb := ((HB.out.alloc hsz _).alloc (by simp; omega) _).grown hgrow (by simp; omega) (fun k hk => (HR2.out.lt k hk).1)
              have H1 := Lib.hid hown'; have H2 := Lib.hid hb
              clear hown hgrow hown' hb HR2 HB d0 d1 d2 d3 d4 d5
              go_wp2_with fail
              go_roundw
              case rel => exact ⟨j + 1, by omega, by go_num, H1, H2⟩
              case measure => simp [intOf]; omega
          · have e : j = m := by omega
            subst e
            have H1 : Hid (Oi wr w.heap.size u3 (L1 ++ ((j : Int) :: os.flatMap Po.row))) := by
              have := HR.out
              rw [HM.out, List.take_length, ← HM.out, List.append_assoc] at this
              exact own_mono this (by have := HWs.out; omega)
            have H2 : Hid (Below w.heap.size w wr) := HWB.out.trans (HB.out.mono HWB.out.size)
            clear HR HB
            go_wp2_with fail
            go_ret
            exact ⟨_, rfl, H1.out, H2.out⟩
end Go.Proofs.Ythbhkcofhhkcoaa
