/- The document's Bytes. -/
import Derived.Test.YthbhkcofhhkcoaaConfF
import Derived.Test.YthbhkcofhhkcoaaPackC
namespace Go.Proofs.Ythbhkcofhhkcoaa
open Go.RowKit Pk Cn
set_option linter.unusedVariables false

/-- a row of the call's own stands at no block that holds something else -/
theorem own_ne {w : World} {B e size n b : Nat} {v : Value} {xs : List Value} {cs : Array Value} {t : TypeId} {k : Nat × Nat} (h : w.ownsRow B e size v n xs) (hb : w.heap[b]? = some (.cells cs t k)) (ht : t ≠ e) : v.ownBlock ≠ some b := by
  intro hv
  rcases h.2 with ⟨rfl, _⟩ | ⟨g, cap, cur, rfl, _, hg, _⟩
  · simp [Value.ownBlock] at hv
  · simp [Value.ownBlock] at hv
    subst hv
    rw [hg] at hb
    injection hb with hb
    injection hb with _ h2 _
    exact ht h2.symm

set_option maxRecDepth 100000 in
set_option maxHeartbeats 4000000 in
theorem rbytes_any {w : World} {B : Nat} {v : Value} {c : Cf} (h : CF w B v c) : Calls Try.prog 17 #[v] w (BytP c w) := by
  obtain ⟨i0, hi, hz0, hz1, hz2⟩ := info_parts info3
  have H1 := Lib.hid (fun w' (b : Below w.heap.size w w') => rcheck_any (h.below b))
  obtain ⟨pv, ov, rfl, hp, ho⟩ := h
  obtain ⟨a, cap, rfl, hn1, hn2⟩ := hp.slice
  obtain ⟨ao, co, rfl, ho1, ho2⟩ := ho.slice
  obtain ⟨ps, os⟩ := c
  dsimp only at hp ho hn1 ho1 H1 ⊢
  obtain ⟨n, hn⟩ : ∃ n, n = ps.length := ⟨_, rfl⟩
  obtain ⟨m, hm⟩ : ∃ m, m = os.length := ⟨_, rfl⟩
  rw [← hn] at hp hn1 H1 ⊢
  rw [← hm] at ho ho1 H1 ⊢
  have hA := (Below.refl w.heap.size w).alloc (Nat.le_refl _) (.cells #[.slice a n cap, .slice ao m co] 25)
  have HA := Lib.hid hA
  unfold ck at H1
  have HP0 := Lib.hid hp; have HO0 := Lib.hid ho
  clear hA hp ho
  cases hc : may ⟨ps, os⟩ with
  | false =>
    have HC := Lib.hid hc
    rw [hc] at H1
    clear hc hn hm
    go_enter Try.func17, Try.ntmps17
    go_wp2_with fail
    refine (H1.out _ HA.out).mono ?_
    rintro e w1 ⟨rfl, hb1⟩
    have HB1 := Lib.hid (HA.out.trans (hb1.mono HA.out.size))
    clear hb1
    go_wp2_with fail
    go_ret2
    exact ⟨HB1.out, Or.inr ⟨HC.out, rfl⟩⟩
  | true =>
  have hrow : Cf.row ⟨ps, os⟩ = ((n : Int) :: ps.flatMap Pt.row) ++ ((m : Int) :: os.flatMap Po.row) := by rw [hn, hm]; rfl
  have HI0 := row_isN (may_ok hc)
  have hk := row_len (may_ok hc)
  have HCC : Hid (may ⟨ps, os⟩ = true) := hc
  rw [hc] at H1
  rw [hrow] at hk HI0
  rw [List.length_append, List.length_cons, List.length_cons] at hk
  unfold BytP
  rw [hrow]
  obtain ⟨L1, hL1⟩ : ∃ L, L = (n : Int) :: ps.flatMap Pt.row := ⟨_, rfl⟩
  rw [← hL1] at HI0 ⊢
  have HI := Lib.hid HI0
  have HL1 := Lib.hid hL1
  have HK := Lib.hid hk
  have HN := Lib.hid hn; have HM := Lib.hid hm
  have hmx : n ≤ 9223372036854775807 ∧ m ≤ 9223372036854775807 := by unfold maxLen at hn2 ho2; omega
  clear hrow hL1 hk HI0 hc hn hm
  go_enter Try.func17, Try.ntmps17
  go_wp2_with fail
  refine (H1.out _ HA.out).mono ?_
  rintro e W ⟨rfl, hb1⟩
  have hWB : Below w.heap.size w W := HA.out.trans (hb1.mono HA.out.size)
  have hWX := (hb1.block _ (by simp)).trans (heap_alloc_new w _)
  have HP := Lib.hid (HP0.out.below hWB); have HO := Lib.hid (HO0.out.below hWB)
  have HWB := Lib.hid hWB; have HWX := Lib.hid hWX
  have HC := Lib.hid (fun w' (b : Below W.heap.size W w') => pz2 ((b.block _ (Array.getElem?_eq_some_iff.1 hWX).1).trans hWX))
  obtain ⟨z0, z1⟩ := pz2 hWX
  clear hb1 hWB hWX H1 HP0 HO0
  go_wp2_with fail
  have hA0 : Below W.heap.size W (W.alloc (.cells #[.int .i64 (n : Int)] 3)) := (Below.refl _ W).alloc (Nat.le_refl _) _
  have hO0 : Oi (W.alloc (.cells #[.int .i64 (n : Int)] 3)) W.heap.size (.slice (some ⟨W.heap.size, 0, none⟩) 1 1) ((n : Int) :: (ps.take 0).flatMap Pt.row) := oi_lit W rfl (Nat.le_refl _) [(n : Int)] (by simp [maxLen])
  have HA0 := Lib.hid hA0; have HO0 := Lib.hid hO0
  clear hA0 hO0 z0 z1
  go_loopw [5, 6] (fun sv i wr => ∃ k : Nat, k ≤ n ∧ i = .int .i64 k ∧ Hid (Oi wr W.heap.size sv ((n : Int) :: (ps.take k).flatMap Pt.row)) ∧ Hid (Below W.heap.size W wr)) (fun _ i _ => n - (intOf i).toNat)
  case atStart => exact ⟨0, by omega, rfl, HO0, HA0⟩
  case round =>
    clear HA0 HO0
    obtain ⟨k, hk, rfl, HR, HB⟩ := hrel
    obtain ⟨z0, z1⟩ := HC.out _ HB.out
    by_cases hlt : k < n
    · obtain ⟨b, off, tv, rfl, _, c1, c2, c3, hts⟩ := HP.out.at hlt
      replace c1 := (HB.out.cell (lt_of_cell c1)).trans c1
      replace c2 := (HB.out.cell (lt_of_cell c2)).trans c2
      replace c3 := (HB.out.cell (lt_of_cell c3)).trans c3
      have hkl : k < ps.length := by have := HN.out; omega
      obtain ⟨p, hp⟩ : ∃ p, p = ps.getD k pt0 := ⟨_, rfl⟩
      rw [← hp] at c1 c2 hts
      obtain ⟨ta, tcap, rfl, t1, t2⟩ := hts.slice
      have HS : Hid ((n : Int) :: (ps.take (k + 1)).flatMap Pt.row = ((n : Int) :: (ps.take k).flatMap Pt.row) ++ p.row) := by rw [flat_snoc (d := pt0) hkl, ← hp]; rfl
      have HL : Hid (((n : Int) :: (ps.take (k + 1)).flatMap Pt.row).length ≤ 190) := by have := flat_le ps (k + 1) Pt.row; have := HK.out; simp only [List.length_cons, Hid]; omega
      clear hp hkl
      obtain ⟨per, bud, ts⟩ := p
      dsimp only at c1 c2 c3 hts t1
      obtain ⟨l, hl⟩ : ∃ l, l = ts.length := ⟨_, rfl⟩
      rw [← hl] at c3 hts t1
      have HT := Lib.hid hts; have HLN := Lib.hid hl
      have HPR : Hid (Pt.row ⟨per, bud, ts⟩ = [per, bud, (l : Int)] ++ ts.flatMap Tk.row) := by rw [hl]; rfl
      have hlx : l ≤ 9223372036854775807 := by unfold maxLen at t2; omega
      obtain ⟨X, hX⟩ : ∃ X, X = (n : Int) :: (ps.take k).flatMap Pt.row := ⟨_, rfl⟩
      rw [← hX] at HR HS
      obtain ⟨a3, cap3, rfl⟩ := HR.out.slice
      obtain ⟨q, hq⟩ : ∃ q, q = X.length := ⟨_, rfl⟩
      have hqb : q ≤ 190 := by have := HL.out; rw [HS.out, List.length_append] at this; omega
      rw [← hq] at HR ⊢
      have HR2 := Lib.hid (oi_to HR.out hq); have HQ := Lib.hid hq
      have hsz : W.heap.size ≤ wr.heap.size := HB.out.size
      have BX : Hid (∀ w1 row, ((wr.alloc (.cells #[.int .i64 per, .int .i64 bud, .slice ta l tcap] 28)).alloc (.cells #[.int .i64 per, .int .i64 bud, .int .i64 (l : Int)] 3)).grownBy w1 row → row ≠ some wr.heap.size → w1.heap[wr.heap.size]? = some (.cells #[.int .i64 per, .int .i64 bud, .slice ta l tcap] 28 (0, 0))) := fun w1 row hg hne =>
        (hg.block _ (by simp; omega) (fun e => hne e.symm)).trans (((Below.heap_alloc _ _ _ (by simp))).trans (heap_alloc_new wr _))
      have hne : (Value.slice a3 q cap3).ownBlock ≠ some wr.heap.size := fun e => by have := (HR2.out.lt _ e).2; omega
      have HNE := Lib.hid hne
      clear hts hl hX hq HR hne
      go_wp2_with (at_builtin; refine wpList_append_own _ rfl (.tmp 35) (.tmp 43) 36 rfl W.heap.size 3 i0 (.int .i64 0) 1 8 Try.underlying36 hi hz0 hz1 hz2 rfl (by decide) _ _ _ rfl ((HR2.out.alloc _).alloc _) ⟨wr.heap.size + 1, 0, none⟩ 3 3 [.int .i64 per, .int .i64 bud, .int .i64 (l : Int)] rfl rfl (lit_add (by simp) _ _) (one_i64 [per, bud, l]) ?c3 ?c4 ?c5 ?c6)
      case c3 => unfold maxLen; omega
      case c4 => omega
      case c5 => simp; omega
      case c6 =>
        intro v1 w1 hown hgrow _
        have hown' : Oi w1 W.heap.size v1 ((X ++ [per, bud, (l : Int)]) ++ (ts.take 0).flatMap Tk.row) := by
          rw [List.take_zero, List.flatMap_nil, List.append_nil]
          exact oi_of (m := q + 3) (by simpa using hown) (by have := HQ.out; rw [List.length_append, ← this]; rfl)
        have hb := ((HB.out.alloc hsz (.cells #[.int .i64 per, .int .i64 bud, .slice ta l tcap] 28)).alloc (by simp; omega) (.cells #[.int .i64 per, .int .i64 bud, .int .i64 (l : Int)] 3)).grown hgrow (by simp; omega) (fun k hk => (HR2.out.lt k hk).1)
        have hbx := BX.out _ _ hgrow HNE.out
        obtain ⟨y0, y1, y2⟩ := pz_of hbx
        obtain ⟨pb, hpb⟩ : ∃ pb, pb = wr.heap.size := ⟨_, rfl⟩
        have HPB0 : Hid (w1.heap[pb]? = some (.cells #[.int .i64 per, .int .i64 bud, .slice ta l tcap] 28 (0, 0))) := by rw [hpb]; exact hbx
        have hpW : W.heap.size ≤ pb := by omega
        have H1 := Lib.hid hown'; have H2 := Lib.hid hb
        clear hown hgrow hown' hb HR2 HB BX HNE c1 c2 c3 z0 z1 hbx
        go_wp2_with fail
        rw [← hpb]
        clear y0 y1 y2 hpb
        go_loopw [5, 8] (fun sv i wr => ∃ j : Nat, j ≤ l ∧ i = .int .i64 j ∧ Hid (Oi wr W.heap.size sv ((X ++ [per, bud, (l : Int)]) ++ (ts.take j).flatMap Tk.row)) ∧ Hid (Below W.heap.size W wr) ∧ Hid (wr.heap[pb]? = some (.cells #[.int .i64 per, .int .i64 bud, .slice ta l tcap] 28 (0, 0)))) (fun _ i _ => l - (intOf i).toNat)
        case atStart => exact ⟨0, by omega, rfl, H1, H2, HPB0⟩
        case round =>
          clear H1 H2 HPB0
          obtain ⟨j, hj, rfl, HR, HB, HPB⟩ := hrel
          obtain ⟨y0, y1, y2⟩ := pz_of HPB.out
          have hplt : pb < wr.heap.size := (Array.getElem?_eq_some_iff.1 HPB.out).1
          have hsz : W.heap.size ≤ wr.heap.size := HB.out.size
          by_cases hjl : j < l
          · obtain ⟨tb, toff, rfl, _, d0, d1, d2, d3, d4, d5, d6, d7⟩ := (HT.out.below HB.out).at hjl
            have hjt : j < ts.length := by have := HLN.out; omega
            obtain ⟨t, ht⟩ : ∃ t, t = ts.getD j tk0 := ⟨_, rfl⟩
            rw [← ht] at d0 d1 d2 d3 d4 d5 d6 d7
            have HS2 : Hid ((X ++ [per, bud, (l : Int)]) ++ (ts.take (j + 1)).flatMap Tk.row = ((X ++ [per, bud, (l : Int)]) ++ (ts.take j).flatMap Tk.row) ++ t.row) := by unfold Hid; rw [flat_snoc (d := tk0) hjt, ← ht]; simp only [List.append_assoc]
            have HL2 : Hid (((X ++ [per, bud, (l : Int)]) ++ (ts.take (j + 1)).flatMap Tk.row).length ≤ 190) := by
              have h1 := HL.out; rw [HS.out, HPR.out] at h1
              have h2 := flat_le ts (j + 1) Tk.row
              simp only [List.length_append, Hid] at h1 ⊢; omega
            clear ht hjt
            obtain ⟨X2, hX2⟩ : ∃ X2, X2 = ((X ++ [per, bud, (l : Int)]) ++ (ts.take j).flatMap Tk.row) := ⟨_, rfl⟩
            rw [← hX2] at HR HS2
            obtain ⟨q0, q1, q2, q3, q4, q5, q6, q7⟩ := t
            dsimp only at d0 d1 d2 d3 d4 d5 d6 d7
            obtain ⟨a3, cap3, rfl⟩ := HR.out.slice
            obtain ⟨q, hq⟩ : ∃ q, q = X2.length := ⟨_, rfl⟩
            have hqb : q + 8 ≤ 190 := by have := HL2.out; rw [HS2.out, List.length_append] at this; simp only [Tk.row, List.length_cons, List.length_nil] at this; omega
            rw [← hq] at HR ⊢
            have HR2 := Lib.hid (oi_to HR.out hq); have HQ := Lib.hid hq
            have hne : (Value.slice a3 q cap3).ownBlock ≠ some pb := own_ne HR2.out HPB.out (by decide)
            have HNE := Lib.hid hne
            clear hX2 hq HR hne
            go_wp2_with (at_builtin; refine wpList_append_own _ rfl (.tmp 57) (.tmp 74) 36 rfl W.heap.size 3 i0 (.int .i64 0) 1 8 Try.underlying36 hi hz0 hz1 hz2 rfl (by decide) _ _ _ rfl ((HR2.out.alloc _).alloc _) ⟨wr.heap.size + 1, 0, none⟩ 8 8 [.int .i64 q0, .int .i64 q1, .int .i64 q2, .int .i64 q3, .int .i64 q4, .int .i64 q5, .int .i64 q6, .int .i64 q7] rfl rfl (lit_add (by simp) _ _) (one_i64 [q0, q1, q2, q3, q4, q5, q6, q7]) ?c3 ?c4 ?c5 ?c6)
            case c3 => unfold maxLen; omega
            case c4 => omega
            case c5 => simp; omega
            case c6 =>
              intro v2 w2 hown hgrow _
              have hown' : Oi w2 W.heap.size v2 ((X ++ [per, bud, (l : Int)]) ++ (ts.take (j + 1)).flatMap Tk.row) := by
                rw [HS2.out]
                exact oi_of (m := q + 8) (by simpa [Tk.row] using hown) (by have := HQ.out; rw [List.length_append, ← this]; rfl)
              have hb := ((HB.out.alloc hsz _).alloc (by simp; omega) _).grown hgrow (by simp; omega) (fun k hk => (HR2.out.lt k hk).1)
              have HPB2 : Hid (w2.heap[pb]? = some (.cells #[.int .i64 per, .int .i64 bud, .slice (some ⟨tb, toff, none⟩) l tcap] 28 (0, 0))) := (hgrow.block _ (by simp; omega) (fun e => HNE.out e.symm)).trans ((Below.heap_alloc _ _ _ (by simp; omega)).trans ((Below.heap_alloc _ _ _ hplt).trans HPB.out))
              have H1 := Lib.hid hown'; have H2 := Lib.hid hb
              clear y0 y1 y2 hown hgrow hown' hb HR2 HB d0 d1 d2 d3 d4 d5 d6 d7
              go_wp2_with fail
              go_roundw
              case rel => exact ⟨j + 1, by omega, by go_num, H1, H2, HPB2⟩
              case measure => simp [intOf]; omega
          · have e : j = l := by omega
            subst e
            have H1 : Hid (Oi wr W.heap.size u5 ((n : Int) :: (ps.take (k + 1)).flatMap Pt.row)) := by
              have := HR.out
              rw [HLN.out, List.take_length, ← HLN.out, List.append_assoc, ← HPR.out, ← HS.out] at this
              exact this
            clear HR
            go_wp2_with fail
            go_roundw
            case rel => exact ⟨k + 1, by omega, by go_num, H1, HB⟩
            case measure => simp [intOf]; omega
    · have e : k = n := by omega
      subst e
      have H1 : Hid (Oi wr W.heap.size u5 L1) := by
        have := HR.out
        rw [HN.out, List.take_length, ← HN.out, ← HL1.out] at this
        exact this
      have HLL : Hid (L1.length + 1 + (os.flatMap Po.row).length ≤ 190) := by have := HK.out; rw [HL1.out]; simp only [List.length_cons, Hid]; omega
      clear HR
      have hsz : W.heap.size ≤ wr.heap.size := HB.out.size
      obtain ⟨a3, cap3, rfl⟩ := H1.out.slice
      obtain ⟨q, hq⟩ : ∃ q, q = L1.length := ⟨_, rfl⟩
      have hqb : q + 1 ≤ 190 := by have := HLL.out; omega
      rw [← hq] at H1 ⊢
      have HR2 := Lib.hid (oi_to H1.out hq); have HQ := Lib.hid hq
      clear hq H1
      go_wp2_with (at_builtin; refine wpList_append_own _ rfl (.tmp 76) (.tmp 80) 36 rfl W.heap.size 3 i0 (.int .i64 0) 1 8 Try.underlying36 hi hz0 hz1 hz2 rfl (by decide) _ _ _ rfl (HR2.out.alloc _) ⟨wr.heap.size, 0, none⟩ 1 1 [.int .i64 (m : Int)] rfl rfl (lit_add (by simp) _ _) (one_i64 [(m : Int)]) ?c3 ?c4 ?c5 ?c6)
      case c3 => unfold maxLen; omega
      case c4 => omega
      case c5 => simp; omega
      case c6 =>
        intro v2 w2 hown hgrow _
        have hown' : Oi w2 W.heap.size v2 ((L1 ++ [(m : Int)]) ++ (os.take 0).flatMap Po.row) := by
          rw [List.take_zero, List.flatMap_nil, List.append_nil]
          exact oi_of (m := q + 1) (by simpa using hown) (by have := HQ.out; rw [List.length_append, ← this]; rfl)
        have hb := (HB.out.alloc hsz _).grown hgrow (by simp; omega) (fun k hk => (HR2.out.lt k hk).1)
        have H1 := Lib.hid hown'; have H2 := Lib.hid hb
        clear hown hgrow hown' hb HR2 HB z0 z1
        obtain ⟨z0, z1⟩ := HC.out _ H2.out
        go_wp2_with fail
        clear z0 z1
        go_loopw [5, 10] (fun sv i wr => ∃ j : Nat, j ≤ m ∧ i = .int .i64 j ∧ Hid (Oi wr W.heap.size sv ((L1 ++ [(m : Int)]) ++ (os.take j).flatMap Po.row)) ∧ Hid (Below W.heap.size W wr)) (fun _ i _ => m - (intOf i).toNat)
        case atStart => exact ⟨0, by omega, rfl, H1, H2⟩
        case round =>
          clear H1 H2
          obtain ⟨j, hj, rfl, HR, HB⟩ := hrel
          obtain ⟨z0, z1⟩ := HC.out _ HB.out
          have hsz : W.heap.size ≤ wr.heap.size := HB.out.size
          by_cases hjl : j < m
          · obtain ⟨tb, toff, rfl, _, d0, d1, d2, d3, d4, d5⟩ := (HO.out.below HB.out).at hjl
            have hjt : j < os.length := by have := HM.out; omega
            obtain ⟨t, ht⟩ : ∃ t, t = os.getD j po0 := ⟨_, rfl⟩
            rw [← ht] at d0 d1 d2 d3 d4 d5
            have HS2 : Hid ((L1 ++ [(m : Int)]) ++ (os.take (j + 1)).flatMap Po.row = ((L1 ++ [(m : Int)]) ++ (os.take j).flatMap Po.row) ++ t.row) := by unfold Hid; rw [flat_snoc (d := po0) hjt, ← ht]; simp only [List.append_assoc]
            have HL2 : Hid (((L1 ++ [(m : Int)]) ++ (os.take (j + 1)).flatMap Po.row).length ≤ 190) := by
              have h1 := HLL.out
              have h2 := flat_le os (j + 1) Po.row
              simp only [List.length_append, List.length_cons, List.length_nil, Hid] at h1 ⊢; omega
            clear ht hjt
            obtain ⟨X2, hX2⟩ : ∃ X2, X2 = ((L1 ++ [(m : Int)]) ++ (os.take j).flatMap Po.row) := ⟨_, rfl⟩
            rw [← hX2] at HR HS2
            obtain ⟨q0, q1, q2, q3, q4, q5⟩ := t
            dsimp only at d0 d1 d2 d3 d4 d5
            obtain ⟨a3, cap3, rfl⟩ := HR.out.slice
            obtain ⟨q, hq⟩ : ∃ q, q = X2.length := ⟨_, rfl⟩
            have hqb : q + 6 ≤ 190 := by have := HL2.out; rw [HS2.out, List.length_append] at this; simp only [Po.row, List.length_cons, List.length_nil] at this; omega
            rw [← hq] at HR ⊢
            have HR2 := Lib.hid (oi_to HR.out hq); have HQ := Lib.hid hq
            clear hX2 hq HR
            go_wp2_with (at_builtin; refine wpList_append_own _ rfl (.tmp 94) (.tmp 107) 36 rfl W.heap.size 3 i0 (.int .i64 0) 1 8 Try.underlying36 hi hz0 hz1 hz2 rfl (by decide) _ _ _ rfl ((HR2.out.alloc _).alloc _) ⟨wr.heap.size + 1, 0, none⟩ 6 6 [.int .i64 q0, .int .i64 q1, .int .i64 q2, .int .i64 q3, .int .i64 q4, .int .i64 q5] rfl rfl (lit_add (by simp) _ _) (one_i64 [q0, q1, q2, q3, q4, q5]) ?c3 ?c4 ?c5 ?c6)
            case c3 => unfold maxLen; omega
            case c4 => omega
            case c5 => simp; omega
            case c6 =>
              intro v2 w2 hown hgrow _
              have hown' : Oi w2 W.heap.size v2 ((L1 ++ [(m : Int)]) ++ (os.take (j + 1)).flatMap Po.row) := by
                rw [HS2.out]
                exact oi_of (m := q + 6) (by simpa [Po.row] using hown) (by have := HQ.out; rw [List.length_append, ← this]; rfl)
              have hb := ((HB.out.alloc hsz _).alloc (by simp; omega) _).grown hgrow (by simp; omega) (fun k hk => (HR2.out.lt k hk).1)
              have H1 := Lib.hid hown'; have H2 := Lib.hid hb
              clear z0 z1 hown hgrow hown' hb HR2 HB d0 d1 d2 d3 d4 d5
              go_wp2_with fail
              go_roundw
              case rel => exact ⟨j + 1, by omega, by go_num, H1, H2⟩
              case measure => simp [intOf]; omega
          · have e : j = m := by omega
            subst e
            have hO : Oi wr W.heap.size u5 (L1 ++ ((j : Int) :: os.flatMap Po.row)) := by
              have := HR.out
              rw [HM.out, List.take_length, ← HM.out, List.append_assoc] at this
              exact this
            have H2 : Hid (Below w.heap.size w wr) := HWB.out.trans (HB.out.mono HWB.out.size)
            have HP := Lib.hid (rput_any (BS.nil wr) hO.is (by have := HLL.out; simp only [List.length_nil, List.length_append, List.length_cons]; omega))
            clear HR HB hO
            go_wp2_with fail
            refine HP.out.mono ?_
            intro e w3 hp
            obtain ⟨v3, rfl, ho3, hb3⟩ := hp.yes HI.out
            rw [List.nil_append] at ho3
            have HB3 := Lib.hid (H2.out.trans (hb3.mono H2.out.size))
            have HO3 : Hid (Ow w3 w.heap.size v3 (nums (L1 ++ ((j : Int) :: os.flatMap Po.row)))) := Ow.mono ho3 H2.out.size
            clear hp ho3 hb3 HP z0 z1
            go_wp2_with fail
            go_ret2
            exact ⟨HB3.out, Or.inl ⟨HCC.out, v3, rfl, HO3.out⟩⟩
end Go.Proofs.Ythbhkcofhhkcoaa
