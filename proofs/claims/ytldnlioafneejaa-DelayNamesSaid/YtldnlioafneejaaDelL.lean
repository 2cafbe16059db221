/- More, the document's. -/
import Derived.Test.YtldnlioafneejaaDelJ
namespace Go.Proofs.Ytldnlioafneejaa
open Go.RowKit Tk De Dl Go.Sort
set_option linter.unusedVariables false

theorem IS.row {w : World} {a : Option Addr} {n cap : Nat} {xs : List Int} (h : IS w (.slice a n cap) xs) : Row w a xs := by
  obtain ⟨a', cap', e, h1, h2, h3, h4⟩ := h
  obtain ⟨rfl, rfl, rfl⟩ : a = a' ∧ n = xs.length ∧ cap = cap' := by simpa using e
  by_cases h0 : 0 < xs.length
  · obtain ⟨b, off, rfl, hc⟩ := h4 h0
    exact Or.inr ⟨b, off, rfl, hc⟩
  · exact Or.inl (List.eq_nil_of_length_eq_zero (by omega))
theorem is_of_own {n : Nat} {zs : List Int} {w' : World} {base : Nat} {v : Value} (hn : n = zs.length) (h : w'.ownsRow base 3 1 v n (zs.map (Value.int .i64))) : IS w' v zs := by
  have hc := h
  subst hn
  rcases h.2 with ⟨rfl, h0⟩ | ⟨g, cap, cur, rfl, hg, hh, hnc, hcm, _⟩
  · obtain rfl : zs = [] := List.eq_nil_of_length_eq_zero h0
    exact IS.nil _
  · refine ⟨some ⟨g, 0, none⟩, cap, rfl, hnc, hcm, (fun h => by cases h), fun _ => ⟨g, 0, rfl, fun i hi => ?_⟩⟩
    have := hc.cells (g := g) rfl i (.int .i64 (zs.getD i 0)) (by simp [List.getElem?_eq_getElem hi, List.getD])
    rw [Addr.add_lit] at this; exact this
theorem lit_add {W : World} {s : Nat} (hs : W.heap.size = s) (l : List Value) (t : TypeId) : ∀ j u, l[j]? = some u → (W.alloc (.cells l.toArray t)).cell? ((⟨s, 0, none⟩ : Addr).add j) = some u := by
  intro j u hj
  subst hs
  rw [Addr.add_lit, cell_of_row _ _ _ _ _ _ (heap_alloc_new W _)]
  simpa using hj
theorem lit_one (W : World) (x : Value) (t : TypeId) : ∀ j u, ([x] : List Value)[j]? = some u → (W.alloc (.cells #[x] t)).cell? ((⟨W.heap.size, 0, none⟩ : Addr).add j) = some u := by
  intro j u hj
  rw [Addr.add_lit, cell_of_row _ _ _ _ _ _ (heap_alloc_new W _)]
  rw [← List.getElem?_toArray] at hj
  rw [Nat.zero_add]
  exact hj
theorem one_one (x : Int) : ∀ u ∈ ([.int .i64 x] : List Value), u.oneCell' = true := by
  intro u hu
  rw [List.mem_singleton.1 hu]
  rfl
theorem own_slice {w : World} {B k : Nat} {v : Value} {xs : List Value} (h : w.ownsRow B 3 1 v k xs) : ∃ a cap, v = .slice a k cap := by
  rcases h.2 with ⟨rfl, rfl⟩ | ⟨g, cap, cur, rfl, _⟩
  · exact ⟨_, _, rfl⟩
  · exact ⟨_, _, rfl⟩
theorem own_below {w w' : World} {B k : Nat} {v : Value} {xs : List Value} (h : w.ownsRow B 3 1 v k xs) (b : Below w.heap.size w w') : w'.ownsRow B 3 1 v k xs := by
  refine h.kept (grown_of_below b) ?_
  cases e : v.ownBlock with
  | none => exact Or.inl rfl
  | some b => exact Or.inr (by simp)
/-- what is more of the first k tasks -/
def msv (F : Nat → Int) (k : Nat) : List Value := (List.range k).map fun i => Value.int .i64 (F i)
theorem msv_snoc (F : Nat → Int) (k : Nat) : msv F (k + 1) = msv F k ++ [.int .i64 (F k)] := by simp [msv, List.range_succ]
set_option maxRecDepth 100000 in
set_option maxHeartbeats 8000000 in
theorem rMore_any {w : World} {v : Value} {ps : List Pn} (h : PS w v ps) (q : Int) : Calls Try.prog 11 #[v, .int .i64 q] w (MoP (moR ps q) w) := by
  obtain ⟨a, cap, rfl, hn1, hn2⟩ := h.slice
  obtain ⟨m, hm⟩ : ∃ m, m = ps.length := ⟨_, rfl⟩
  rw [← hm] at h hn1 ⊢
  have hmx : m ≤ 9223372036854775807 := by unfold maxLen at hn2; omega
  clear hn1 hn2
  obtain ⟨X, hX⟩ : ∃ X, X = moR ps q := ⟨_, rfl⟩
  rw [← hX]
  cases hok : chkP ps with
  | false =>
    have HC := Lib.hid (rcheck9_fit (chkPE_no hok) h)
    have HE : Hid (X = ([], 2)) := by unfold Hid; rw [hX]; unfold moR; rw [hok]; rfl
    clear hX hok h hm
    go_enter Try.func11, Try.ntmps11
    go_wp2_with fail
    refine HC.out.mono ?_
    rintro e w1 ⟨rfl, hb⟩
    have HB := Lib.hid hb
    clear hb
    go_wp2_with fail
    go_ret2
    exact ⟨.slice none 0 0, by rw [HE.out]; rfl, by rw [HE.out]; exact IS.nil _, HB.out⟩
  | true =>
    have HC := Lib.hid (rcheck9_fit (chkPE_yes hok) h)
    have HX : Hid (X = if 0 ≤ q ∧ q < m then (mors ps q.toNat, 0) else ([], 9)) := by unfold Hid; rw [hX]; unfold moR; rw [hok, if_pos rfl, hm]
    have HOK := Lib.hid hok
    have HP := Lib.hid h
    have HM := Lib.hid hm
    clear hX hok h hm
    cases h0 : decide (q < 0) with
    | true =>
      have HE : Hid (X = ([], 9)) := HX.out.trans (if_neg (fun hc => by have := of_decide_eq_true h0; omega))
      clear HX
      go_enter Try.func11, Try.ntmps11
      go_wp2_with fail
      refine HC.out.mono ?_
      rintro e w1 ⟨rfl, hb⟩
      have HB := Lib.hid hb
      clear hb
      go_wp2_with fail
      go_ret2
      exact ⟨.slice none 0 0, by rw [HE.out]; rfl, by rw [HE.out]; exact IS.nil _, HB.out⟩
    | false =>
      cases h1 : decide ((m : Int) ≤ q) with
      | true =>
        have HE : Hid (X = ([], 9)) := HX.out.trans (if_neg (fun hc => by have := of_decide_eq_true h1; omega))
        clear HX
        go_enter Try.func11, Try.ntmps11
        go_wp2_with fail
        refine HC.out.mono ?_
        rintro e w1 ⟨rfl, hb⟩
        have HB := Lib.hid hb
        clear hb
        go_wp2_with fail
        go_ret2
        exact ⟨.slice none 0 0, by rw [HE.out]; rfl, by rw [HE.out]; exact IS.nil _, HB.out⟩
      | false =>
        obtain ⟨qn, rfl⟩ : ∃ qn : Nat, q = qn := ⟨q.toNat, by have := of_decide_eq_false h0; omega⟩
        have hq : qn < m := by have := of_decide_eq_false h1; omega
        have hqm : (qn : Int) < m := by omega
        have hq0 : (0 : Int) ≤ qn := by omega
        rw [show ((qn : Int)).toNat = qn by omega] at HX
        have hpb := chkP_at HOK.out (i := qn) (by rw [← HM.out]; exact hq)
        have HE0 : Hid (X = (mors ps qn, 0)) := HX.out.trans (by rw [if_pos ⟨by omega, by omega⟩])
        have HMS : Hid (mors ps qn = (List.range (ps.getD qn p0).n).map fun i => mor ps qn ((ps.getD qn p0).z i)) := rfl
        obtain ⟨b, off, ta, tcap, rfl, d0, d1, d2, hT, l1, l2, l3⟩ := HP.out.at hq
        have HD1 : Hid (∀ t, mor ps qn t = if 0 < t 5 then t 7 * (wait ps qn t + t 6 - 1) else 0) := fun t => rfl
        have HWB : Hid (∀ t, 0 ≤ wait ps qn t ∧ wait ps qn t ≤ 512) := fun t => wait_bd HOK.out qn t
        obtain ⟨p, hp⟩ : ∃ p, p = ps.getD qn p0 := ⟨_, rfl⟩
        rw [← hp] at d0 d1 d2 hT l1 l3 hpb HMS
        clear hp HX
        obtain ⟨per, bud, n, z⟩ := p
        dsimp only at d0 d1 d2 hT l1 l3 hpb HMS
        obtain ⟨F, hF⟩ : ∃ F : Nat → Int, F = fun i => mor ps qn (z i) := ⟨_, rfl⟩
        have HF : Hid (∀ i, F i = mor ps qn (z i)) := fun i => by rw [hF]
        rw [← hF] at HMS
        clear hF
        have HTB := Lib.hid hpb.t
        have hn4 := hpb.n4
        dsimp only at HTB hn4
        have HT := Lib.hid hT
        have HDD := Lib.hid d2
        have hnx : n ≤ 9223372036854775807 := by omega
        obtain ⟨i0, hi, hz0, hz1, hz2⟩ := info_parts infoIn
        clear hT d0 d1 d2 l1 l3 hpb
        have mixed : Try.prog.follows .mixedOrders = true := by kernel_rfl
        have h1n : decide (m ≤ qn) = false := by simp; omega
        go_enter Try.func11, Try.ntmps11
        go_wp2_with fail
        refine HC.out.mono ?_
        rintro e w1 ⟨rfl, hb⟩
        have HB0 := Lib.hid hb
        clear hb HC
        go_wp2_with fail
        go_loopw [7, 8] (fun s i wr => ∃ k : Nat, k ≤ n ∧ i = .int .i64 k ∧ Hid (wr.ownsRow w1.heap.size 3 1 s k (msv F k)) ∧ Hid (Below w1.heap.size w1 wr)) (fun _ i _ => n - (intOf i).toNat)
        case atStart => exact ⟨0, Nat.zero_le _, rfl, World.ownsRow_nil _ _ _ _, Below.refl _ _⟩
        case round =>
          obtain ⟨k, hk, rfl, HR, HB⟩ := hrel
          have hBW : Below w.heap.size w wr := chn HB0.out HB.out
          have e2 := (hBW.cell (World.block_lt_of_cell? _ _ HDD.out)).trans HDD.out
          by_cases hlt : k < n
          · obtain ⟨tb, toff, rfl, c⟩ := (HT.out.below hBW).at hlt
            obtain ⟨c0, c1, c2, c3, c4, c5, c6, c7⟩ := c
            obtain ⟨a3, cap3, rfl⟩ := own_slice HR.out
            have hA := (Below.refl _ wr).alloc (Nat.le_refl _) (tko (z k))
            have hB2 := HB.out.trans (hA.mono HB.out.size)
            have hR2 := World.ownsRow.alloc HR.out (tko (z k))
            obtain ⟨W2, hW2⟩ : ∃ W2, W2 = wr.alloc (tko (z k)) := ⟨_, rfl⟩
            have bt : ∀ j, j < 8 → (wr.alloc (tko (z k))).cell? ⟨wr.heap.size, j, none⟩ = some (.int .i64 (z k j)) := fun j hj => tko_at wr (z k) hj
            have hsz : W2.heap.size = wr.heap.size + 1 := by rw [hW2]; exact World.size_alloc _ _
            rw [← hW2] at hB2 bt hR2
            have HB2 := Lib.hid hB2; have HR2 := Lib.hid hR2
            have HSW := Lib.hid hsz
            have HSZ : Hid (w1.heap.size ≤ W2.heap.size) := hB2.size
            have HW := Lib.hid (fun W (bw : Below W2.heap.size W2 W) => rwait_any (q := qn) (t := z k) (HP.out.below ((chn HB0.out hB2).trans (bw.mono (chn HB0.out hB2).size))) HOK.out)
            have htb := HTB.out k hlt
            have htk := tOK_iff.1 htb.ok
            have hg0 := htb.g0
            have h6 := tb_b6 htb
            have hn0 := htb.n0
            have HDL := Lib.hid ((HF.out k).trans (HD1.out (z k)))
            have hwb := HWB.out (z k)
            generalize wait ps qn (z k) = wa at *
            unfold tv at HW
            have b0 := bt 0 (by decide); have b1 := bt 1 (by decide); have b2 := bt 2 (by decide); have b3 := bt 3 (by decide); have b4 := bt 4 (by decide); have b5 := bt 5 (by decide); have b6 := bt 6 (by decide); have b7 := bt 7 (by decide)
            clear bt hA hB2 htb hsz HR HB hBW hR2
            unfold tko at hW2
            have HW2 := Lib.hid hW2
            have k0 := cell_regrown b0; have k1 := cell_regrown b1; have k2 := cell_regrown b2; have k3 := cell_regrown b3; have k4 := cell_regrown b4; have k5 := cell_regrown b5; have k6 := cell_regrown b6; have k7 := cell_regrown b7
            have cQ := Lib.hid (fun d os => Calls.regrown_of (HW.out _ (below_regrown W2 d os)))
            clear hW2 HW b0 b1 b2 b3 b4 b5 b6 b7
            cases hg : decide (0 < z k 5) with
            | false =>
              have HE2 : Hid (F k = 0) := by unfold Hid; rw [HDL.out, if_neg (of_decide_eq_false hg)]
              clear HDL cQ hwb hg0 h6 hn0 k0 k1 k2 k3 k4 k5 k6 k7
              rw [HW2.out] at HR2 HB2 HSZ HSW
              go_wp2_with (at_builtin; refine wpList_append_own _ rfl _ _ 26 rfl w1.heap.size 3 i0 (.int .i64 0) 1 8 Try.underlying26 hi hz0 hz1 hz2 rfl (by decide) _ _ _ rfl (World.ownsRow.alloc HR2.out _) ⟨wr.heap.size + 1, 0, none⟩ 1 1 [.int .i64 0] rfl rfl (lit_add HSW.out _ _) (one_one _) ?c3 ?c4 ?c5 ?c6)
              case c3 => unfold maxLen; omega
              case c4 => omega
              case c5 => have h5 := HSZ.out; try simp only [World.size_alloc] at h5
                         simp only [World.size_alloc]; omega
              case c6 =>
                intro v2 w2 hown hgrow _
                have hown' : w2.ownsRow w1.heap.size 3 1 v2 (k + 1) (msv F (k + 1)) := by
                  rw [msv_snoc, HE2.out]
                  simpa using hown
                have hbel := (HB2.out.alloc HSZ.out (.cells #[.int .i64 0] 3)).grown hgrow (by rw [World.size_alloc]; have := HSZ.out; omega) (fun k hk => (HR2.out.lt k hk).1)
                obtain ⟨a2, cap2, rfl⟩ := own_slice hown'
                have H1 := Lib.hid hown'; have H2 := Lib.hid hbel
                clear hown hgrow hown' hbel HR2 HB2 HSZ
                go_wp2_with fail
                go_roundw
                case rel => exact ⟨k + 1, by omega, by go_num, H1, H2⟩
                case measure => simp [intOf]; omega
            | true =>
              have hg' := of_decide_eq_true hg
              have h6' := h6 hg'
              have hn0' := hn0 hg'
              have HE2 : Hid (F k = z k 7 * (wa + z k 6 - 1)) := by unfold Hid; rw [HDL.out, if_pos hg']
              have p1 : 0 ≤ z k 7 * (wa + z k 6 - 1) := Int.mul_nonneg (by omega) (by omega)
              have p2 : z k 7 * (wa + z k 6 - 1) ≤ 64 * 1000 := Int.mul_le_mul (by omega) (by omega) (by omega) (by decide)
              have w1' : IntKind.i64.wrap (wa + z k 6) = wa + z k 6 := IntWalk.i64_in _ (by omega)
              have w2' : IntKind.i64.wrap (wa + z k 6 - 1) = wa + z k 6 - 1 := IntWalk.i64_in _ (by omega)
              have w3' : IntKind.i64.wrap (z k 7 * (wa + z k 6 - 1)) = z k 7 * (wa + z k 6 - 1) := IntWalk.i64_in _ (by omega)
              have v1' : wrap64 (wa + z k 6) = wa + z k 6 := by unfold wrap64; omega
              have v2' : wrap64 (wa + z k 6 - 1) = wa + z k 6 - 1 := by unfold wrap64; omega
              have v3' : wrap64 (z k 7 * (wa + z k 6 - 1)) = z k 7 * (wa + z k 6 - 1) := by unfold wrap64; omega
              clear HDL hwb hg0 h6 hn0 h6' hn0' hg' p1 p2
              go_wp2_with fail
              rw [← HW2.out]
              refine wp_region_quiet_below (by assumption) (by kernel_rfl) ?_
              repeat (quiet_step (first | exact cQ.out _ _))
              refine wpQuiet_nil ?_
              intro _ hw'
              obtain ⟨⟨dq, osq⟩, hw''⟩ := hw'
              subst hw''
              have hbel2 := below_regrown W2 dq osq
              have HB3 := Lib.hid (HB2.out.trans (hbel2.mono HB2.out.size))
              have hR3 := own_below HR2.out hbel2
              have hsz3 := Nat.le_trans HSZ.out hbel2.size
              clear k0 k1 k2 k3 k4 k5 k6 k7 cQ HR2 HB2 HSZ hbel2
              generalize grow (redrawn W2 dq) osq = w3 at *
              have HR2 := Lib.hid hR3; have HSZ := Lib.hid hsz3
              clear hR3 hsz3
              go_wp2_with (at_builtin; refine wpList_append_own _ rfl _ _ 26 rfl w1.heap.size 3 i0 (.int .i64 0) 1 8 Try.underlying26 hi hz0 hz1 hz2 rfl (by decide) _ _ _ rfl (World.ownsRow.alloc HR2.out _) ⟨w3.heap.size, 0, none⟩ 1 1 [.int .i64 (z k 7 * (wa + z k 6 - 1))] rfl rfl (lit_add rfl _ _) (one_one _) ?c3 ?c4 ?c5 ?c6)
              case c3 => unfold maxLen; omega
              case c4 => omega
              case c5 => have h5 := HSZ.out; try simp only [World.size_alloc] at h5
                         simp only [World.size_alloc]; omega
              case c6 =>
                intro v2 w2 hown hgrow _
                have hown' : w2.ownsRow w1.heap.size 3 1 v2 (k + 1) (msv F (k + 1)) := by
                  rw [msv_snoc, HE2.out]
                  simpa using hown
                have hbel := (HB3.out.alloc HSZ.out (.cells #[.int .i64 (z k 7 * (wa + z k 6 - 1))] 3)).grown hgrow (by rw [World.size_alloc]; have := HSZ.out; omega) (fun k hk => (HR2.out.lt k hk).1)
                obtain ⟨a2, cap2, rfl⟩ := own_slice hown'
                have H1 := Lib.hid hown'; have H2 := Lib.hid hbel
                clear hown hgrow hown' hbel HR2 HB3 HSZ
                go_wp2_with fail
                go_roundw
                case rel => exact ⟨k + 1, by omega, by go_num, H1, H2⟩
                case measure => simp [intOf]; omega
          · obtain rfl : k = n := by omega
            go_wp2_with fail
            go_ret2
            refine ⟨_, by rw [HE0.out]; rfl, ?_, chn HB0.out HB.out⟩
            rw [HE0.out]
            show IS _ _ (mors ps qn)
            rw [HMS.out]
            exact is_of_own (n := k) (by simp) (by have := HR.out; unfold msv at this; rw [List.map_map]; exact this)
end Go.Proofs.Ytldnlioafneejaa
