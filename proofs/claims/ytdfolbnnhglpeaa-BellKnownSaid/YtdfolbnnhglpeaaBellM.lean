/- BellPlays. -/
import Derived.Test.YtdfolbnnhglpeaaBellL
namespace Go.Proofs.Ytdfolbnnhglpeaa
open Go.RowKit Rk
set_option linter.unusedVariables false

theorem od_due_keep {B : Nat} {W w : World} {bb rb hb : Nat} {P1 : List En} {mb : Nat} {P2 : List En} {X : Nat → Prop} {a b : List En} {now : Int} (h : OD B W w bb rb hb P1 mb P2 X) (hc : Cut P1 now a b) :
    Calls Try.prog 15 #[.pointer (some ⟨bb, 0, none⟩), .int .i64 now] w (fun e w' => ∃ v, e = .returned v ∧ Hid (BR w' w.heap.size v a) ∧ Hid (OD B W w' bb rb hb b mb P2 (fun q => v.ownBlock = some q)) ∧ ∀ k, X k → w'.heap[k]? = w.heap[k]?) := by
  have hs0 := h.size
  obtain ⟨g, mg, k1, k2, x, ap, gd⟩ := h.ex
  refine (bdue_any w bb rb hb g P1 now k1).mono ?_
  rintro e w' ⟨v, a', b', g1, he, hc', hr, hk, hg, ho⟩
  obtain ⟨rfl, rfl⟩ := hc.unique hc'
  have l3 := k2.lb; have l4 := k2.lg
  have hs := ho.size
  have hbb := h.b
  refine ⟨v, he, hr, ⟨⟨g1, mg, hk, k2.only ho ?_ ?_, by omega, by omega, fun k hkk => ?_⟩, hbb, h.bel.trans (ho.below hs0 fun k _ hk => ?_), h.W2⟩, fun k hk => ho.block k (gd k hk).1 ?_⟩
  · rintro (e | e) <;> omega
  · rintro (e | e) <;> omega
  · have h1 := hr.lt k hkk
    have h2 := hr.apart hk hkk
    omega
  · rcases hk with rfl | rfl
    · exact hbb.2.2.1
    · exact x.1
  · have := gd k hk; rintro (e | e) <;> omega
set_option maxRecDepth 100000 in
set_option maxHeartbeats 8000000 in
theorem step_any (B : Nat) (W w : World) (bb rb hb : Nat) (P : List En) (mb : Nat) (a0 a1 a2 a3 : Int) (h : OD B W w bb rb hb P mb P (fun _ => False)) :
    Calls Try.prog 9 #[.pointer (some ⟨bb, 0, none⟩), .pointer (some ⟨mb, 0, none⟩), .agg #[.int .i64 a0, .int .i64 a1, .int .i64 a2, .int .i64 a3]] w (StepP B W bb rb hb mb) := by
  have hk := bring_bd a0 4 (by omega)
  have hkc : bringN a0 4 = 0 ∨ bringN a0 4 = 1 ∨ bringN a0 4 = 2 ∨ bringN a0 4 = 3 := by omega
  have hal : Below w.heap.size w (w.alloc (.cells #[.int .i64 a0, .int .i64 a1, .int .i64 a2, .int .i64 a3] 29)) := (Below.refl _ _).alloc (Nat.le_refl _) _
  have h1 := h.fresh hal (k := w.heap.size) (Nat.le_refl _) (by simp)
  have hX : (w.alloc (.cells #[.int .i64 a0, .int .i64 a1, .int .i64 a2, .int .i64 a3] 29)).heap[w.heap.size]? = some (.cells #[.int .i64 a0, .int .i64 a1, .int .i64 a2, .int .i64 a3] 29 (0, 0)) := heap_alloc_new w _
  have H0 : Hid (OD B W (w.alloc (.cells #[.int .i64 a0, .int .i64 a1, .int .i64 a2, .int .i64 a3] 29)) bb rb hb P mb P (fun q => q = w.heap.size)) := h1
  have H1 : Hid (OD B W (w.alloc (.cells #[.int .i64 a0, .int .i64 a1, .int .i64 a2, .int .i64 a3] 29)).drew bb rb hb P mb P (fun q => q = w.heap.size)) := h1.below (Below.refl _ _).drew
  have HX : Hid ((w.alloc (.cells #[.int .i64 a0, .int .i64 a1, .int .i64 a2, .int .i64 a3] 29)).drew.heap[w.heap.size]? = some (.cells #[.int .i64 a0, .int .i64 a1, .int .i64 a2, .int .i64 a3] 29 (0, 0))) := hX
  have HX0 : Hid ((w.alloc (.cells #[.int .i64 a0, .int .i64 a1, .int .i64 a2, .int .i64 a3] 29)).heap[w.heap.size]? = some (.cells #[.int .i64 a0, .int .i64 a1, .int .i64 a2, .int .i64 a3] 29 (0, 0))) := hX
  have HC : Hid ((w.alloc (.cells #[.int .i64 a0, .int .i64 a1, .int .i64 a2, .int .i64 a3] 29)).drew.cell? ⟨w.heap.size, 1, none⟩ = some (.int .i64 a1) ∧ (w.alloc (.cells #[.int .i64 a0, .int .i64 a1, .int .i64 a2, .int .i64 a3] 29)).drew.cell? ⟨w.heap.size, 2, none⟩ = some (.int .i64 a2) ∧ (w.alloc (.cells #[.int .i64 a0, .int .i64 a1, .int .i64 a2, .int .i64 a3] 29)).drew.cell? ⟨w.heap.size, 3, none⟩ = some (.int .i64 a3)) :=
    ⟨(cell_of_row _ _ _ _ _ _ hX).trans rfl, (cell_of_row _ _ _ _ _ _ hX).trans rfl, (cell_of_row _ _ _ _ _ _ hX).trans rfl⟩
  have hB := h.size
  clear hal h1 hX h hk
  rcases hkc with hk | hk | hk | hk
  · have HK := Lib.hid hk
    clear hk
    obtain ⟨E, hE⟩ : ∃ E, armE a1 a2 a3 = E := ⟨_, rfl⟩
    have HE := Lib.hid hE
    clear hE
    go_enter Try.func9, Try.ntmps9
    go_wp2_with fail
    refine (bring_any a0 4 _ (by omega) (by omega)).mono ?_
    rintro e w0 ⟨rfl, rfl⟩
    rw [HK.out]
    go_wp2_with fail
    go_region_held3 (fun w' => w'.cell? ⟨w.heap.size, 1, none⟩ = some (.int .i64 a1) ∧ w'.cell? ⟨w.heap.size, 2, none⟩ = some (.int .i64 a2) ∧ w'.cell? ⟨w.heap.size, 3, none⟩ = some (.int .i64 a3))
      (first | assumption | exact HC.out | go_keep)
      (first | (go_at_call 19; refine (od_arm a1 a2 a3 H1.out).mono ?_; intro e w4 hp4; obtain ⟨he4, hq4, HO4, HX4⟩ := ODP.sts hp4 HX.out; rw [HE.out] at he4; subst he4; clear hp4) | (go_at_call 24; refine (od_rarm a1 a2 a3 HO4.out).mono ?_; intro e w5 hp5; obtain ⟨he5, hq5, HO5, HX5⟩ := ODP.sts hp5 HX4.out; rw [HE.out] at he5; subst he5; clear hp5))
    all_goals
      have HF : Hid (StepP B W bb rb hb mb (.returned (.bool true)) w5) := ⟨rfl, _, HO5.out.drop⟩
      clear hq4 HO4 HX4 hq5 HO5 HX5
      go_wp2_with fail
      go_ret
      exact HF
  · have HK := Lib.hid hk
    clear hk
    obtain ⟨E, hE⟩ : ∃ E, (mp P (bk a1 a2)).isSome = E := ⟨_, rfl⟩
    have HE := Lib.hid hE
    clear hE
    go_enter Try.func9, Try.ntmps9
    go_wp2_with fail
    refine (bring_any a0 4 _ (by omega) (by omega)).mono ?_
    rintro e w0 ⟨rfl, rfl⟩
    rw [HK.out]
    go_wp2_with fail
    go_region_held3 (fun w' => w'.cell? ⟨w.heap.size, 1, none⟩ = some (.int .i64 a1) ∧ w'.cell? ⟨w.heap.size, 2, none⟩ = some (.int .i64 a2) ∧ w'.cell? ⟨w.heap.size, 3, none⟩ = some (.int .i64 a3))
      (first | assumption | exact HC.out | go_keep)
      (first | (go_at_call 20; refine (od_can a1 a2 H1.out).mono ?_; intro e w4 hp4; obtain ⟨he4, hq4, HO4, HX4⟩ := ODP.sts hp4 HX.out; rw [HE.out] at he4; subst he4; clear hp4) | (go_at_call 25; refine (od_rcan a1 a2 HO4.out).mono ?_; intro e w5 hp5; obtain ⟨he5, hq5, HO5, HX5⟩ := ODP.sts hp5 HX4.out; rw [HE.out] at he5; subst he5; clear hp5))
    all_goals
      have HF : Hid (StepP B W bb rb hb mb (.returned (.bool true)) w5) := ⟨rfl, _, HO5.out.drop⟩
      clear hq4 HO4 HX4 hq5 HO5 HX5
      cases E
      all_goals
        go_wp2_with fail
        go_ret
        exact HF
  · have HK := Lib.hid hk
    clear hk
    obtain ⟨a, b, hcut⟩ := H0.out.W1.cut a3
    have HCut := Lib.hid hcut
    have hlen : a.length ≤ 64 := by have := H0.out.W1.len; rw [hcut.eq, List.length_append] at this; omega
    have HDue := Lib.hid (od_due_keep H0.out HCut.out)
    clear hcut H1
    go_enter Try.func9, Try.ntmps9
    go_wp2_with fail
    refine (bring_any a0 4 _ (by omega) (by omega)).mono ?_
    rintro e w0 ⟨rfl, rfl⟩
    rw [HK.out]
    go_wp2_with fail
    refine HDue.out.mono ?_
    rintro e w4 ⟨v, rfl, HR4, H4, hkeep⟩
    have hx4 : w4.heap[w.heap.size]? = _ := (hkeep w.heap.size rfl).trans HX0.out
    have c3 : w4.cell? ⟨w.heap.size, 3, none⟩ = some (.int .i64 a3) := (cell_of_row _ _ _ _ _ _ hx4).trans rfl
    have hw4 : 0 < w4.heap.size := by have := lt_of_heap hx4; omega
    have HB4 : Hid (∀ k, v.ownBlock = some k → B ≤ k) := fun k hk => by have := HR4.out.own k hk; have := H0.out.size; omega
    obtain ⟨va, vc, hv⟩ := HR4.out.slice
    obtain ⟨m, hm⟩ : ∃ m, a.length = m := ⟨_, rfl⟩
    have HM := Lib.hid hm
    rw [hm] at hv hlen
    subst hv
    clear hm hx4 hkeep HDue H0
    go_wp2_with fail
    refine (od_rdue H4.out HCut.out).mono ?_
    rintro e w5 ⟨v2, rfl, HR5, H5, HK5⟩
    have HRa : Hid (BR w5 _ (.slice va m vc) a) := HR4.out.keep fun k _ hk => HK5.out k hk
    have hw5 : 0 < w5.heap.size := by have := H5.out.bel.size; have := H4.out.size; obtain ⟨g, mg, k1, _⟩ := H5.out.ex; have := k1.lt; omega
    clear HR4 H4 HK5
    go_wp2_with fail
    refine (same_rows HRa.out HR5.out hw5 (by rw [HM.out]; omega)).mono ?_
    rintro e w6 ⟨rfl, hb6⟩
    have H6 : Hid (OD B W w6 bb rb hb b mb b (fun q => (Value.slice va m vc).ownBlock = some q)) := H5.out.below hb6
    have HR6 : Hid (∃ xs, w6.ownsRow B 44 3 (.slice va m vc) m xs) := ⟨_, by
      have h1 := HRa.out.below hb6
      unfold BR at h1
      rw [HM.out] at h1
      refine ⟨h1.1, ?_⟩
      rcases h1.2 with hn | ⟨g, cap, cur, hv, hb', r⟩
      · exact Or.inl hn
      · exact Or.inr ⟨g, cap, cur, hv, HB4.out g (by rw [hv]; rfl), r⟩⟩
    clear hb6 H5 HR5 HRa c3 hw4 hw5
    go_wp2_with fail
    go_loopw [9] (fun iv wr => ∃ j : Nat, j ≤ m ∧ iv = .int .i64 j ∧ Hid (OD B W wr bb rb hb b mb b (fun q => (Value.slice va m vc).ownBlock = some q)) ∧ Hid (∃ xs, wr.ownsRow B 44 3 (.slice va m vc) m xs)) (fun iv _ => m - (intOf iv).toNat)
    case atStart => exact ⟨0, Nat.zero_le _, rfl, H6.out, HR6.out⟩
    case round =>
      clear H6 HR6
      obtain ⟨j, hj, rfl, H6, HR6⟩ := hrel
      by_cases hjm : j < m
      · obtain ⟨xs, hx⟩ := HR6.out
        rcases hx.2 with ⟨_, h0⟩ | ⟨g, cap, cur, hv, hbg, _, hle, hmx, _⟩
        · omega
        · injection hv with e1 e2 e3
          subst e1 e3
          unfold maxLen at hmx
          have hlen2 : xs.length = m * 3 := hx.1
          obtain ⟨u, hu⟩ : ∃ u, wr.cell? ⟨g, j * 3, none⟩ = some u := ⟨_, (hx.cellAt (j * 3) (by omega)).trans (List.getElem?_eq_getElem (by omega))⟩
          have hfz := hx.frozenAt (j * 3)
          have H7 : Hid (OD B W (wr.setCell ⟨g, j * 3, none⟩ (.int .i64 (-1))) bb rb hb b mb b (fun q => (Value.slice (some ⟨g, 0, none⟩) m vc).ownBlock = some q)) := H6.out.set (k := g) rfl hbg
          have HR7 : Hid (∃ xs, (wr.setCell ⟨g, j * 3, none⟩ (.int .i64 (-1))).ownsRow B 44 3 (.slice (some ⟨g, 0, none⟩) m vc) m xs) := ⟨_, (hx.stored (j * 3) _).1⟩
          clear hlen2 hx H6 HR6
          go_wp2_with fail
          go_roundw
          case rel => exact ⟨j + 1, by omega, by go_num, H7, HR7⟩
          case measure => simp [intOf]; omega
      · have hjm' : j = m := by omega
        have HF : Hid (StepP B W bb rb hb mb (.returned (.bool true)) wr) := ⟨rfl, _, H6.out.drop⟩
        clear H6 HR6
        subst hjm'
        go_wp2_with fail
        go_ret
        exact HF
  · have HK := Lib.hid hk
    clear hk
    obtain ⟨n1, hn1⟩ : ∃ k, nxA P = k := ⟨_, rfl⟩
    obtain ⟨n2, hn2⟩ : ∃ k, nxB P = k := ⟨_, rfl⟩
    have HA := Lib.hid (od_next H0.out)
    have HN1 := Lib.hid hn1
    have HN2 := Lib.hid hn2
    rw [hn1, hn2] at HA
    clear hn1 hn2 H1
    go_enter Try.func9, Try.ntmps9
    go_wp2_with fail
    refine (bring_any a0 4 _ (by omega) (by omega)).mono ?_
    rintro e w0 ⟨rfl, rfl⟩
    rw [HK.out]
    go_wp2_with fail
    refine HA.out.mono ?_
    rintro e w4 ⟨rfl, h4, _⟩
    have HA2 := Lib.hid (od_rnext h4)
    rw [HN1.out, HN2.out] at HA2
    clear h4
    go_wp2_with fail
    refine HA2.out.mono ?_
    rintro e w5 ⟨rfl, h5, _⟩
    have HF : Hid (StepP B W bb rb hb mb (.returned (.bool true)) w5) := ⟨rfl, _, h5.drop⟩
    clear h5 HA2
    cases n2
    all_goals
      go_wp2_with fail
      go_ret
      exact HF

end Go.Proofs.Ytdfolbnnhglpeaa
