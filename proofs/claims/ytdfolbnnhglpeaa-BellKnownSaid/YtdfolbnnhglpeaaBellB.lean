/- The calls of bells: arm, Arm. -/
import Derived.Test.YtdfolbnnhglpeaaBellA
namespace Go.Proofs.Ytdfolbnnhglpeaa
open Go.RowKit Rk
set_option linter.unusedVariables false

section
variable {w w' w1 : World} {bb rb hb g g1 : Nat} {P P' : List En} {v : Value} {e : Ending}
theorem BlP.next (o : Only (Two hb g) w w1) (hg : g1 = g ∨ w.heap.size ≤ g1) (k : BlP v bb rb hb g1 P' w1 e w') : BlP v bb rb hb g P' w e w' := by
  obtain ⟨he, ⟨g2, h2, hg2⟩, o2⟩ := k
  have hs := o.size
  refine ⟨he, ⟨g2, h2, by omega⟩, o.trans' o2 fun j hj hT => ?_⟩
  rcases hT with rfl | rfl
  · exact Or.inl rfl
  · rcases hg with e | e
    · exact Or.inr e
    · omega
end
theorem arm_bad {kind id : Int} (k : Int) (P : List En) (h : ¬ (0 ≤ kind ∧ kind ≤ 3 ∧ 0 ≤ id ∧ id ≤ 15)) : armE kind id k = 9 ∧ armP kind id k P = P := by
  have : armE kind id k = 9 := by unfold armE; rw [bk_no h]; rfl
  exact ⟨this, by unfold armP; rw [this]; rfl⟩
theorem arm_late {kind id k : Int} (P : List En) (h : 0 ≤ kind ∧ kind ≤ 3 ∧ 0 ≤ id ∧ id ≤ 15) (hk : k < 0 ∨ 1099511627776 < k) : armE kind id k = 2 ∧ armP kind id k P = P := by
  have : armE kind id k = 2 := by unfold armE; rw [if_neg (by rw [bk_yes h]; omega), if_pos hk]
  exact ⟨this, by unfold armP; rw [this]; rfl⟩
theorem arm_ok {kind id k : Int} (P : List En) (h : 0 ≤ kind ∧ kind ≤ 3 ∧ 0 ≤ id ∧ id ≤ 15) (hk : ¬ (k < 0 ∨ 1099511627776 < k)) : armE kind id k = 0 ∧ armP kind id k P = armed (bk kind id) k P := by
  have : armE kind id k = 0 := by unfold armE; rw [if_neg (by rw [bk_yes h]; omega), if_neg hk]
  exact ⟨this, by unfold armP; rw [this]; rfl⟩
theorem three_cells' {w : World} {s : Nat} {x y z : Value} {t : TypeId} (h : w.heap[s]? = some (.cells #[x, y, z] t (0, 0))) : w.cell? ⟨s, 0, none⟩ = some x ∧ w.cell? ⟨s, 1, none⟩ = some y ∧ w.cell? ⟨s, 2, none⟩ = some z :=
  ⟨(cell_of_row _ _ _ _ _ _ h).trans rfl, (cell_of_row _ _ _ _ _ _ h).trans rfl, (cell_of_row _ _ _ _ _ _ h).trans rfl⟩

set_option maxHeartbeats 2000000 in
theorem barm1_any (w : World) (bb rb hb g : Nat) (P : List En) (s : Nat) (kind id k : Int) (h : BK w bb rb hb g P) (hs : w.heap[s]? = some (.cells #[.int .i64 k, .int .i64 kind, .int .i64 id] 44 (0, 0))) (hne : s ≠ hb ∧ s ≠ g) :
    Calls Try.prog 34 #[.pointer (some ⟨bb, 0, none⟩), .slice (some ⟨s, 0, none⟩) 1 1] w (BlP (.int .i64 (armE kind id k)) bb rb hb g (armP kind id k P) w) := by
  have H := Lib.hid h
  have HS := Lib.hid hs
  have hls := lt_of_heap hs
  clear h hs
  by_cases hk : 0 ≤ kind ∧ kind ≤ 3 ∧ 0 ≤ id ∧ id ≤ 15
  · have HK := Lib.hid hk
    by_cases ht : k < 0 ∨ 1099511627776 < k
    · obtain ⟨e1, e2⟩ := arm_late (id := id) P hk ht
      rw [e1, e2]
      obtain ⟨c0, c1, c2⟩ := three_cells' HS.out
      have HM : ∀ w', Hid (Calls Try.prog 29 #[.int .i64 kind, .int .i64 id] w' (IsB true w')) := fun w' => bmay_yes kind id w' HK.out
      clear e1 e2 hk
      by_cases ht1 : k < 0
      · have hd1 : decide (k < 0) = true := by simpa using ht1
        clear ht ht1
        go_enter Try.func34, Try.ntmps34
        go_wp2_with fail
        go_loop [12] (fun i => i = .int .i64 0) (fun _ => 0)
        case atStart => rfl
        case round =>
          subst hrel
          go_wp2_with fail
          refine (HM _).out.mono ?_
          rintro e w' ⟨rfl, rfl⟩
          go_wp2_with fail
          go_ret
          exact BlP.of_below H.out ((Below.refl _ _).alloc (Nat.le_refl _) _)
      · have hd1 : decide (k < 0) = false := by simpa using ht1
        have hd2 : decide (1099511627776 < k) = true := by simp; omega
        clear ht ht1
        go_enter Try.func34, Try.ntmps34
        go_wp2_with fail
        go_loop [12] (fun i => i = .int .i64 0) (fun _ => 0)
        case atStart => rfl
        case round =>
          subst hrel
          go_wp2_with fail
          refine (HM _).out.mono ?_
          rintro e w' ⟨rfl, rfl⟩
          go_wp2_with fail
          go_ret
          exact BlP.of_below H.out ((Below.refl _ _).alloc (Nat.le_refl _) _)
    · obtain ⟨e1, e2⟩ := arm_ok (id := id) P hk ht
      rw [e1, e2]
      have hd1 : decide (k < 0) = false := by simp; omega
      have hd2 : decide (1099511627776 < k) = false := by simp; omega
      have HM : ∀ w', Hid (Calls Try.prog 29 #[.int .i64 kind, .int .i64 id] w' (IsB true w')) := fun w' => bmay_yes kind id w' HK.out
      have HNu : ∀ w', Hid (Calls Try.prog 31 #[.int .i64 kind, .int .i64 id] w' (IsN (bk kind id) w')) := fun w' => number_any kind id w' HK.out
      have hn : 0 ≤ bk kind id ∧ bk kind id < 64 := by rw [bk_yes hk]; omega
      have HW2 : Hid (Wf (ins (bk kind id, k) (del (bk kind id) P))) := H.out.W.armed (id := bk kind id) (k := k) hn (by omega)
      have HN0 : Hid (mp (del (bk kind id) P) (bk kind id) = none) := by unfold Hid; rw [H.out.W.mp_del, upd_same]
      have HNn := Lib.hid hn
      clear e1 e2 hk ht hn
      go_enter Try.func34, Try.ntmps34
      go_wp2_with fail
      go_loopw [12] (fun i wr => (i = .int .i64 0 ∨ i = .int .i64 1) ∧ Hid (Below w.heap.size w wr)) (fun i _ => (1 - intOf i).toNat)
      case atStart => exact ⟨Or.inl rfl, Below.refl _ _⟩
      case round =>
        obtain ⟨hi, HB⟩ := hrel
        have hsr := (HB.out.block s hls).trans HS.out
        obtain ⟨c0, c1, c2⟩ := three_cells' hsr
        have hsz := HB.out.size
        rcases hi with rfl | rfl
        · clear hsr
          go_wp2_with fail
          refine (HM _).out.mono ?_
          rintro e w' ⟨rfl, rfl⟩
          go_wp2_with fail
          go_roundw
          case rel => exact ⟨Or.inr rfl, HB.out.alloc hsz _⟩
          case measure => simp [intOf]
        · have H1 : Hid (BK wr bb rb hb g P) := H.out.below HB.out
          have HS1 := Lib.hid hsr
          have HO1 : Hid (Only (Two hb g) w wr) := Only.of_below HB.out
          have hls1 : s < wr.heap.size := by omega
          have hgs : g < w.heap.size ∧ hb < w.heap.size := ⟨H.out.R.lt2, H.out.R.lt1⟩
          clear c0 c1 c2 HB hsr hd1 hd2 HM hls
          obtain ⟨wz, hwz⟩ : ∃ wz, wr = wz := ⟨_, rfl⟩
          rw [hwz] at H1 HS1 HO1 hls1 hsz ⊢
          clear hwz
          go_wp2_with fail
          go_loopw [33] (fun i wr => (i = .int .i64 0 ∧ Hid (wr = wz)) ∨ (i = .int .i64 1 ∧ Hid (BlP (.int .i64 0) bb rb hb g (armed (bk kind id) k P) w (.returned (.int .i64 0)) wr))) (fun i _ => (1 - intOf i).toNat)
          case atStart => exact Or.inl ⟨rfl, rfl⟩
          case round =>
            rcases hrel with ⟨rfl, HE⟩ | ⟨rfl, HE⟩
            · obtain rfl : _ = wz := HE.out
              obtain ⟨c0, c1, c2⟩ := three_cells' HS1.out
              have hX : Hid (BK (wr.alloc (.cells #[.int .i64 k, .int .i64 kind, .int .i64 id] 44)) bb rb hb g P) := H1.out.below ((Below.refl _ _).alloc (Nat.le_refl _) _)
              have hOX : Hid (Only (Two hb g) w (wr.alloc (.cells #[.int .i64 k, .int .i64 kind, .int .i64 id] 44))) := HO1.out.alloc _
              have hx : (wr.alloc (.cells #[.int .i64 k, .int .i64 kind, .int .i64 id] 44)).heap[wr.heap.size]? = some (.cells #[.int .i64 k, .int .i64 kind, .int .i64 id] 44 (0, 0)) := heap_alloc_new wr _
              have HX := Lib.hid hx
              have b0 := hX.out.cell
              clear hx HE
              go_wp2_with fail
              refine (HNu _).out.mono ?_
              rintro e w' ⟨rfl, rfl⟩
              go_wp2_with fail
              refine (hX.out.rem (bk kind id)).mono ?_
              rintro e w2 ⟨rfl, ⟨g2, h2, hg2⟩, o2⟩
              have H2 := Lib.hid h2
              have HO2 := Lib.hid o2
              have hg2' : Hid (g2 = g ∨ (wr.alloc (.cells #[.int .i64 k, .int .i64 kind, .int .i64 id] 44)).heap.size ≤ g2) := hg2
              have hx2 := (o2.block wr.heap.size (by simp) (by rintro (e | e) <;> omega)).trans HX.out
              obtain ⟨d0, d1, d2⟩ := three_cells' hx2
              have b2 := h2.cell
              have HD : ∀ j, Hid (BK (w2.drewN j) bb rb hb g2 (del (bk kind id) P)) := fun j => H2.out.below (below_drewN (Below.refl _ _) _)
              clear h2 o2 hg2 hx2 c0 c1 c2 b0
              go_wp2_with fail
              go_region_with (first | (go_at_call 42; refine ((HD 1).out.put (bk kind id) k HNn.out HN0.out HW2.out).mono ?_; intro e w3 hpp; have HF : Hid (BlP (.int .i64 0) bb rb hb g (armed (bk kind id) k P) w (.returned (.int .i64 0)) w3) := (BlP.next hOX.out (Or.inl rfl) (BlP.next HO2.out hg2'.out (BlP.undrew hpp))).val; obtain ⟨rfl, _⟩ := hpp))
              all_goals
                go_wp2_with fail
                go_roundw
                case rel => exact Or.inr ⟨rfl, HF⟩
                case measure => simp [intOf]
            · go_wp2_with fail
              go_ret
              exact HE.out
  · obtain ⟨e1, e2⟩ := arm_bad k P hk
    rw [e1, e2]
    obtain ⟨c0, c1, c2⟩ := three_cells' HS.out
    have HM : ∀ w', Hid (Calls Try.prog 29 #[.int .i64 kind, .int .i64 id] w' (IsB false w')) := fun w' => bmay_no kind id w' hk
    clear e1 e2
    go_enter Try.func34, Try.ntmps34
    go_wp2_with fail
    go_loop [12] (fun i => i = .int .i64 0) (fun _ => 0)
    case atStart => rfl
    case round =>
      subst hrel
      go_wp2_with fail
      refine (HM _).out.mono ?_
      rintro e w' ⟨rfl, rfl⟩
      go_wp2_with fail
      go_ret
      exact BlP.of_below H.out ((Below.refl _ _).alloc (Nat.le_refl _) _)

set_option maxHeartbeats 1000000 in
theorem barm_any (w : World) (bb rb hb g : Nat) (P : List En) (kind id k : Int) (h : BK w bb rb hb g P) :
    Calls Try.prog 19 #[.pointer (some ⟨bb, 0, none⟩), .int .i64 kind, .int .i64 id, .int .i64 k] w (BlP (.int .i64 (armE kind id k)) bb rb hb g (armP kind id k P) w) := by
  have c0 := h.cell
  have HNone := Lib.hid (bnone_any w bb rb c0)
  have H := Lib.hid h
  have hl1 := h.R.lt1
  have hl2 := h.R.lt2
  have HA := Lib.hid (barm1_any (w.alloc (.cells #[.int .i64 k, .int .i64 kind, .int .i64 id] 44)) bb rb hb g P w.heap.size kind id k (h.below ((Below.refl _ _).alloc (Nat.le_refl _) _)) (heap_alloc_new w _) (by omega))
  clear h
  go_enter Try.func19, Try.ntmps19
  go_wp2_with fail
  refine HNone.out.mono ?_
  rintro e w' ⟨rfl, rfl⟩
  go_wp2_with fail
  refine HA.out.mono ?_
  intro e w2 hpp
  have HF : Hid (BlP (.int .i64 (armE kind id k)) bb rb hb g (armP kind id k P) w e w2) := BlP.next ((Only.refl _ w).alloc _) (Or.inl rfl) hpp
  obtain ⟨rfl, _⟩ := hpp
  go_wp2_with fail
  go_ret
  exact HF.out

end Go.Proofs.Ytdfolbnnhglpeaa
