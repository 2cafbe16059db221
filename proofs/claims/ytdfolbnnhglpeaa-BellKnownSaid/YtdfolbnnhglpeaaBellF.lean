/- The document's bells: Arm. -/
import Derived.Test.YtdfolbnnhglpeaaBellE
namespace Go.Proofs.Ytdfolbnnhglpeaa
open Go.RowKit Rk
set_option linter.unusedVariables false

/-- where x belongs -/
theorem ins_at (x : En) : ∀ (l : List En) (j : Nat), j ≤ l.length → (∀ i (h : i < l.length), i < j → lt (l[i]) x) → (∀ h : j < l.length, ¬ lt (l[j]) x) → ins x l = l.take j ++ [x] ++ l.drop j
  | [], j, hj, _, _ => by
    obtain rfl : j = 0 := by simpa using hj
    rfl
  | y :: l, 0, _, _, h2 => by
    have := h2 (by simp)
    simp only [List.getElem_cons_zero] at this
    unfold ins
    rw [if_neg this]
    rfl
  | y :: l, j + 1, hj, h1, h2 => by
    have h0 := h1 0 (by simp) (by omega)
    simp only [List.getElem_cons_zero] at h0
    unfold ins
    rw [if_pos h0, ins_at x l j (by simpa using hj) (fun i h hi => by have := h1 (i + 1) (by simpa using h) (by omega); simpa using this) (fun h => by have := h2 (by simpa using h); simpa using this)]
    simp
def Bf (l : List En) (x : En) (j : Nat) : Prop := ∀ i (h : i < l.length), i < j → lt (l[i]) x
theorem Bf.step {l : List En} {x : En} {j : Nat} (h : Bf l x j) (hj : j < l.length) (hl : lt (l[j]) x) : Bf l x (j + 1) := by
  intro i hi hij
  by_cases e : i = j
  · subst e; exact hl
  · exact h i hi (by omega)
/-- the cells of what stands from the j-th bell on -/
def Cells3 (w : World) (mg off : Nat) (l : List En) : Prop := ∀ i (hi : i < l.length), w.cell? ⟨mg, off + i * 3, none⟩ = some (.int .i64 (l[i]).2) ∧ w.cell? ⟨mg, off + i * 3 + 1, none⟩ = some (.int .i64 ((l[i]).1 / 16)) ∧ w.cell? ⟨mg, off + i * 3 + 2, none⟩ = some (.int .i64 ((l[i]).1 % 16))
theorem Cells3.drop {w : World} {mg off : Nat} {l : List En} (h : Cells3 w mg off l) (j : Nat) : Cells3 w mg (off + j * 3) (l.drop j) := by
  intro i hi
  have hi' : j + i < l.length := by rw [List.length_drop] at hi; omega
  obtain ⟨a, b, c⟩ := h (j + i) hi'
  have e : off + (j + i) * 3 = off + j * 3 + i * 3 := by omega
  rw [e] at a b c
  rw [List.getElem_drop]
  exact ⟨a, b, c⟩
theorem Cells3.at {w : World} {mg off : Nat} : ∀ {l : List En}, Cells3 w mg off l → ∀ (q : Nat) (u : Value), (bcells l)[q]? = some u → w.cell? ⟨mg, off + q, none⟩ = some u := by
  intro l h q u hq
  have hb := (List.getElem?_eq_some_iff.1 hq).1
  rw [len_bcells] at hb
  obtain ⟨i, r, hr, rfl⟩ : ∃ i r, r < 3 ∧ q = i * 3 + r := ⟨q / 3, q % 3, by omega, by omega⟩
  have hi : i < l.length := by omega
  obtain ⟨g1, g2, g3⟩ := get_bcells l i hi
  obtain ⟨c1, c2, c3⟩ := h i hi
  match r, hr with
  | 0, _ => rw [Nat.add_zero] at hq ⊢; rw [g1] at hq; rw [← hq]; exact c1
  | 1, _ => rw [g2] at hq; rw [← hq, ← Nat.add_assoc]; exact c2
  | 2, _ => rw [g3] at hq; rw [← hq, ← Nat.add_assoc]; exact c3
theorem Cells3.keep {w w' : World} {mg off : Nat} {l : List En} (h : Cells3 w mg off l) (e : w'.heap[mg]? = w.heap[mg]?) : Cells3 w' mg off l := fun i hi => by
  obtain ⟨a, b, c⟩ := h i hi
  exact ⟨(World.cell?_of_block e).trans a, (World.cell?_of_block e).trans b, (World.cell?_of_block e).trans c⟩

set_option maxRecDepth 100000 in
set_option maxHeartbeats 16000000 in
theorem rarm_any (w : World) (mb mg : Nat) (l : List En) (kind id k : Int) (h : RB w mb mg l) (hW : Wf l) :
    Calls Try.prog 24 #[.pointer (some ⟨mb, 0, none⟩), .int .i64 kind, .int .i64 id, .int .i64 k] w (RbP (.int .i64 (armE kind id k)) mb mg (armP kind id k l) w) := by
  have H := Lib.hid h
  have HW := Lib.hid hW
  clear h hW
  by_cases hk : 0 ≤ kind ∧ kind ≤ 3 ∧ 0 ≤ id ∧ id ≤ 15
  · have HK := Lib.hid hk
    by_cases ht : k < 0 ∨ 1099511627776 < k
    · obtain ⟨e1, e2⟩ := arm_late (id := id) l hk ht
      rw [e1, e2]
      clear e1 e2 hk
      by_cases ht1 : k < 0
      · have hd1 : decide (k < 0) = true := by simpa using ht1
        clear ht ht1
        go_enter Try.func24, Try.ntmps24
        go_wp2_with fail
        refine (there_yes kind id w HK.out).mono ?_
        rintro e w' ⟨rfl, rfl⟩
        go_wp2_with fail
        go_ret
        exact RbP.same H.out
      · have hd1 : decide (k < 0) = false := by simpa using ht1
        have hd2 : decide (1099511627776 < k) = true := by simp; omega
        clear ht ht1
        go_enter Try.func24, Try.ntmps24
        go_wp2_with fail
        refine (there_yes kind id w HK.out).mono ?_
        rintro e w' ⟨rfl, rfl⟩
        go_wp2_with fail
        go_ret
        exact RbP.same H.out
    · obtain ⟨e1, e2'⟩ := arm_ok (id := id) l hk ht
      have e2 : armP kind id k l = ins (bk kind id, k) (del (bk kind id) l) := e2'
      rw [e1, e2]
      clear e2'
      have hd1 : decide (k < 0) = false := by simp; omega
      have hd2 : decide (1099511627776 < k) = false := by simp; omega
      have hn0 : 0 ≤ bk kind id ∧ bk kind id < 64 := by rw [bk_yes hk]; omega
      have HKi : Hid (bk kind id / 16 = kind ∧ bk kind id % 16 = id) := (bk_iff hn0).1 rfl
      have HRem := Lib.hid (rcan_any w mb mg l kind id H.out HW.out)
      obtain ⟨i0, hi, hz0, hz1, hz2⟩ := info_parts infoBell
      have HInfo := Lib.hid (⟨hi, hz0, hz1, hz2⟩ : _ ∧ _ ∧ _ ∧ _)
      have HLL := Lib.hid (HW.out.del (bk kind id)).len
      clear e1 e2 hk ht hn0 hi hz0 hz1 hz2
      go_enter Try.func24, Try.ntmps24
      go_wp2_with fail
      refine (there_yes kind id w HK.out).mono ?_
      rintro e w' ⟨rfl, rfl⟩
      go_wp2_with fail
      refine HRem.out.mono ?_
      rintro e w2 ⟨rfl, ⟨mg2, hr2, hg2⟩, o2⟩
      have HO2 := Lib.hid o2
      generalize (mp l (bk kind id)).isSome = bb
      clear hd1 hd2 HRem o2
      obtain ⟨L, hL⟩ : ∃ L, del (bk kind id) l = L := ⟨_, rfl⟩
      rw [hL] at hr2 HLL
      have HLd := Lib.hid hL
      have hlb := hr2.lb
      have hlg := hr2.lg
      clear hL
      obtain ⟨v, h1, h2⟩ := hr2.S
      rcases h2 with ⟨hLn, rfl⟩ | ⟨off, cap, rfl, hle, hmx, _, hc⟩
      · have HLn := Lib.hid hLn
        have HBlk := Lib.hid h1
        have c0 := cell_of_one h1
        clear h1 hLn
        go_wp2_with fail
        clear hr2
        go_loopw [10, 11] (fun o i wr => i = .int .i64 0 ∧ o = .slice none 0 0 ∧ Hid (wr = (w2.alloc (.cells #[.int .i64 k, .int .i64 kind, .int .i64 id] 44)))) (fun _ i _ => 0)
        case atStart => exact ⟨rfl, rfl, rfl⟩
        case round =>
          clear c0
          obtain ⟨rfl, rfl, HWr⟩ := hrel
          have HBl : Hid (Below (w2.heap.size + 1) (w2.alloc (.cells #[.int .i64 k, .int .i64 kind, .int .i64 id] 44)) wr) := by unfold Hid; rw [HWr.out]; exact Below.refl _ _
          have HE : Hid (BR wr (w2.heap.size + 1) (.slice none 0 0) []) := BR.nil _ _
          clear HWr
          have hs1 : w2.heap.size + 1 ≤ wr.heap.size := by have := HBl.out.size; simpa using this
          have hbx : wr.heap[w2.heap.size]? = _ := (HBl.out.block w2.heap.size (by omega)).trans (heap_alloc_new w2 _)
          have c0 : wr.cell? ⟨mb, 0, none⟩ = _ := cell_of_one (((HBl.out.block mb (by omega)).trans (Below.heap_alloc _ _ _ hlb)).trans HBlk.out)
          obtain ⟨k1, k2, k3⟩ := three_cells' hbx
          have HBX := Lib.hid hbx
          clear hbx
          go_wp2_with fail
          go_quiet (fail)
          have hB3 : Below wr.heap.size wr (wr.drewN nq) := below_drewN (Below.refl _ _) _
          generalize wr.drewN nq = w3 at hB3 ⊢
          have HB3 : Hid (Below (w2.heap.size + 1) (w2.alloc (.cells #[.int .i64 k, .int .i64 kind, .int .i64 id] 44)) w3) := HBl.out.trans (hB3.mono hs1)
          have HE3 : Hid (BR w3 (w2.heap.size + 1) (.slice none 0 0) []) := BR.nil _ _
          have hs3 : w2.heap.size + 1 ≤ w3.heap.size := by have := hB3.size; omega
          clear c0 k1 k2 k3
          have c0 : w3.cell? ⟨mb, 0, none⟩ = _ := cell_of_one (((HB3.out.block mb (by omega)).trans (Below.heap_alloc _ _ _ hlb)).trans HBlk.out)
          have hbx : w3.heap[w2.heap.size]? = _ := (hB3.block w2.heap.size (by omega)).trans HBX.out
          obtain ⟨k1, k2, k3⟩ := three_cells' hbx
          have Hm1 : Hid (0 + 1 ≤ maxLen) := by unfold Hid maxLen; omega
          have Hm2 : Hid ((0 + 1) * 24 ≤ 140737488355328) := by unfold Hid; omega
          have Hm3 : ∀ o, Hid (w2.heap.size + 1 ≤ (w3.alloc o).heap.size) := fun o => by unfold Hid; simp; omega
          clear hbx HBX HE HBl hB3
          go_wp2_with (at_builtin; refine wpList_append_own _ rfl _ _ 34 rfl (w2.heap.size + 1) 44 i0 _ 3 24 Try.underlying34 HInfo.out.1 HInfo.out.2.1 HInfo.out.2.2.1 HInfo.out.2.2.2 rfl (by decide) _ 0 [] rfl (World.ownsRow.alloc HE3.out _) ⟨w3.heap.size, 0, none⟩ 1 1 [.int .i64 k, .int .i64 kind, .int .i64 id] rfl rfl (three_new _ _ _ _ _) (one3 _ _ _) Hm1.out Hm2.out (Hm3 _).out ?_)
          intro v' w4 hown hgrow _
          have HE4 : Hid (BR w4 (w2.heap.size + 1) v' [(bk kind id, k)]) := BR.more (l := []) (k := [(bk kind id, k)]) hown rfl (by show _ = [_, _, _]; rw [HKi.out.1, HKi.out.2])
          have HB4 : Hid (Below (w2.heap.size + 1) (w2.alloc (.cells #[.int .i64 k, .int .i64 kind, .int .i64 id] 44)) w4) := (HB3.out.alloc hs3 _).grown hgrow (by simp; omega) (fun q hq => HE3.out.own q hq)
          have hblk : w4.heap[mb]? = _ := ((HB4.out.block mb (by omega)).trans (Below.heap_alloc _ _ _ hlb)).trans HBlk.out
          have c1 := cell_of_one hblk
          have fr := free_of_one hblk
          have hs4 : w2.heap.size + 1 ≤ w4.heap.size := by have := HB4.out.size; simpa using this
          have HBlk4 := Lib.hid hblk
          clear hown hgrow Hm1 Hm2 Hm3 HE3 HB3 hblk c0 k1 k2 k3
          obtain ⟨a2, cap2, hv2⟩ := HE4.out.slice
          have hv3 : v' = .slice a2 1 cap2 := hv2
          clear hv2
          subst hv3
          have hs5 : mg2 < w4.heap.size := by omega
          have HF := Lib.hid (HE4.out.rb (mg := mg2) (by omega) hs5 _ HBlk4.out)
          have HOn : Hid (Only (fun q => q = mb) w2 (w4.setCell ⟨mb, 0, none⟩ (.slice a2 1 cap2))) := Only.setCell (S := fun q => q = mb) (p := ⟨mb, 0, none⟩) (((Only.refl _ w2).alloc _).trans (Only.of_below (HB4.out.mono (by simp)))) (Or.inl rfl) _
          go_wp2_with (at_builtin; refine wpList_append_own_none rfl _ _ 34 rfl (w2.heap.size + 1) 44 i0 3 Try.underlying34 HInfo.out.1 _ _ _ rfl HE4.out rfl ?_)
          go_ret
          exact RbP.next HO2.out hg2 ⟨rfl, by
            obtain ⟨mg', hr, hg⟩ := HF.out
            exact ⟨mg', by rw [HLd.out, HLn.out]; exact hr, by omega⟩, HOn.out⟩
      · obtain ⟨n, hn⟩ : ∃ n, L.length = n := ⟨_, rfl⟩
        have HC : Hid (Cells3 w2 mg2 off L) := hc
        rw [hn] at hle h1
        have hN : n ≤ 64 := by have := HLL.out; omega
        have HN' := Lib.hid hn
        have HBlk := Lib.hid h1
        have c0 := cell_of_one h1
        unfold maxLen at hmx
        clear h1 hc hn
        go_wp2_with fail
        clear hr2
        go_loopw [10, 11] (fun o i wr => ∃ (j : Nat) (Q : List En), j ≤ n ∧ i = .int .i64 j ∧ Hid (Q = L.take j) ∧ Hid (BR wr (w2.heap.size + 1) o Q) ∧ Hid (Below (w2.heap.size + 1) (w2.alloc (.cells #[.int .i64 k, .int .i64 kind, .int .i64 id] 44)) wr) ∧ Hid (Bf L (bk kind id, k) j)) (fun _ i _ => n - (intOf i).toNat)
        case atStart => exact ⟨0, [], Nat.zero_le _, rfl, rfl, BR.nil _ _, Below.refl _ _, fun i _ h => by omega⟩
        case round =>
          clear c0
          obtain ⟨j, Q, hj, rfl, HP, HE, HBl, HBf⟩ := hrel
          have hs1 : w2.heap.size + 1 ≤ wr.heap.size := by have := HBl.out.size; simpa using this
          have hbx : wr.heap[w2.heap.size]? = _ := (HBl.out.block w2.heap.size (by omega)).trans (heap_alloc_new w2 _)
          have c0 : wr.cell? ⟨mb, 0, none⟩ = _ := cell_of_one (((HBl.out.block mb (by omega)).trans (Below.heap_alloc _ _ _ hlb)).trans HBlk.out)
          obtain ⟨k1, k2, k3⟩ := three_cells' hbx
          have HPn : Hid (Q.length = j) := by unfold Hid; rw [HP.out, List.length_take, HN'.out]; omega
          have Hm1 : Hid (Q.length + 1 ≤ maxLen) := by unfold Hid maxLen; rw [HPn.out]; omega
          have Hm2 : Hid ((Q.length + 1) * 24 ≤ 140737488355328) := by unfold Hid; rw [HPn.out]; omega
          have HCr : Hid (Cells3 wr mg2 off L) := HC.out.keep ((HBl.out.block mg2 (by omega)).trans (Below.heap_alloc _ _ _ hlg))
          have hlbr : mb < wr.heap.size := by omega
          have hlgr : mg2 < wr.heap.size := by omega
          have HBX := Lib.hid hbx
          clear hbx
          by_cases hjn : j < n
          · have hjl : j < L.length := by rw [HN'.out]; exact hjn
            obtain ⟨d1, d2, d3⟩ := HCr.out j hjl
            have HS := Lib.hid (take_snoc' hjl)
            have hA := ahd_lt (x := L[j]) (y := (bk kind id, k))
            obtain ⟨y, hy⟩ : ∃ y, L[j] = y := ⟨_, rfl⟩
            rw [hy] at d1 d2 d3 HS hA
            have HY := Lib.hid hy
            clear hy
            obtain ⟨y1, y2⟩ := y
            dsimp only at d1 d2 d3 hA
            rw [HKi.out.1, HKi.out.2] at hA
            obtain ⟨q, hq⟩ : ∃ q, y1 / 16 = q := ⟨_, rfl⟩
            obtain ⟨r, hr⟩ : ∃ r, y1 % 16 = r := ⟨_, rfl⟩
            rw [hq] at d2 hA
            rw [hr] at d3 hA
            have HQ := Lib.hid hq
            have HRm := Lib.hid hr
            clear hq hr
            obtain ⟨ab, hab⟩ : ∃ ab, decide (lt (y1, y2) (bk kind id, k)) = ab := ⟨_, rfl⟩
            rw [hab] at hA
            have HAB := Lib.hid hab
            have HCall : ∀ w', Hid (Calls Try.prog 38 #[.agg #[.int .i64 y2, .int .i64 q, .int .i64 r], .agg #[.int .i64 k, .int .i64 kind, .int .i64 id]] w' (AhdP ab w')) := fun w' => by have := rahead_any y2 q r k kind id w'; rw [hA] at this; exact this
            clear hA hab
            have C0 := fun n os => cell_grown (w := wr) (a := ⟨mb, 0, none⟩) hlbr c0 n os
            have D1 := fun n os => cell_grown (w := wr) (a := ⟨mg2, off + j * 3, none⟩) hlgr d1 n os
            have D2 := fun n os => cell_grown (w := wr) (a := ⟨mg2, off + j * 3 + 1, none⟩) hlgr d2 n os
            have D3 := fun n os => cell_grown (w := wr) (a := ⟨mg2, off + j * 3 + 2, none⟩) hlgr d3 n os
            have K1 := fun n os => cell_grown (w := wr) (a := ⟨w2.heap.size, 0, none⟩) (show w2.heap.size < wr.heap.size by omega) k1 n os
            have K2 := fun n os => cell_grown (w := wr) (a := ⟨w2.heap.size, 1, none⟩) (show w2.heap.size < wr.heap.size by omega) k2 n os
            have K3 := fun n os => cell_grown (w := wr) (a := ⟨w2.heap.size, 2, none⟩) (show w2.heap.size < wr.heap.size by omega) k3 n os
            have mixed : Try.prog.follows .mixedOrders = true := by kernel_rfl
            clear c0 d1 d2 d3 k1 k2 k3
            go_wp2_with fail
            go_quiet_grown ((go_at_call 38; refine Calls.grown_of ((HCall _).out.mono fun _ _ h => h)))
            have hB3 : Below wr.heap.size wr (Sort.grow (wr.drewN nq) osq) := Grw.below ⟨nq, osq, rfl⟩
            generalize Sort.grow (wr.drewN nq) osq = w3 at hB3 ⊢
            have HB3 : Hid (Below (w2.heap.size + 1) (w2.alloc (.cells #[.int .i64 k, .int .i64 kind, .int .i64 id] 44)) w3) := HBl.out.trans (hB3.mono hs1)
            have HE3 : Hid (BR w3 (w2.heap.size + 1) u10 Q) := HE.out.below hB3
            have hs3 : w2.heap.size + 1 ≤ w3.heap.size := by have := hB3.size; omega
            have c0 : w3.cell? ⟨mb, 0, none⟩ = _ := cell_of_one (((HB3.out.block mb (by omega)).trans (Below.heap_alloc _ _ _ hlb)).trans HBlk.out)
            have hbx : w3.heap[w2.heap.size]? = _ := (hB3.block w2.heap.size (by omega)).trans HBX.out
            obtain ⟨k1, k2, k3⟩ := three_cells' hbx
            have Hm3 : ∀ o, Hid (w2.heap.size + 1 ≤ (w3.alloc o).heap.size) := fun o => by unfold Hid; simp; omega
            clear C0 D1 D2 D3 K1 K2 K3 HCall mixed hbx HBX HE HBl
            cases ab with
            | true =>
              have HBf2 : Hid (Bf L (bk kind id, k) (j + 1)) := HBf.out.step hjl (by rw [HY.out]; exact of_decide_eq_true HAB.out)
              obtain ⟨d1, d2, d3⟩ := (HCr.out.keep (hB3.block mg2 hlgr)) j hjl
              rw [HY.out] at d1 d2 d3
              dsimp only at d1 d2 d3
              rw [HQ.out] at d2
              rw [HRm.out] at d3
              clear hB3 HBf HAB HCr
              go_wp2_with (at_builtin; refine wpList_append_own _ rfl _ _ 34 rfl (w2.heap.size + 1) 44 i0 _ 3 24 Try.underlying34 HInfo.out.1 HInfo.out.2.1 HInfo.out.2.2.1 HInfo.out.2.2.2 rfl (by decide) _ _ _ rfl (World.ownsRow.alloc HE3.out _) ⟨w3.heap.size, 0, none⟩ 1 1 [.int .i64 y2, .int .i64 q, .int .i64 r] rfl rfl (three_new _ _ _ _ _) (one3 _ _ _) Hm1.out Hm2.out (Hm3 _).out ?_)
              intro v' w4 hown hgrow _
              have HE4 : Hid (BR w4 (w2.heap.size + 1) v' (Q ++ [(y1, y2)])) := BR.more (k := [(y1, y2)]) hown rfl (by rw [← HQ.out, ← HRm.out]; rfl)
              have HB4 : Hid (Below (w2.heap.size + 1) (w2.alloc (.cells #[.int .i64 k, .int .i64 kind, .int .i64 id] 44)) w4) := (HB3.out.alloc hs3 _).grown hgrow (by simp; omega) (fun q hq => HE3.out.own q hq)
              have HP2 : Hid (Q ++ [(y1, y2)] = L.take (j + 1)) := by rw [HS.out, HP.out]; rfl
              clear hown hgrow Hm1 Hm2 Hm3 HE3 HB3
              go_wp2_with fail
              go_roundw
              case rel => exact ⟨j + 1, _, by omega, by go_num, HP2, HE4, HB4, HBf2⟩
              case measure => simp [intOf]; omega
            | false =>
              have HIns : Hid (ins (bk kind id, k) L = Q ++ [(bk kind id, k)] ++ L.drop j) := by
                unfold Hid
                rw [HP.out]
                exact ins_at (bk kind id, k) L j (by rw [HN'.out]; exact hj) HBf.out (fun h => by rw [HY.out]; exact of_decide_eq_false HAB.out)
              clear hB3 HBf HAB HCr HY HS HQ HRm
              go_wp2_with (at_builtin; refine wpList_append_own _ rfl _ _ 34 rfl (w2.heap.size + 1) 44 i0 _ 3 24 Try.underlying34 HInfo.out.1 HInfo.out.2.1 HInfo.out.2.2.1 HInfo.out.2.2.2 rfl (by decide) _ _ _ rfl (World.ownsRow.alloc HE3.out _) ⟨w3.heap.size, 0, none⟩ 1 1 [.int .i64 k, .int .i64 kind, .int .i64 id] rfl rfl (three_new _ _ _ _ _) (one3 _ _ _) Hm1.out Hm2.out (Hm3 _).out ?_)
              intro v' w4 hown hgrow _
              have HE4 : Hid (BR w4 (w2.heap.size + 1) v' (Q ++ [(bk kind id, k)])) := BR.more (k := [(bk kind id, k)]) hown rfl (by show _ = [_, _, _]; rw [HKi.out.1, HKi.out.2])
              have HB4 : Hid (Below (w2.heap.size + 1) (w2.alloc (.cells #[.int .i64 k, .int .i64 kind, .int .i64 id] 44)) w4) := (HB3.out.alloc hs3 _).grown hgrow (by simp; omega) (fun q hq => HE3.out.own q hq)
              have hblk : w4.heap[mb]? = _ := ((HB4.out.block mb (by omega)).trans (Below.heap_alloc _ _ _ hlb)).trans HBlk.out
              have c1 := cell_of_one hblk
              have fr := free_of_one hblk
              have hs4 : w2.heap.size + 1 ≤ w4.heap.size := by have := HB4.out.size; simpa using this
              have HC4 : Hid (Cells3 w4 mg2 off L) := HC.out.keep ((HB4.out.block mg2 (by omega)).trans (Below.heap_alloc _ _ _ hlg))
              have HL1 : Hid ((Q ++ [(bk kind id, k)]).length = j + 1) := by unfold Hid; rw [List.length_append, HPn.out]; rfl
              have HD : Hid ((bcells (L.drop j)).length = (n - j) * 3) := by unfold Hid; rw [len_bcells, List.length_drop, HN'.out]
              have HDn : Hid ((L.drop j).length = n - j) := by unfold Hid; rw [List.length_drop, HN'.out]
              have Hm4 : Hid ((Q ++ [(bk kind id, k)]).length + (n - j) ≤ maxLen) := by unfold Hid maxLen; rw [HL1.out]; omega
              have Hm5 : Hid (((Q ++ [(bk kind id, k)]).length + (n - j)) * 24 ≤ 140737488355328) := by unfold Hid; rw [HL1.out]; omega
              generalize hQQ : Q ++ [(bk kind id, k)] = QQ at *
              have HQQ := Lib.hid hQQ
              clear hQQ hown hgrow Hm1 Hm2 Hm3 HE3 HB3 hblk c0 k1 k2 k3
              by_cases hcj : cap = j
              · omega
              · have hc1 : ∀ (q : Nat) (u : Value), (bcells (L.drop j))[q]? = some u → w4.cell? ((⟨mg2, off + j * 3, none⟩ : Addr).add q) = some u := fun q u hq => by
                  rw [Addr.add_lit]
                  exact (HC4.out.drop j).at q u hq
                have HC1 := Lib.hid hc1
                clear hc1
                have HOne := Lib.hid (one_bcells (L.drop j))
                go_wp2_with (at_builtin; refine wpList_append_own _ rfl _ _ 34 rfl (w2.heap.size + 1) 44 i0 _ 3 24 Try.underlying34 HInfo.out.1 HInfo.out.2.1 HInfo.out.2.2.1 HInfo.out.2.2.2 rfl (by decide) _ _ _ rfl HE4.out ⟨mg2, off + j * 3, none⟩ (n - j) _ (bcells (L.drop j)) rfl HD.out HC1.out HOne.out Hm4.out Hm5.out hs4 ?_)

                intro v2 w5 hown2 hgrow2 _
                have HE5 : Hid (BR w5 (w2.heap.size + 1) v2 (QQ ++ L.drop j)) := BR.more hown2 HDn.out.symm rfl
                have HB5 : Hid (Below (w2.heap.size + 1) (w2.alloc (.cells #[.int .i64 k, .int .i64 kind, .int .i64 id] 44)) w5) := HB4.out.grown hgrow2 hs4 (fun q hq => HE4.out.own q hq)
                have hblk2 : w5.heap[mb]? = _ := (HB5.out.block mb (by omega)).trans ((Below.heap_alloc _ _ _ hlb).trans HBlk.out)
                have c2 := cell_of_one hblk2
                have fr2 := free_of_one hblk2
                have hs5 : mg2 < w5.heap.size := by have := HB5.out.size; simp at this; omega
                have HF := Lib.hid (HE5.out.rb (mg := mg2) (by omega) hs5 _ hblk2)
                have HOn : Hid (Only (fun q => q = mb) w2 (w5.setCell ⟨mb, 0, none⟩ v2)) := Only.setCell (S := fun q => q = mb) (p := ⟨mb, 0, none⟩) (((Only.refl _ w2).alloc _).trans (Only.of_below (HB5.out.mono (by simp)))) (Or.inl rfl) _
                clear hown2 hgrow2 hblk2 c1 fr
                obtain ⟨a2, cap2, hv2⟩ := HE5.out.slice
                generalize (QQ ++ L.drop j).length = L2 at hv2
                rw [hv2] at HF HOn ⊢
                clear hv2 HE5
                go_wp2_with fail
                go_ret
                exact RbP.next HO2.out hg2 ⟨rfl, by
                  obtain ⟨mg', hr, hg⟩ := HF.out
                  exact ⟨mg', by rw [HLd.out, HIns.out]; exact hr, by omega⟩, HOn.out⟩
          · have HIns : Hid (ins (bk kind id, k) L = Q ++ [(bk kind id, k)] ++ L.drop j) := by
              unfold Hid
              rw [HP.out]
              exact ins_at (bk kind id, k) L j (by rw [HN'.out]; exact hj) HBf.out (fun h => by have := HN'.out; omega)
            clear HBf HCr
            have hd0 : decide ((j : Int) < (n : Int)) = false := by simp; omega
            go_wp2_with fail
            go_quiet (fail)
            have hB3 : Below wr.heap.size wr (wr.drewN nq) := below_drewN (Below.refl _ _) _
            generalize wr.drewN nq = w3 at hB3 ⊢
            have HB3 : Hid (Below (w2.heap.size + 1) (w2.alloc (.cells #[.int .i64 k, .int .i64 kind, .int .i64 id] 44)) w3) := HBl.out.trans (hB3.mono hs1)
            have HE3 : Hid (BR w3 (w2.heap.size + 1) u10 Q) := HE.out.below hB3
            have hs3 : w2.heap.size + 1 ≤ w3.heap.size := by have := hB3.size; omega
            clear c0 k1 k2 k3
            have c0 : w3.cell? ⟨mb, 0, none⟩ = _ := cell_of_one (((HB3.out.block mb (by omega)).trans (Below.heap_alloc _ _ _ hlb)).trans HBlk.out)
            have hbx : w3.heap[w2.heap.size]? = _ := (hB3.block w2.heap.size (by omega)).trans HBX.out
            obtain ⟨k1, k2, k3⟩ := three_cells' hbx
            have Hm3 : ∀ o, Hid (w2.heap.size + 1 ≤ (w3.alloc o).heap.size) := fun o => by unfold Hid; simp; omega
            clear hbx HBX HE HBl hB3
            go_wp2_with (at_builtin; refine wpList_append_own _ rfl _ _ 34 rfl (w2.heap.size + 1) 44 i0 _ 3 24 Try.underlying34 HInfo.out.1 HInfo.out.2.1 HInfo.out.2.2.1 HInfo.out.2.2.2 rfl (by decide) _ _ _ rfl (World.ownsRow.alloc HE3.out _) ⟨w3.heap.size, 0, none⟩ 1 1 [.int .i64 k, .int .i64 kind, .int .i64 id] rfl rfl (three_new _ _ _ _ _) (one3 _ _ _) Hm1.out Hm2.out (Hm3 _).out ?_)
            intro v' w4 hown hgrow _
            have HE4 : Hid (BR w4 (w2.heap.size + 1) v' (Q ++ [(bk kind id, k)])) := BR.more (k := [(bk kind id, k)]) hown rfl (by show _ = [_, _, _]; rw [HKi.out.1, HKi.out.2])
            have HB4 : Hid (Below (w2.heap.size + 1) (w2.alloc (.cells #[.int .i64 k, .int .i64 kind, .int .i64 id] 44)) w4) := (HB3.out.alloc hs3 _).grown hgrow (by simp; omega) (fun q hq => HE3.out.own q hq)
            have hblk : w4.heap[mb]? = _ := ((HB4.out.block mb (by omega)).trans (Below.heap_alloc _ _ _ hlb)).trans HBlk.out
            have c1 := cell_of_one hblk
            have fr := free_of_one hblk
            have hs4 : w2.heap.size + 1 ≤ w4.heap.size := by have := HB4.out.size; simpa using this
            have HC4 : Hid (Cells3 w4 mg2 off L) := HC.out.keep ((HB4.out.block mg2 (by omega)).trans (Below.heap_alloc _ _ _ hlg))
            have HL1 : Hid ((Q ++ [(bk kind id, k)]).length = j + 1) := by unfold Hid; rw [List.length_append, HPn.out]; rfl
            have HD : Hid ((bcells (L.drop j)).length = (n - j) * 3) := by unfold Hid; rw [len_bcells, List.length_drop, HN'.out]
            have HDn : Hid ((L.drop j).length = n - j) := by unfold Hid; rw [List.length_drop, HN'.out]
            have Hm4 : Hid ((Q ++ [(bk kind id, k)]).length + (n - j) ≤ maxLen) := by unfold Hid maxLen; rw [HL1.out]; omega
            have Hm5 : Hid (((Q ++ [(bk kind id, k)]).length + (n - j)) * 24 ≤ 140737488355328) := by unfold Hid; rw [HL1.out]; omega
            generalize hQQ : Q ++ [(bk kind id, k)] = QQ at *
            have HQQ := Lib.hid hQQ
            clear hQQ hown hgrow Hm1 Hm2 Hm3 HE3 HB3 hblk c0 k1 k2 k3
            by_cases hcj : cap = j
            · have hnj : n = j := by omega
              have hdr : L.drop j = [] := List.drop_of_length_le (by rw [HN'.out]; omega)
              have HDR := Lib.hid hdr
              have Hm6 : Hid (QQ.length + 0 ≤ maxLen) := by unfold Hid maxLen; rw [HL1.out]; omega
              have Hm7 : Hid ((QQ.length + 0) * 24 ≤ 140737488355328) := by unfold Hid; rw [HL1.out]; omega
              have Hc9 : Hid (∀ (q : Nat) (u : Value), ([] : List Value)[q]? = some u → w4.cell? ((⟨mg2, off, none⟩ : Addr).add q) = some u) := fun q u hq => by simp at hq
              have Ho9 : Hid (∀ u ∈ ([] : List Value), u.oneCell' = true) := fun u hu => by cases hu
              clear hdr
              go_wp2_with (at_builtin; refine wpList_append_own _ rfl _ _ 34 rfl (w2.heap.size + 1) 44 i0 _ 3 24 Try.underlying34 HInfo.out.1 HInfo.out.2.1 HInfo.out.2.2.1 HInfo.out.2.2.2 rfl (by decide) _ _ _ rfl HE4.out ⟨mg2, off, none⟩ 0 _ [] rfl rfl Hc9.out Ho9.out Hm6.out Hm7.out hs4 ?_)

              intro v2 w5 hown2 hgrow2 _
              have HE5 : Hid (BR w5 (w2.heap.size + 1) v2 (QQ ++ L.drop j)) := by rw [HDR.out, List.append_nil]; exact hown2
              have HB5 : Hid (Below (w2.heap.size + 1) (w2.alloc (.cells #[.int .i64 k, .int .i64 kind, .int .i64 id] 44)) w5) := HB4.out.grown hgrow2 hs4 (fun q hq => HE4.out.own q hq)
              have hblk2 : w5.heap[mb]? = _ := (HB5.out.block mb (by omega)).trans ((Below.heap_alloc _ _ _ hlb).trans HBlk.out)
              have c2 := cell_of_one hblk2
              have fr2 := free_of_one hblk2
              have hs5 : mg2 < w5.heap.size := by have := HB5.out.size; simp at this; omega
              have HF := Lib.hid (HE5.out.rb (mg := mg2) (by omega) hs5 _ hblk2)
              have HOn : Hid (Only (fun q => q = mb) w2 (w5.setCell ⟨mb, 0, none⟩ v2)) := Only.setCell (S := fun q => q = mb) (p := ⟨mb, 0, none⟩) (((Only.refl _ w2).alloc _).trans (Only.of_below (HB5.out.mono (by simp)))) (Or.inl rfl) _
              clear hown2 hgrow2 hblk2 c1 fr
              obtain ⟨a2, cap2, hv2⟩ := HE5.out.slice
              generalize (QQ ++ L.drop j).length = L2 at hv2
              rw [hv2] at HF HOn ⊢
              clear hv2 HE5
              go_wp2_with fail
              go_ret
              exact RbP.next HO2.out hg2 ⟨rfl, by
                obtain ⟨mg', hr, hg⟩ := HF.out
                exact ⟨mg', by rw [HLd.out, HIns.out]; exact hr, by omega⟩, HOn.out⟩
            · have hc1 : ∀ (q : Nat) (u : Value), (bcells (L.drop j))[q]? = some u → w4.cell? ((⟨mg2, off + j * 3, none⟩ : Addr).add q) = some u := fun q u hq => by
                rw [Addr.add_lit]
                exact (HC4.out.drop j).at q u hq
              have HC1 := Lib.hid hc1
              clear hc1
              have HOne := Lib.hid (one_bcells (L.drop j))
              go_wp2_with (at_builtin; refine wpList_append_own _ rfl _ _ 34 rfl (w2.heap.size + 1) 44 i0 _ 3 24 Try.underlying34 HInfo.out.1 HInfo.out.2.1 HInfo.out.2.2.1 HInfo.out.2.2.2 rfl (by decide) _ _ _ rfl HE4.out ⟨mg2, off + j * 3, none⟩ (n - j) _ (bcells (L.drop j)) rfl HD.out HC1.out HOne.out Hm4.out Hm5.out hs4 ?_)

              intro v2 w5 hown2 hgrow2 _
              have HE5 : Hid (BR w5 (w2.heap.size + 1) v2 (QQ ++ L.drop j)) := BR.more hown2 HDn.out.symm rfl
              have HB5 : Hid (Below (w2.heap.size + 1) (w2.alloc (.cells #[.int .i64 k, .int .i64 kind, .int .i64 id] 44)) w5) := HB4.out.grown hgrow2 hs4 (fun q hq => HE4.out.own q hq)
              have hblk2 : w5.heap[mb]? = _ := (HB5.out.block mb (by omega)).trans ((Below.heap_alloc _ _ _ hlb).trans HBlk.out)
              have c2 := cell_of_one hblk2
              have fr2 := free_of_one hblk2
              have hs5 : mg2 < w5.heap.size := by have := HB5.out.size; simp at this; omega
              have HF := Lib.hid (HE5.out.rb (mg := mg2) (by omega) hs5 _ hblk2)
              have HOn : Hid (Only (fun q => q = mb) w2 (w5.setCell ⟨mb, 0, none⟩ v2)) := Only.setCell (S := fun q => q = mb) (p := ⟨mb, 0, none⟩) (((Only.refl _ w2).alloc _).trans (Only.of_below (HB5.out.mono (by simp)))) (Or.inl rfl) _
              clear hown2 hgrow2 hblk2 c1 fr
              obtain ⟨a2, cap2, hv2⟩ := HE5.out.slice
              generalize (QQ ++ L.drop j).length = L2 at hv2
              rw [hv2] at HF HOn ⊢
              clear hv2 HE5
              go_wp2_with fail
              go_ret
              exact RbP.next HO2.out hg2 ⟨rfl, by
                obtain ⟨mg', hr, hg⟩ := HF.out
                exact ⟨mg', by rw [HLd.out, HIns.out]; exact hr, by omega⟩, HOn.out⟩
  · obtain ⟨e1, e2⟩ := arm_bad k l hk
    rw [e1, e2]
    have HT := Lib.hid (there_no kind id w hk)
    clear e1 e2 hk
    go_enter Try.func24, Try.ntmps24
    go_wp2_with fail
    refine HT.out.mono ?_
    rintro e w' ⟨rfl, rfl⟩
    go_wp2_with fail
    go_ret
    exact RbP.same H.out

end Go.Proofs.Ytdfolbnnhglpeaa
