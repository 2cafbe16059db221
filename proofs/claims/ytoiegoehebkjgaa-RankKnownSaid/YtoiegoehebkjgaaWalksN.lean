/- The document's rank: put. -/
import Derived.Test.YtoiegoehebkjgaaWalksM
namespace Go.Proofs.Ytoiegoehebkjgaa
open Go.RowKit Rk
set_option linter.unusedVariables false

/-- where x belongs -/
theorem ins_at (x : En) : ∀ (l : List En) (j : Nat), j ≤ l.length → (∀ i (h : i < l.length), i < j → lt (l[i]) x) → (∀ h : j < l.length, ¬ lt (l[j]) x) → ins x l = l.take j ++ [x] ++ l.drop j
  | [], j, hj, _, _ => by
    obtain rfl : j = 0 := by simpa using hj
    rfl
  | y :: l, 0, _, _, h2 => by
    have := h2 (by simp)
    simp only [List.getElem_cons_zero] at this
    unfold ins
    rw [if_neg this]
    rfl
  | y :: l, j + 1, hj, h1, h2 => by
    have h0 := h1 0 (by simp) (by omega)
    simp only [List.getElem_cons_zero] at h0
    unfold ins
    rw [if_pos h0, ins_at x l j (by simpa using hj) (fun i h hi => by have := h1 (i + 1) (by simpa using h) (by omega); simpa using this) (fun h => by have := h2 (by simpa using h); simpa using this)]
    simp
theorem lcells_drop (l : List En) (j : Nat) (hj : j ≤ l.length) : ∀ (q : Nat) (u : Value), (lcells (l.drop j))[q]? = some u → (lcells l)[j * 2 + q]? = some u := by
  intro q u h
  have e : lcells l = lcells (l.take j) ++ lcells (l.drop j) := by rw [← lcells_append, List.take_append_drop]
  rw [e, List.getElem?_append_right (by rw [len_lcells, List.length_take]; omega)]
  rw [len_lcells, List.length_take]
  have : j * 2 + q - min j l.length * 2 = q := by omega
  rw [this]; exact h
/-- the cells from the j-th entry on -/
theorem LS.tail {w : World} {B mg : Nat} {v : Value} {l : List En} (h : LS w B mg v l) (hl : 0 < l.length) (j : Nat) (hj : j ≤ l.length) : ∀ (q : Nat) (u : Value), (lcells (l.drop j))[q]? = some u → w.cell? ⟨mg, j * 2 + q, none⟩ = some u := by
  intro q u hq
  obtain ⟨cap, hv, _⟩ := h.form hl
  have ho := h.1
  rw [hv] at ho
  have := lcells_drop l j hj q u hq
  have hb := (List.getElem?_eq_some_iff.1 this).1
  rw [len_lcells] at hb
  rw [ho.cellAt _ hb]
  exact this

def Bf (l : List En) (x : En) (j : Nat) : Prop := ∀ i (h : i < l.length), i < j → lt (l[i]) x
theorem Bf.step {l : List En} {x : En} {j : Nat} (h : Bf l x j) (hj : j < l.length) (hl : lt (l[j]) x) : Bf l x (j + 1) := by
  intro i hi hij
  by_cases e : i = j
  · subst e; exact hl
  · exact h i hi (by omega)

set_option maxRecDepth 100000 in
set_option maxHeartbeats 8000000 in
theorem rput_some (w : World) (B mb mg : Nat) (l : List En) (id k : Int) (h : RF w B mb mg l) (hB : B ≤ w.heap.size) (hN : l.length ≤ 100000) (hl0 : 0 < l.length) :
    Calls Try.prog 40 #[.pointer (some ⟨mb, 0, none⟩), .agg #[.int .i64 id, .int .i64 k]] w (RfP (.tuple #[]) B mb mg (ins (id, k) l) w) := by
  obtain ⟨i0, hi, hz0, hz1, hz2⟩ := info_parts info63
  have HInfo := Lib.hid (⟨hi, hz0, hz1, hz2⟩ : _ ∧ _ ∧ _ ∧ _)
  clear hi hz0 hz1 hz2
  obtain ⟨v, h1, h2⟩ := h.S
  obtain ⟨cap, hv, hle, hmx, hlg⟩ := h2.form hl0
  have hlb := h.lb
  have HBlk := Lib.hid h1
  rw [hv] at HBlk
  have H2 := Lib.hid h2
  obtain ⟨n, hn⟩ : ∃ n, l.length = n := ⟨_, rfl⟩
  rw [hn] at hN hle hl0 HBlk
  have HN' := Lib.hid hn
  unfold maxLen at hmx
  clear h h1 h2 hv hn
  have c0 := cell_of_one HBlk.out
  go_enter Try.func40, Try.ntmps40
  go_wp2_with fail
  go_loopw [4, 5] (fun o i wr => ∃ (j : Nat) (P : List En), j ≤ n ∧ i = .int .i64 j ∧ Hid (P = l.take j) ∧ Hid (OE wr (w.heap.size + 1) o P) ∧ Hid (Below (w.heap.size + 1) (w.alloc (.cells #[.int .i64 id, .int .i64 k] 63)) wr) ∧ Hid (Bf l (id, k) j)) (fun _ i _ => n - (intOf i).toNat)
  case atStart => exact ⟨0, [], Nat.zero_le _, rfl, rfl, OE.nil _ _, Below.refl _ _, fun i _ h => by omega⟩
  case round =>
    clear c0
    obtain ⟨j, P, hj, rfl, HP, HE, HBl, HBf⟩ := hrel
    have c0 : wr.cell? ⟨mb, 0, none⟩ = _ := cell_of_one (((HBl.out.block mb (by omega)).trans (Below.heap_alloc _ _ _ hlb)).trans HBlk.out)
    have hbx : wr.heap[w.heap.size]? = _ := (HBl.out.block w.heap.size (by omega)).trans (heap_alloc_new w _)
    have k1 : wr.cell? ⟨w.heap.size, 0, none⟩ = some (.int .i64 id) := (cell_of_row _ _ _ _ _ _ hbx).trans rfl
    have k2 : wr.cell? ⟨w.heap.size, 1, none⟩ = some (.int .i64 k) := (cell_of_row _ _ _ _ _ _ hbx).trans rfl
    have hsz : w.heap.size + 1 ≤ wr.heap.size := by have := HBl.out.size; simpa using this
    have HM : Hid (∀ (p : Addr), p.block = mg → wr.cell? p = w.cell? p) := fun p hp => World.cell?_of_block (by rw [hp]; exact (HBl.out.block mg (by omega)).trans (Below.heap_alloc _ _ _ hlg))
    clear hbx
    have HPn : Hid (P.length = j) := by unfold Hid; rw [HP.out, List.length_take, HN'.out]; omega
    have Hm1 : Hid (P.length + 1 ≤ maxLen) := by unfold Hid maxLen; rw [HPn.out]; omega
    have Hm2 : Hid ((P.length + 1) * 16 ≤ 140737488355328) := by unfold Hid; rw [HPn.out]; omega
    have Hm3 : ∀ o, Hid (w.heap.size + 1 ≤ (wr.alloc o).heap.size) := fun o => by unfold Hid; simp; omega
    by_cases hjn : j < n
    · have hjl : j < l.length := by rw [HN'.out]; exact hjn
      obtain ⟨e1, e2⟩ := H2.out.cells j hjl
      have d1 := (HM.out ⟨mg, j * 2, none⟩ rfl).trans e1
      have d2 := (HM.out ⟨mg, j * 2 + 1, none⟩ rfl).trans e2
      have HS := Lib.hid (take_snoc hjl)
      clear e1 e2
      obtain ⟨y, hy⟩ : ∃ y, l[j] = y := ⟨_, rfl⟩
      rw [hy] at d1 d2 HS
      have HY := Lib.hid hy
      clear hy
      obtain ⟨y1, y2⟩ := y
      dsimp only at d1 d2
      by_cases hA : y2 < k ∨ (y2 = k ∧ y1 < id)
      · have HBf2 : Hid (Bf l (id, k) (j + 1)) := HBf.out.step hjl (by rw [HY.out]; exact hA)
        by_cases hA1 : y2 < k
        · have hd1 : decide (y2 < k) = true := by simpa using hA1
          clear hA
          clear HBf
          go_wp2_with fail
          go_quiet (fail)
          go_wp2_with (at_builtin; refine wpList_append_own _ rfl _ _ 54 rfl (w.heap.size + 1) 63 i0 _ 2 16 Try.underlying54 HInfo.out.1 HInfo.out.2.1 HInfo.out.2.2.1 HInfo.out.2.2.2 rfl (by decide) _ _ _ rfl (World.ownsRow.alloc (ownsRow_drew HE.out _) _) ⟨wr.heap.size, 0, none⟩ 1 1 [.int .i64 y1, .int .i64 y2] rfl rfl (cells2_new _ _ _ _) (one2 _ _) Hm1.out Hm2.out (Hm3 _).out ?_)
          intro v' w1 hown hgrow _
          have HE2 : Hid (OE w1 (w.heap.size + 1) v' (P ++ [(y1, y2)])) := OE.snoc hown
          have HB2 : Hid (Below (w.heap.size + 1) (w.alloc (.cells #[.int .i64 id, .int .i64 k] 63)) w1) := ((below_drewN HBl.out nq).alloc (by simp; omega) _).grown hgrow (by simp; omega) (fun q hq => HE.out.own q hq)
          have HP2 : Hid (P ++ [(y1, y2)] = l.take (j + 1)) := by rw [HS.out, HP.out]; rfl
          clear hown hgrow Hm1 Hm2 Hm3 HE HBl
          go_wp2_with fail
          go_roundw
          case rel => exact ⟨j + 1, _, by omega, by go_num, HP2, HE2, HB2, HBf2⟩
          case measure => simp [intOf]; omega
        · have hd1 : decide (y2 < k) = false := by simpa using hA1
          have hd2 : (y2 == k) = true := by simp; omega
          have hd3 : decide (y1 < id) = true := by simp; omega
          clear hA hA1
          clear HBf
          go_wp2_with fail
          go_quiet (fail)
          go_wp2_with (at_builtin; refine wpList_append_own _ rfl _ _ 54 rfl (w.heap.size + 1) 63 i0 _ 2 16 Try.underlying54 HInfo.out.1 HInfo.out.2.1 HInfo.out.2.2.1 HInfo.out.2.2.2 rfl (by decide) _ _ _ rfl (World.ownsRow.alloc (ownsRow_drew HE.out _) _) ⟨wr.heap.size, 0, none⟩ 1 1 [.int .i64 y1, .int .i64 y2] rfl rfl (cells2_new _ _ _ _) (one2 _ _) Hm1.out Hm2.out (Hm3 _).out ?_)
          intro v' w1 hown hgrow _
          have HE2 : Hid (OE w1 (w.heap.size + 1) v' (P ++ [(y1, y2)])) := OE.snoc hown
          have HB2 : Hid (Below (w.heap.size + 1) (w.alloc (.cells #[.int .i64 id, .int .i64 k] 63)) w1) := ((below_drewN HBl.out nq).alloc (by simp; omega) _).grown hgrow (by simp; omega) (fun q hq => HE.out.own q hq)
          have HP2 : Hid (P ++ [(y1, y2)] = l.take (j + 1)) := by rw [HS.out, HP.out]; rfl
          clear hown hgrow Hm1 Hm2 Hm3 HE HBl
          go_wp2_with fail
          go_roundw
          case rel => exact ⟨j + 1, _, by omega, by go_num, HP2, HE2, HB2, HBf2⟩
          case measure => simp [intOf]; omega
      · have HNo : Hid (∀ h : j < l.length, ¬ lt (l[j]) (id, k)) := fun h => by rw [HY.out]; exact hA
        have hd1 : decide (y2 < k) = false := by simp; omega
        by_cases hA1 : y2 = k
        · have hd2 : (y2 == k) = true := by simp [hA1]
          have hd3 : decide (y1 < id) = false := by simp; omega
          clear hA hA1
          have HIns : Hid (ins (id, k) l = P ++ [(id, k)] ++ l.drop j) := by
            unfold Hid
            rw [HP.out]
            exact ins_at (id, k) l j (by rw [HN'.out]; exact hj) HBf.out (HNo.out)
          clear HBf
          go_wp2_with fail
          go_quiet (fail)
          go_wp2_with (at_builtin; refine wpList_append_own _ rfl _ _ 54 rfl (w.heap.size + 1) 63 i0 _ 2 16 Try.underlying54 HInfo.out.1 HInfo.out.2.1 HInfo.out.2.2.1 HInfo.out.2.2.2 rfl (by decide) _ _ _ rfl (World.ownsRow.alloc (ownsRow_drew HE.out _) _) ⟨wr.heap.size, 0, none⟩ 1 1 [.int .i64 id, .int .i64 k] rfl rfl (cells2_new _ _ _ _) (one2 _ _) Hm1.out Hm2.out (Hm3 _).out ?_)
          intro v' w1 hown hgrow _
          have HE2 : Hid (OE w1 (w.heap.size + 1) v' (P ++ [(id, k)])) := OE.snoc hown
          have HB2 : Hid (Below (w.heap.size + 1) (w.alloc (.cells #[.int .i64 id, .int .i64 k] 63)) w1) := ((below_drewN HBl.out nq).alloc (by simp; omega) _).grown hgrow (by simp; omega) (fun q hq => HE.out.own q hq)
          have hblk : w1.heap[mb]? = _ := ((HB2.out.block mb (by omega)).trans (Below.heap_alloc _ _ _ hlb)).trans HBlk.out
          have c1 := cell_of_one hblk
          have fr := free_of_one hblk
          have hs1 : w.heap.size + 1 ≤ w1.heap.size := by have := HB2.out.size; simpa using this
          have HM1 : Hid (∀ (p : Addr), p.block = mg → w1.cell? p = w.cell? p) := fun p hp => World.cell?_of_block (by rw [hp]; exact (HB2.out.block mg (by omega)).trans (Below.heap_alloc _ _ _ hlg))
          have HBlk1 := Lib.hid hblk
          have HL1 : Hid ((P ++ [(id, k)]).length = j + 1) := by unfold Hid; rw [List.length_append, HPn.out]; rfl
          have HD : Hid ((lcells (l.drop j)).length = (n - j) * 2) := by unfold Hid; rw [len_lcells, List.length_drop, HN'.out]
          have HDn : Hid ((l.drop j).length = n - j) := by unfold Hid; rw [List.length_drop, HN'.out]
          have Hm4 : Hid ((P ++ [(id, k)]).length + (n - j) ≤ maxLen) := by unfold Hid maxLen; rw [HL1.out]; omega
          have Hm5 : Hid (((P ++ [(id, k)]).length + (n - j)) * 16 ≤ 140737488355328) := by unfold Hid; rw [HL1.out]; omega
          generalize hQ : P ++ [(id, k)] = Q at *
          have HQ := Lib.hid hQ
          clear hQ hown hgrow Hm1 Hm2 Hm3 HE HBl hblk d1 d2 c0 k1 k2
          by_cases hcj : cap = j
          · omega
          · have hc1 : ∀ (q : Nat) (u : Value), (lcells (l.drop j))[q]? = some u → w1.cell? ((⟨mg, j * 2, none⟩ : Addr).add q) = some u := fun q u hq => by
              rw [Addr.add_lit, HM1.out ⟨mg, j * 2 + q, none⟩ rfl]
              exact H2.out.tail (by rw [HN'.out]; exact hl0) j (by rw [HN'.out]; exact hj) q u hq
            have HC1 := Lib.hid hc1
            clear hc1
            have HOne := Lib.hid (one_lcells (l.drop j))
            go_wp2_with (at_builtin; refine wpList_append_own _ rfl _ _ 54 rfl (w.heap.size + 1) 63 i0 _ 2 16 Try.underlying54 HInfo.out.1 HInfo.out.2.1 HInfo.out.2.2.1 HInfo.out.2.2.2 rfl (by decide) _ _ _ rfl HE2.out ⟨mg, j * 2, none⟩ (n - j) _ (lcells (l.drop j)) rfl HD.out HC1.out HOne.out Hm4.out Hm5.out hs1 ?_)
            intro v2 w2 hown2 hgrow2 _
            have HE3 : Hid (OE w2 (w.heap.size + 1) v2 (Q ++ l.drop j)) := OE.more (by rw [HDn.out]; exact hown2)
            have HB3 : Hid (Below (w.heap.size + 1) (w.alloc (.cells #[.int .i64 id, .int .i64 k] 63)) w2) := HB2.out.grown hgrow2 hs1 (fun q hq => HE2.out.own q hq)
            have hblk2 : w2.heap[mb]? = _ := (HB3.out.block mb (by omega)).trans ((Below.heap_alloc _ _ _ hlb).trans HBlk.out)
            have c2 := cell_of_one hblk2
            have fr2 := free_of_one hblk2
            have hs2 : mg < w2.heap.size := by have := HB3.out.size; simp at this; omega
            have HF := Lib.hid (HE3.out.ls (by omega) (by omega : B ≤ w.heap.size + 1) hs2 _ hblk2)
            have HOn : Hid (Only (fun q => q = mb) w (w2.setCell ⟨mb, 0, none⟩ v2)) := Only.setCell (S := fun q => q = mb) (p := ⟨mb, 0, none⟩) (((Only.refl _ w).alloc _).trans (HB3.out.mono (by simp) |> Only.of_below)) (Or.inl rfl) _
            clear hown2 hgrow2 hblk2 c1 fr
            obtain ⟨a2, cap2, hv2⟩ := HE3.out.slice
            generalize (Q ++ l.drop j).length = L2 at hv2
            rw [hv2] at HF HOn ⊢
            clear hv2 HE3
            go_wp2_with fail
            go_end0
            exact ⟨rfl, by
              obtain ⟨mg', hr, hg⟩ := HF.out
              exact ⟨mg', by rw [HIns.out]; exact hr, by omega⟩, HOn.out⟩
        · have hd2 : (y2 == k) = false := by simp [hA1]
          clear hA hA1
          have HIns : Hid (ins (id, k) l = P ++ [(id, k)] ++ l.drop j) := by
            unfold Hid
            rw [HP.out]
            exact ins_at (id, k) l j (by rw [HN'.out]; exact hj) HBf.out (HNo.out)
          clear HBf
          go_wp2_with fail
          go_quiet (fail)
          go_wp2_with (at_builtin; refine wpList_append_own _ rfl _ _ 54 rfl (w.heap.size + 1) 63 i0 _ 2 16 Try.underlying54 HInfo.out.1 HInfo.out.2.1 HInfo.out.2.2.1 HInfo.out.2.2.2 rfl (by decide) _ _ _ rfl (World.ownsRow.alloc (ownsRow_drew HE.out _) _) ⟨wr.heap.size, 0, none⟩ 1 1 [.int .i64 id, .int .i64 k] rfl rfl (cells2_new _ _ _ _) (one2 _ _) Hm1.out Hm2.out (Hm3 _).out ?_)
          intro v' w1 hown hgrow _
          have HE2 : Hid (OE w1 (w.heap.size + 1) v' (P ++ [(id, k)])) := OE.snoc hown
          have HB2 : Hid (Below (w.heap.size + 1) (w.alloc (.cells #[.int .i64 id, .int .i64 k] 63)) w1) := ((below_drewN HBl.out nq).alloc (by simp; omega) _).grown hgrow (by simp; omega) (fun q hq => HE.out.own q hq)
          have hblk : w1.heap[mb]? = _ := ((HB2.out.block mb (by omega)).trans (Below.heap_alloc _ _ _ hlb)).trans HBlk.out
          have c1 := cell_of_one hblk
          have fr := free_of_one hblk
          have hs1 : w.heap.size + 1 ≤ w1.heap.size := by have := HB2.out.size; simpa using this
          have HM1 : Hid (∀ (p : Addr), p.block = mg → w1.cell? p = w.cell? p) := fun p hp => World.cell?_of_block (by rw [hp]; exact (HB2.out.block mg (by omega)).trans (Below.heap_alloc _ _ _ hlg))
          have HBlk1 := Lib.hid hblk
          have HL1 : Hid ((P ++ [(id, k)]).length = j + 1) := by unfold Hid; rw [List.length_append, HPn.out]; rfl
          have HD : Hid ((lcells (l.drop j)).length = (n - j) * 2) := by unfold Hid; rw [len_lcells, List.length_drop, HN'.out]
          have HDn : Hid ((l.drop j).length = n - j) := by unfold Hid; rw [List.length_drop, HN'.out]
          have Hm4 : Hid ((P ++ [(id, k)]).length + (n - j) ≤ maxLen) := by unfold Hid maxLen; rw [HL1.out]; omega
          have Hm5 : Hid (((P ++ [(id, k)]).length + (n - j)) * 16 ≤ 140737488355328) := by unfold Hid; rw [HL1.out]; omega
          generalize hQ : P ++ [(id, k)] = Q at *
          have HQ := Lib.hid hQ
          clear hQ hown hgrow Hm1 Hm2 Hm3 HE HBl hblk d1 d2 c0 k1 k2
          by_cases hcj : cap = j
          · omega
          · have hc1 : ∀ (q : Nat) (u : Value), (lcells (l.drop j))[q]? = some u → w1.cell? ((⟨mg, j * 2, none⟩ : Addr).add q) = some u := fun q u hq => by
              rw [Addr.add_lit, HM1.out ⟨mg, j * 2 + q, none⟩ rfl]
              exact H2.out.tail (by rw [HN'.out]; exact hl0) j (by rw [HN'.out]; exact hj) q u hq
            have HC1 := Lib.hid hc1
            clear hc1
            have HOne := Lib.hid (one_lcells (l.drop j))
            go_wp2_with (at_builtin; refine wpList_append_own _ rfl _ _ 54 rfl (w.heap.size + 1) 63 i0 _ 2 16 Try.underlying54 HInfo.out.1 HInfo.out.2.1 HInfo.out.2.2.1 HInfo.out.2.2.2 rfl (by decide) _ _ _ rfl HE2.out ⟨mg, j * 2, none⟩ (n - j) _ (lcells (l.drop j)) rfl HD.out HC1.out HOne.out Hm4.out Hm5.out hs1 ?_)
            intro v2 w2 hown2 hgrow2 _
            have HE3 : Hid (OE w2 (w.heap.size + 1) v2 (Q ++ l.drop j)) := OE.more (by rw [HDn.out]; exact hown2)
            have HB3 : Hid (Below (w.heap.size + 1) (w.alloc (.cells #[.int .i64 id, .int .i64 k] 63)) w2) := HB2.out.grown hgrow2 hs1 (fun q hq => HE2.out.own q hq)
            have hblk2 : w2.heap[mb]? = _ := (HB3.out.block mb (by omega)).trans ((Below.heap_alloc _ _ _ hlb).trans HBlk.out)
            have c2 := cell_of_one hblk2
            have fr2 := free_of_one hblk2
            have hs2 : mg < w2.heap.size := by have := HB3.out.size; simp at this; omega
            have HF := Lib.hid (HE3.out.ls (by omega) (by omega : B ≤ w.heap.size + 1) hs2 _ hblk2)
            have HOn : Hid (Only (fun q => q = mb) w (w2.setCell ⟨mb, 0, none⟩ v2)) := Only.setCell (S := fun q => q = mb) (p := ⟨mb, 0, none⟩) (((Only.refl _ w).alloc _).trans (HB3.out.mono (by simp) |> Only.of_below)) (Or.inl rfl) _
            clear hown2 hgrow2 hblk2 c1 fr
            obtain ⟨a2, cap2, hv2⟩ := HE3.out.slice
            generalize (Q ++ l.drop j).length = L2 at hv2
            rw [hv2] at HF HOn ⊢
            clear hv2 HE3
            go_wp2_with fail
            go_end0
            exact ⟨rfl, by
              obtain ⟨mg', hr, hg⟩ := HF.out
              exact ⟨mg', by rw [HIns.out]; exact hr, by omega⟩, HOn.out⟩
    · have HNo : Hid (∀ h : j < l.length, ¬ lt (l[j]) (id, k)) := fun h => by have := HN'.out; omega
      have HIns : Hid (ins (id, k) l = P ++ [(id, k)] ++ l.drop j) := by
        unfold Hid
        rw [HP.out]
        exact ins_at (id, k) l j (by rw [HN'.out]; exact hj) HBf.out (HNo.out)
      clear HBf
      go_wp2_with fail
      go_quiet (fail)
      go_wp2_with (at_builtin; refine wpList_append_own _ rfl _ _ 54 rfl (w.heap.size + 1) 63 i0 _ 2 16 Try.underlying54 HInfo.out.1 HInfo.out.2.1 HInfo.out.2.2.1 HInfo.out.2.2.2 rfl (by decide) _ _ _ rfl (World.ownsRow.alloc (ownsRow_drew HE.out _) _) ⟨wr.heap.size, 0, none⟩ 1 1 [.int .i64 id, .int .i64 k] rfl rfl (cells2_new _ _ _ _) (one2 _ _) Hm1.out Hm2.out (Hm3 _).out ?_)
      intro v' w1 hown hgrow _
      have HE2 : Hid (OE w1 (w.heap.size + 1) v' (P ++ [(id, k)])) := OE.snoc hown
      have HB2 : Hid (Below (w.heap.size + 1) (w.alloc (.cells #[.int .i64 id, .int .i64 k] 63)) w1) := ((below_drewN HBl.out nq).alloc (by simp; omega) _).grown hgrow (by simp; omega) (fun q hq => HE.out.own q hq)
      have hblk : w1.heap[mb]? = _ := ((HB2.out.block mb (by omega)).trans (Below.heap_alloc _ _ _ hlb)).trans HBlk.out
      have c1 := cell_of_one hblk
      have fr := free_of_one hblk
      have hs1 : w.heap.size + 1 ≤ w1.heap.size := by have := HB2.out.size; simpa using this
      have HM1 : Hid (∀ (p : Addr), p.block = mg → w1.cell? p = w.cell? p) := fun p hp => World.cell?_of_block (by rw [hp]; exact (HB2.out.block mg (by omega)).trans (Below.heap_alloc _ _ _ hlg))
      have HBlk1 := Lib.hid hblk
      have HL1 : Hid ((P ++ [(id, k)]).length = j + 1) := by unfold Hid; rw [List.length_append, HPn.out]; rfl
      have HD : Hid ((lcells (l.drop j)).length = (n - j) * 2) := by unfold Hid; rw [len_lcells, List.length_drop, HN'.out]
      have HDn : Hid ((l.drop j).length = n - j) := by unfold Hid; rw [List.length_drop, HN'.out]
      have Hm4 : Hid ((P ++ [(id, k)]).length + (n - j) ≤ maxLen) := by unfold Hid maxLen; rw [HL1.out]; omega
      have Hm5 : Hid (((P ++ [(id, k)]).length + (n - j)) * 16 ≤ 140737488355328) := by unfold Hid; rw [HL1.out]; omega
      generalize hQ : P ++ [(id, k)] = Q at *
      have HQ := Lib.hid hQ
      clear hQ hown hgrow Hm1 Hm2 Hm3 HE HBl hblk c0 k1 k2
      by_cases hcj : cap = j
      · have hnj : n = j := by omega
        have hdr : l.drop j = [] := List.drop_of_length_le (by rw [HN'.out]; omega)
        have HDR := Lib.hid hdr
        have Hm6 : Hid (Q.length + 0 ≤ maxLen) := by unfold Hid maxLen; rw [HL1.out]; omega
        have Hm7 : Hid ((Q.length + 0) * 16 ≤ 140737488355328) := by unfold Hid; rw [HL1.out]; omega
        have Hc9 : Hid (∀ (q : Nat) (u : Value), ([] : List Value)[q]? = some u → w1.cell? ((⟨mg, 0, none⟩ : Addr).add q) = some u) := fun q u hq => by simp at hq
        have Ho9 : Hid (∀ u ∈ ([] : List Value), u.oneCell' = true) := fun u hu => by cases hu
        clear hdr
        go_wp2_with (at_builtin; refine wpList_append_own _ rfl _ _ 54 rfl (w.heap.size + 1) 63 i0 _ 2 16 Try.underlying54 HInfo.out.1 HInfo.out.2.1 HInfo.out.2.2.1 HInfo.out.2.2.2 rfl (by decide) _ _ _ rfl HE2.out ⟨mg, 0, none⟩ 0 _ [] rfl rfl Hc9.out Ho9.out Hm6.out Hm7.out hs1 ?_)
        intro v2 w2 hown2 hgrow2 _
        have HE3 : Hid (OE w2 (w.heap.size + 1) v2 (Q ++ l.drop j)) := by rw [HDR.out, List.append_nil]; exact hown2
        have HB3 : Hid (Below (w.heap.size + 1) (w.alloc (.cells #[.int .i64 id, .int .i64 k] 63)) w2) := HB2.out.grown hgrow2 hs1 (fun q hq => HE2.out.own q hq)
        have hblk2 : w2.heap[mb]? = _ := (HB3.out.block mb (by omega)).trans ((Below.heap_alloc _ _ _ hlb).trans HBlk.out)
        have c2 := cell_of_one hblk2
        have fr2 := free_of_one hblk2
        have hs2 : mg < w2.heap.size := by have := HB3.out.size; simp at this; omega
        have HF := Lib.hid (HE3.out.ls (by omega) (by omega : B ≤ w.heap.size + 1) hs2 _ hblk2)
        have HOn : Hid (Only (fun q => q = mb) w (w2.setCell ⟨mb, 0, none⟩ v2)) := Only.setCell (S := fun q => q = mb) (p := ⟨mb, 0, none⟩) (((Only.refl _ w).alloc _).trans (HB3.out.mono (by simp) |> Only.of_below)) (Or.inl rfl) _
        clear hown2 hgrow2 hblk2 c1 fr
        obtain ⟨a2, cap2, hv2⟩ := HE3.out.slice
        generalize (Q ++ l.drop j).length = L2 at hv2
        rw [hv2] at HF HOn ⊢
        clear hv2 HE3
        go_wp2_with fail
        go_end0
        exact ⟨rfl, by
          obtain ⟨mg', hr, hg⟩ := HF.out
          exact ⟨mg', by rw [HIns.out]; exact hr, by omega⟩, HOn.out⟩
      · have hc1 : ∀ (q : Nat) (u : Value), (lcells (l.drop j))[q]? = some u → w1.cell? ((⟨mg, j * 2, none⟩ : Addr).add q) = some u := fun q u hq => by
          rw [Addr.add_lit, HM1.out ⟨mg, j * 2 + q, none⟩ rfl]
          exact H2.out.tail (by rw [HN'.out]; exact hl0) j (by rw [HN'.out]; exact hj) q u hq
        have HC1 := Lib.hid hc1
        clear hc1
        have HOne := Lib.hid (one_lcells (l.drop j))
        go_wp2_with (at_builtin; refine wpList_append_own _ rfl _ _ 54 rfl (w.heap.size + 1) 63 i0 _ 2 16 Try.underlying54 HInfo.out.1 HInfo.out.2.1 HInfo.out.2.2.1 HInfo.out.2.2.2 rfl (by decide) _ _ _ rfl HE2.out ⟨mg, j * 2, none⟩ (n - j) _ (lcells (l.drop j)) rfl HD.out HC1.out HOne.out Hm4.out Hm5.out hs1 ?_)
        intro v2 w2 hown2 hgrow2 _
        have HE3 : Hid (OE w2 (w.heap.size + 1) v2 (Q ++ l.drop j)) := OE.more (by rw [HDn.out]; exact hown2)
        have HB3 : Hid (Below (w.heap.size + 1) (w.alloc (.cells #[.int .i64 id, .int .i64 k] 63)) w2) := HB2.out.grown hgrow2 hs1 (fun q hq => HE2.out.own q hq)
        have hblk2 : w2.heap[mb]? = _ := (HB3.out.block mb (by omega)).trans ((Below.heap_alloc _ _ _ hlb).trans HBlk.out)
        have c2 := cell_of_one hblk2
        have fr2 := free_of_one hblk2
        have hs2 : mg < w2.heap.size := by have := HB3.out.size; simp at this; omega
        have HF := Lib.hid (HE3.out.ls (by omega) (by omega : B ≤ w.heap.size + 1) hs2 _ hblk2)
        have HOn : Hid (Only (fun q => q = mb) w (w2.setCell ⟨mb, 0, none⟩ v2)) := Only.setCell (S := fun q => q = mb) (p := ⟨mb, 0, none⟩) (((Only.refl _ w).alloc _).trans (HB3.out.mono (by simp) |> Only.of_below)) (Or.inl rfl) _
        clear hown2 hgrow2 hblk2 c1 fr
        obtain ⟨a2, cap2, hv2⟩ := HE3.out.slice
        generalize (Q ++ l.drop j).length = L2 at hv2
        rw [hv2] at HF HOn ⊢
        clear hv2 HE3
        go_wp2_with fail
        go_end0
        exact ⟨rfl, by
          obtain ⟨mg', hr, hg⟩ := HF.out
          exact ⟨mg', by rw [HIns.out]; exact hr, by omega⟩, HOn.out⟩

set_option maxRecDepth 100000 in
set_option maxHeartbeats 8000000 in
theorem rput_nil_none (w : World) (B mb mg : Nat) (id k : Int) (hB : B ≤ w.heap.size) (hlg : mg < w.heap.size) (h1 : w.heap[mb]? = some (.cells #[.slice none 0 0] 56 (0, 0))) :
    Calls Try.prog 40 #[.pointer (some ⟨mb, 0, none⟩), .agg #[.int .i64 id, .int .i64 k]] w (RfP (.tuple #[]) B mb mg [(id, k)] w) := by
  obtain ⟨i0, hi, hz0, hz1, hz2⟩ := info_parts info63
  have HInfo := Lib.hid (⟨hi, hz0, hz1, hz2⟩ : _ ∧ _ ∧ _ ∧ _)
  clear hi hz0 hz1 hz2
  have HBlk := Lib.hid h1
  have hlb := lt_of_heap h1
  have c0 := cell_of_one HBlk.out
  clear h1
  go_enter Try.func40, Try.ntmps40
  go_wp2_with fail
  go_loopw [4, 5] (fun o i wr => i = .int .i64 0 ∧ o = .slice none 0 0 ∧ Hid (wr = w.alloc (.cells #[.int .i64 id, .int .i64 k] 63))) (fun _ i _ => 0)
  case atStart => exact ⟨rfl, rfl, rfl⟩
  case round =>
    clear c0
    obtain ⟨rfl, rfl, HWr⟩ := hrel
    have HBl : Hid (Below (w.heap.size + 1) (w.alloc (.cells #[.int .i64 id, .int .i64 k] 63)) wr) := by unfold Hid; rw [HWr.out]; exact Below.refl _ _
    have HE : Hid (OE wr (w.heap.size + 1) (.slice none 0 0) []) := OE.nil _ _
    clear HWr
    have c0 : wr.cell? ⟨mb, 0, none⟩ = _ := cell_of_one (((HBl.out.block mb (by omega)).trans (Below.heap_alloc _ _ _ hlb)).trans HBlk.out)
    have hbx : wr.heap[w.heap.size]? = _ := (HBl.out.block w.heap.size (by omega)).trans (heap_alloc_new w _)
    have k1 : wr.cell? ⟨w.heap.size, 0, none⟩ = some (.int .i64 id) := (cell_of_row _ _ _ _ _ _ hbx).trans rfl
    have k2 : wr.cell? ⟨w.heap.size, 1, none⟩ = some (.int .i64 k) := (cell_of_row _ _ _ _ _ _ hbx).trans rfl
    have hsz : w.heap.size + 1 ≤ wr.heap.size := by have := HBl.out.size; simpa using this
    clear hbx
    have Hm1 : Hid (0 + 1 ≤ maxLen) := by unfold Hid maxLen; omega
    have Hm2 : Hid ((0 + 1) * 16 ≤ 140737488355328) := by unfold Hid; omega
    have Hm3 : ∀ o, Hid (w.heap.size + 1 ≤ (wr.alloc o).heap.size) := fun o => by unfold Hid; simp; omega
    go_wp2_with fail
    go_quiet (fail)
    go_wp2_with (at_builtin; refine wpList_append_own _ rfl _ _ 54 rfl (w.heap.size + 1) 63 i0 _ 2 16 Try.underlying54 HInfo.out.1 HInfo.out.2.1 HInfo.out.2.2.1 HInfo.out.2.2.2 rfl (by decide) _ 0 [] rfl (World.ownsRow.alloc (ownsRow_drew HE.out _) _) ⟨wr.heap.size, 0, none⟩ 1 1 [.int .i64 id, .int .i64 k] rfl rfl (cells2_new _ _ _ _) (one2 _ _) Hm1.out Hm2.out (Hm3 _).out ?_)
    intro v' w1 hown hgrow _
    have HE2 : Hid (OE w1 (w.heap.size + 1) v' [(id, k)]) := OE.snoc (l := []) (x := (id, k)) hown
    have HB2 : Hid (Below (w.heap.size + 1) (w.alloc (.cells #[.int .i64 id, .int .i64 k] 63)) w1) := ((below_drewN HBl.out nq).alloc (by simp; omega) _).grown hgrow (by simp; omega) (fun q hq => HE.out.own q hq)
    have hblk : w1.heap[mb]? = _ := ((HB2.out.block mb (by omega)).trans (Below.heap_alloc _ _ _ hlb)).trans HBlk.out
    have c1 := cell_of_one hblk
    have fr := free_of_one hblk
    have hs1 : w.heap.size + 1 ≤ w1.heap.size := by have := HB2.out.size; simpa using this
    have HBlk1 := Lib.hid hblk
    have Hm6 : Hid (1 + 0 ≤ maxLen) := by unfold Hid maxLen; omega
    have Hm7 : Hid ((1 + 0) * 16 ≤ 140737488355328) := by unfold Hid; omega
    have Hc9 : Hid (∀ (q : Nat) (u : Value), ([] : List Value)[q]? = some u → w1.cell? ((⟨mg, 0, none⟩ : Addr).add q) = some u) := fun q u hq => by simp at hq
    have Ho9 : Hid (∀ u ∈ ([] : List Value), u.oneCell' = true) := fun u hu => by cases hu
    clear hown hgrow Hm1 Hm2 Hm3 HE HBl hblk c0 k1 k2
    obtain ⟨a2, cap2, hv2⟩ := HE2.out.slice
    have hv3 : v' = .slice a2 1 cap2 := hv2
    clear hv2
    subst hv3
    have hs2 : mg < w1.heap.size := by omega
    have HF := Lib.hid (HE2.out.ls (by omega) (by omega : B ≤ w.heap.size + 1) hs2 _ HBlk1.out)
    have HOn : Hid (Only (fun q => q = mb) w (w1.setCell ⟨mb, 0, none⟩ (.slice a2 1 cap2))) := Only.setCell (S := fun q => q = mb) (p := ⟨mb, 0, none⟩) (((Only.refl _ w).alloc _).trans (HB2.out.mono (by simp) |> Only.of_below)) (Or.inl rfl) _
    go_wp2_with (at_builtin; refine wpList_append_own_none rfl _ _ 54 rfl (w.heap.size + 1) 63 i0 2 Try.underlying54 HInfo.out.1 _ _ _ rfl HE2.out rfl ?_)
    go_end0
    exact ⟨rfl, by
      obtain ⟨mg', hr, hg⟩ := HF.out
      exact ⟨mg', hr, by omega⟩, HOn.out⟩

set_option maxRecDepth 100000 in
set_option maxHeartbeats 8000000 in
theorem rput_nil_some (w : World) (B mb mg cap : Nat) (id k : Int) (hB : B ≤ w.heap.size) (hlg : mg < w.heap.size) (hmx : cap ≤ 9223372036854775807) (h1 : w.heap[mb]? = some (.cells #[.slice (some ⟨mg, 0, none⟩) 0 cap] 56 (0, 0))) :
    Calls Try.prog 40 #[.pointer (some ⟨mb, 0, none⟩), .agg #[.int .i64 id, .int .i64 k]] w (RfP (.tuple #[]) B mb mg [(id, k)] w) := by
  obtain ⟨i0, hi, hz0, hz1, hz2⟩ := info_parts info63
  have HInfo := Lib.hid (⟨hi, hz0, hz1, hz2⟩ : _ ∧ _ ∧ _ ∧ _)
  clear hi hz0 hz1 hz2
  have HBlk := Lib.hid h1
  have hlb := lt_of_heap h1
  have c0 := cell_of_one HBlk.out
  clear h1
  go_enter Try.func40, Try.ntmps40
  go_wp2_with fail
  go_loopw [4, 5] (fun o i wr => i = .int .i64 0 ∧ o = .slice none 0 0 ∧ Hid (wr = w.alloc (.cells #[.int .i64 id, .int .i64 k] 63))) (fun _ i _ => 0)
  case atStart => exact ⟨rfl, rfl, rfl⟩
  case round =>
    clear c0
    obtain ⟨rfl, rfl, HWr⟩ := hrel
    have HBl : Hid (Below (w.heap.size + 1) (w.alloc (.cells #[.int .i64 id, .int .i64 k] 63)) wr) := by unfold Hid; rw [HWr.out]; exact Below.refl _ _
    have HE : Hid (OE wr (w.heap.size + 1) (.slice none 0 0) []) := OE.nil _ _
    clear HWr
    have c0 : wr.cell? ⟨mb, 0, none⟩ = _ := cell_of_one (((HBl.out.block mb (by omega)).trans (Below.heap_alloc _ _ _ hlb)).trans HBlk.out)
    have hbx : wr.heap[w.heap.size]? = _ := (HBl.out.block w.heap.size (by omega)).trans (heap_alloc_new w _)
    have k1 : wr.cell? ⟨w.heap.size, 0, none⟩ = some (.int .i64 id) := (cell_of_row _ _ _ _ _ _ hbx).trans rfl
    have k2 : wr.cell? ⟨w.heap.size, 1, none⟩ = some (.int .i64 k) := (cell_of_row _ _ _ _ _ _ hbx).trans rfl
    have hsz : w.heap.size + 1 ≤ wr.heap.size := by have := HBl.out.size; simpa using this
    clear hbx
    have Hm1 : Hid (0 + 1 ≤ maxLen) := by unfold Hid maxLen; omega
    have Hm2 : Hid ((0 + 1) * 16 ≤ 140737488355328) := by unfold Hid; omega
    have Hm3 : ∀ o, Hid (w.heap.size + 1 ≤ (wr.alloc o).heap.size) := fun o => by unfold Hid; simp; omega
    go_wp2_with fail
    go_quiet (fail)
    go_wp2_with (at_builtin; refine wpList_append_own _ rfl _ _ 54 rfl (w.heap.size + 1) 63 i0 _ 2 16 Try.underlying54 HInfo.out.1 HInfo.out.2.1 HInfo.out.2.2.1 HInfo.out.2.2.2 rfl (by decide) _ 0 [] rfl (World.ownsRow.alloc (ownsRow_drew HE.out _) _) ⟨wr.heap.size, 0, none⟩ 1 1 [.int .i64 id, .int .i64 k] rfl rfl (cells2_new _ _ _ _) (one2 _ _) Hm1.out Hm2.out (Hm3 _).out ?_)
    intro v' w1 hown hgrow _
    have HE2 : Hid (OE w1 (w.heap.size + 1) v' [(id, k)]) := OE.snoc (l := []) (x := (id, k)) hown
    have HB2 : Hid (Below (w.heap.size + 1) (w.alloc (.cells #[.int .i64 id, .int .i64 k] 63)) w1) := ((below_drewN HBl.out nq).alloc (by simp; omega) _).grown hgrow (by simp; omega) (fun q hq => HE.out.own q hq)
    have hblk : w1.heap[mb]? = _ := ((HB2.out.block mb (by omega)).trans (Below.heap_alloc _ _ _ hlb)).trans HBlk.out
    have c1 := cell_of_one hblk
    have fr := free_of_one hblk
    have hs1 : w.heap.size + 1 ≤ w1.heap.size := by have := HB2.out.size; simpa using this
    have HBlk1 := Lib.hid hblk
    have Hm6 : Hid (1 + 0 ≤ maxLen) := by unfold Hid maxLen; omega
    have Hm7 : Hid ((1 + 0) * 16 ≤ 140737488355328) := by unfold Hid; omega
    have Hc9 : Hid (∀ (q : Nat) (u : Value), ([] : List Value)[q]? = some u → w1.cell? ((⟨mg, 0, none⟩ : Addr).add q) = some u) := fun q u hq => by simp at hq
    have Ho9 : Hid (∀ u ∈ ([] : List Value), u.oneCell' = true) := fun u hu => by cases hu
    clear hown hgrow Hm1 Hm2 Hm3 HE HBl hblk c0 k1 k2
    by_cases hcz : cap = 0
    · go_wp2_with (at_builtin; refine wpList_append_own _ rfl _ _ 54 rfl (w.heap.size + 1) 63 i0 _ 2 16 Try.underlying54 HInfo.out.1 HInfo.out.2.1 HInfo.out.2.2.1 HInfo.out.2.2.2 rfl (by decide) _ _ _ rfl HE2.out ⟨mg, 0, none⟩ 0 _ [] rfl rfl Hc9.out Ho9.out Hm6.out Hm7.out hs1 ?_)
      intro v2 w2 hown2 hgrow2 _
      have HE3 : Hid (OE w2 (w.heap.size + 1) v2 [(id, k)]) := hown2
      have HB3 : Hid (Below (w.heap.size + 1) (w.alloc (.cells #[.int .i64 id, .int .i64 k] 63)) w2) := HB2.out.grown hgrow2 hs1 (fun q hq => HE2.out.own q hq)
      have hblk2 : w2.heap[mb]? = _ := (HB3.out.block mb (by omega)).trans ((Below.heap_alloc _ _ _ hlb).trans HBlk.out)
      have c2 := cell_of_one hblk2
      have fr2 := free_of_one hblk2
      have hs2 : mg < w2.heap.size := by have := HB3.out.size; simp at this; omega
      have HF := Lib.hid (HE3.out.ls (by omega) (by omega : B ≤ w.heap.size + 1) hs2 _ hblk2)
      have HOn : Hid (Only (fun q => q = mb) w (w2.setCell ⟨mb, 0, none⟩ v2)) := Only.setCell (S := fun q => q = mb) (p := ⟨mb, 0, none⟩) (((Only.refl _ w).alloc _).trans (HB3.out.mono (by simp) |> Only.of_below)) (Or.inl rfl) _
      clear hown2 hgrow2 hblk2 c1 fr
      obtain ⟨a2, cap2, hv2⟩ := HE3.out.slice
      rw [hv2] at HF HOn ⊢
      clear hv2 HE3
      go_wp2_with fail
      go_end0
      exact ⟨rfl, by
        obtain ⟨mg', hr, hg⟩ := HF.out
        exact ⟨mg', hr, by omega⟩, HOn.out⟩
    · go_wp2_with (at_builtin; refine wpList_append_own _ rfl _ _ 54 rfl (w.heap.size + 1) 63 i0 _ 2 16 Try.underlying54 HInfo.out.1 HInfo.out.2.1 HInfo.out.2.2.1 HInfo.out.2.2.2 rfl (by decide) _ _ _ rfl HE2.out ⟨mg, 0, none⟩ 0 _ [] rfl rfl Hc9.out Ho9.out Hm6.out Hm7.out hs1 ?_)
      intro v2 w2 hown2 hgrow2 _
      have HE3 : Hid (OE w2 (w.heap.size + 1) v2 [(id, k)]) := hown2
      have HB3 : Hid (Below (w.heap.size + 1) (w.alloc (.cells #[.int .i64 id, .int .i64 k] 63)) w2) := HB2.out.grown hgrow2 hs1 (fun q hq => HE2.out.own q hq)
      have hblk2 : w2.heap[mb]? = _ := (HB3.out.block mb (by omega)).trans ((Below.heap_alloc _ _ _ hlb).trans HBlk.out)
      have c2 := cell_of_one hblk2
      have fr2 := free_of_one hblk2
      have hs2 : mg < w2.heap.size := by have := HB3.out.size; simp at this; omega
      have HF := Lib.hid (HE3.out.ls (by omega) (by omega : B ≤ w.heap.size + 1) hs2 _ hblk2)
      have HOn : Hid (Only (fun q => q = mb) w (w2.setCell ⟨mb, 0, none⟩ v2)) := Only.setCell (S := fun q => q = mb) (p := ⟨mb, 0, none⟩) (((Only.refl _ w).alloc _).trans (HB3.out.mono (by simp) |> Only.of_below)) (Or.inl rfl) _
      clear hown2 hgrow2 hblk2 c1 fr
      obtain ⟨a2, cap2, hv2⟩ := HE3.out.slice
      rw [hv2] at HF HOn ⊢
      clear hv2 HE3
      go_wp2_with fail
      go_end0
      exact ⟨rfl, by
        obtain ⟨mg', hr, hg⟩ := HF.out
        exact ⟨mg', hr, by omega⟩, HOn.out⟩

theorem rput_any (w : World) (B mb mg : Nat) (l : List En) (id k : Int) (h : RF w B mb mg l) (hB : B ≤ w.heap.size) (hN : l.length ≤ 100000) :
    Calls Try.prog 40 #[.pointer (some ⟨mb, 0, none⟩), .agg #[.int .i64 id, .int .i64 k]] w (RfP (.tuple #[]) B mb mg (ins (id, k) l) w) := by
  cases l with
  | cons x l => exact rput_some w B mb mg (x :: l) id k h hB hN (by simp)
  | nil =>
    obtain ⟨v, h1, h2⟩ := h.S
    rcases h2.1.2 with ⟨hv, _⟩ | ⟨g, cap, cur, hv, _, _, _, hm, _⟩
    · subst hv
      exact rput_nil_none w B mb mg id k hB h.lg h1
    · rcases h2.2 with h3 | ⟨c2, h3⟩
      · rw [h3] at hv; simp at hv
      · rw [hv] at h3
        injection h3 with e1 e2 e3
        injection e1 with e1
        injection e1 with e1
        subst e1 e3 hv
        unfold maxLen at hm
        exact rput_nil_some w B mb g cap id k hB h.lg (by omega) h1

end Go.Proofs.Ytoiegoehebkjgaa
