/- The document's bells: Due. -/
import Derived.Test.YtdfolbnnhglpeaaBellF
namespace Go.Proofs.Ytdfolbnnhglpeaa
open Go.RowKit Rk
set_option linter.unusedVariables false

/-- what the document's Due comes to -/
def RDueP (P : List En) (now : Int) (mb mg : Nat) (w : World) (e : Ending) (w' : World) : Prop :=
  ∃ (v : Value) (a b : List En) (mg1 : Nat), e = .returned v ∧ Hid (Cut P now a b ∧ BR w' w.heap.size v a ∧ RB w' mb mg1 b ∧ (mg1 = mg ∨ w.heap.size ≤ mg1) ∧ Only (fun k => k = mb) w w')
theorem RB.cut {w : World} {mb mg off cap n j : Nat} {l : List En} {u : Value} (hu : w.heap[mb]? = some (.cells #[u] 53 (0, 0))) (hc : Cells3 w mg off l) (hn : l.length = n) (hj : j ≤ n) (hle : n ≤ cap) (hmx : cap ≤ maxLen) (hmg : mg < w.heap.size) (hne : l.drop j ≠ [] → mb ≠ mg) :
    RB (w.setCell ⟨mb, 0, none⟩ (.slice (some ⟨mg, off + j * 3, none⟩) (n - j) (cap - j))) mb mg (l.drop j) := by
  have hsz : (w.setCell ⟨mb, 0, none⟩ (.slice (some ⟨mg, off + j * 3, none⟩) (n - j) (cap - j))).heap.size = w.heap.size := by simp [World.setCell]
  have hl : (l.drop j).length = n - j := by rw [List.length_drop, hn]
  refine ⟨hne, by omega, _, one_setCell hu, Or.inr ⟨off + j * 3, cap - j, by rw [hl], by omega, by omega, by omega, ?_⟩⟩
  by_cases he : l.drop j = []
  · intro i hi; rw [he] at hi; simp at hi
  · exact (hc.drop j).keep (heap_set_other (Ne.symm (hne he)))
theorem RB.cut0 {w : World} {mb mg : Nat} {l : List En} {u v : Value} (hu : w.heap[mb]? = some (.cells #[u] 53 (0, 0))) (hl : l = []) (hmg : mg < w.heap.size) (hv : v = .slice none 0 0 ∨ ∃ off, v = .slice (some ⟨mg, off, none⟩) 0 0) : RB (w.setCell ⟨mb, 0, none⟩ v) mb mg l := by
  have hsz : (w.setCell ⟨mb, 0, none⟩ v).heap.size = w.heap.size := by simp [World.setCell]
  subst hl
  refine ⟨fun h => (h rfl).elim, by omega, _, one_setCell hu, ?_⟩
  rcases hv with h | ⟨off, h⟩
  · exact Or.inl ⟨rfl, h⟩
  · exact Or.inr ⟨off, 0, h, Nat.le_refl _, Nat.zero_le _, by omega, fun i hi => by simp at hi⟩

set_option maxRecDepth 100000 in
set_option maxHeartbeats 8000000 in
theorem rdue_any (w : World) (mb mg : Nat) (l : List En) (now : Int) (h : RB w mb mg l) (hW : Wf l) :
    Calls Try.prog 16 #[.pointer (some ⟨mb, 0, none⟩), .int .i64 now] w (RDueP l now mb mg w) := by
  obtain ⟨i0, hi, hz0, hz1, hz2⟩ := info_parts infoBell
  have HInfo := Lib.hid (⟨hi, hz0, hz1, hz2⟩ : _ ∧ _ ∧ _ ∧ _)
  clear hi hz0 hz1 hz2
  have HW := Lib.hid hW
  have HLL := Lib.hid hW.len
  have hlb := h.lb
  have hlg := h.lg
  have HNe := Lib.hid h.ne
  obtain ⟨v, h1, h2⟩ := h.S
  rcases h2 with ⟨hLn, rfl⟩ | ⟨off, cap, rfl, hle, hmx, _, hc⟩
  · have HBlk := Lib.hid h1
    have c0 := cell_of_one h1
    subst hLn
    clear h h1 hW
    go_enter Try.func16, Try.ntmps16
    go_wp2_with fail
    go_loop [5, 6] (fun i o => i = .int .i64 0 ∧ o = .slice none 0 0) (fun _ _ => 0)
    case atStart => exact ⟨rfl, rfl⟩
    case round =>
      obtain ⟨rfl, rfl⟩ := hrel
      have fr := free_of_one HBlk.out
      have HRB : Hid (RB (w.setCell ⟨mb, 0, none⟩ (.slice none 0 0)) mb mg []) := RB.cut0 HBlk.out rfl hlg (Or.inl rfl)
      go_wp2_with fail
      go_ret
      exact ⟨_, [], [], mg, rfl, ⟨rfl, fun x hx => (nomatch hx), fun x hx => (nomatch hx)⟩, BR.nil _ _, HRB.out, Or.inl rfl, Only.setCell (S := fun k => k = mb) (p := ⟨mb, 0, none⟩) (Only.refl _ _) (Or.inl rfl) _⟩
  · obtain ⟨n, hn⟩ : ∃ n, l.length = n := ⟨_, rfl⟩
    have HC : Hid (Cells3 w mg off l) := hc
    have HMx := Lib.hid hmx
    rw [hn] at hle h1
    have hN : n ≤ 64 := by have := HLL.out; omega
    have HN' := Lib.hid hn
    have HBlk := Lib.hid h1
    have c0 := cell_of_one h1
    unfold maxLen at hmx
    clear h h1 hc hn hW
    go_enter Try.func16, Try.ntmps16
    go_wp2_with fail
    go_loopw [5, 6] (fun i o wr => ∃ j : Nat, j ≤ n ∧ i = .int .i64 j ∧ Hid (BR wr w.heap.size o (l.take j)) ∧ Hid (Below w.heap.size w wr) ∧ Hid (∀ x ∈ l.take j, x.2 ≤ now)) (fun i _ _ => n - (intOf i).toNat)
    case atStart => exact ⟨0, Nat.zero_le _, rfl, by unfold Hid; simp only [List.take_zero]; exact BR.nil w _, Below.refl _ _, by unfold Hid; simp⟩
    case round =>
      clear c0
      obtain ⟨j, hj, rfl, HE, HBl, HD⟩ := hrel
      have c0 := cell_of_one ((HBl.out.block mb hlb).trans HBlk.out)
      have HCr : Hid (Cells3 wr mg off l) := HC.out.keep (HBl.out.block mg hlg)
      by_cases hjn : j < n
      · have hjl : j < l.length := by rw [HN'.out]; exact hjn
        obtain ⟨d1, d2, d3⟩ := HCr.out j hjl
        have HS := Lib.hid (take_snoc' hjl)
        have HDr := Lib.hid (List.drop_eq_getElem_cons hjl)
        obtain ⟨y, hy⟩ : ∃ y, l[j] = y := ⟨_, rfl⟩
        rw [hy] at d1 d2 d3 HS HDr
        clear hy
        obtain ⟨y1, y2⟩ := y
        dsimp only at d1 d2 d3
        obtain ⟨q, hq⟩ : ∃ q, y1 / 16 = q := ⟨_, rfl⟩
        obtain ⟨r, hr⟩ : ∃ r, y1 % 16 = r := ⟨_, rfl⟩
        rw [hq] at d2
        rw [hr] at d3
        have HQ := Lib.hid hq
        have HRm := Lib.hid hr
        clear hq hr
        by_cases hx : y2 ≤ now
        · have hd : decide (y2 ≤ now) = true := by simpa using hx
          have HL2 : Hid ((l.take j).length = j) := by unfold Hid; rw [List.length_take, HN'.out]; omega
          have Hm1 : Hid ((l.take j).length + 1 ≤ maxLen) := by unfold Hid maxLen; rw [HL2.out]; omega
          have Hm2 : Hid (((l.take j).length + 1) * 24 ≤ 140737488355328) := by unfold Hid; rw [HL2.out]; omega
          have Hm3 : ∀ o, Hid (w.heap.size ≤ (wr.alloc o).heap.size) := fun o => by have := HBl.out.size; unfold Hid; simp; omega
          have HD2 : Hid (∀ x ∈ l.take (j + 1), x.2 ≤ now) := fun x hxm => by
            rw [HS.out] at hxm
            rcases List.mem_append.1 hxm with h | h
            · exact HD.out x h
            · simp only [List.mem_cons, List.not_mem_nil, or_false] at h; rw [h]; exact hx
          clear hx HD HDr
          go_wp2_with (at_builtin; refine wpList_append_own _ rfl _ _ 34 rfl w.heap.size 44 i0 _ 3 24 Try.underlying34 HInfo.out.1 HInfo.out.2.1 HInfo.out.2.2.1 HInfo.out.2.2.2 rfl (by decide) _ _ _ rfl (World.ownsRow.alloc HE.out _) ⟨wr.heap.size, 0, none⟩ 1 1 [.int .i64 y2, .int .i64 q, .int .i64 r] rfl rfl (three_new _ _ _ _ _) (one3 _ _ _) Hm1.out Hm2.out (Hm3 _).out ?_)
          intro v' w1 hown hgrow _
          have HE2 : Hid (BR w1 w.heap.size v' (l.take (j + 1))) := by
            unfold Hid
            rw [HS.out]
            rw [← List.length_take] at hown
            exact BR.more (k := [(y1, y2)]) hown rfl (show [Value.int .i64 y2, .int .i64 q, .int .i64 r] = bcells [(y1, y2)] by rw [← HQ.out, ← HRm.out]; rfl)
          have HB2 : Hid (Below w.heap.size w w1) := (HBl.out.alloc HBl.out.size _).grown hgrow (Hm3 _).out (fun k hk => HE.out.own k hk)
          clear hown hgrow Hm1 Hm2 Hm3 HE HBl HL2
          go_wp2_with fail
          go_roundw
          case rel => exact ⟨j + 1, by omega, by go_num, HE2, HB2, HD2⟩
          case measure => simp [intOf]; omega
        · have hd : decide (y2 ≤ now) = false := by simpa using hx
          have hu := (HBl.out.block mb hlb).trans HBlk.out
          have fr := free_of_one hu
          have HU := Lib.hid hu
          have hsr := HBl.out.size
          have HCut : Hid (Cut l now (l.take j) (l.drop j)) := Cut.stop (Wf.drop (l := l.take j) (by rw [List.take_append_drop]; exact HW.out)) (List.take_append_drop j l).symm HD.out (Or.inr ⟨(y1, y2), _, HDr.out, by show now < y2; omega⟩)
          have HRs : Hid (∀ u, BR (wr.setCell ⟨mb, 0, none⟩ u) w.heap.size u6 (l.take j)) := fun u => HE.out.keep fun k hk hv => heap_set_other (by have := HE.out.own k hv; omega)
          have HOn : Hid (∀ u, Only (fun k => k = mb) w (wr.setCell ⟨mb, 0, none⟩ u)) := fun u => Only.setCell (S := fun k => k = mb) (p := ⟨mb, 0, none⟩) (Only.of_below HBl.out) (Or.inl rfl) _
          clear hu HE
          have HRB : Hid (RB (wr.setCell ⟨mb, 0, none⟩ (.slice (some ⟨mg, off + j * 3, none⟩) (n - j) (cap - j))) mb mg (l.drop j)) := RB.cut HU.out HCr.out HN'.out hj hle HMx.out (by omega) (fun hne => HNe.out (fun e => hne (by rw [e]; simp)))
          have hcj : ¬ cap = j := by omega
          clear hx d2 d3 HBl
          go_wp2_with fail
          go_ret
          exact ⟨_, l.take j, l.drop j, mg, rfl, HCut.out, HRs.out _, HRB.out, Or.inl rfl, HOn.out _⟩
      · have hnj : n = j := by omega
        have hd0 : decide ((j : Int) < (n : Int)) = false := by simp; omega
        have HDr : Hid (l.drop j = []) := List.drop_of_length_le (by rw [HN'.out]; omega)
        have hu := (HBl.out.block mb hlb).trans HBlk.out
        have fr := free_of_one hu
        have HU := Lib.hid hu
        have hsr := HBl.out.size
        have HCut : Hid (Cut l now (l.take j) (l.drop j)) := Cut.stop (Wf.drop (l := l.take j) (by rw [List.take_append_drop]; exact HW.out)) (List.take_append_drop j l).symm HD.out (Or.inl HDr.out)
        have HRs : Hid (∀ u, BR (wr.setCell ⟨mb, 0, none⟩ u) w.heap.size u6 (l.take j)) := fun u => HE.out.keep fun k hk hv => heap_set_other (by have := HE.out.own k hv; omega)
        have HOn : Hid (∀ u, Only (fun k => k = mb) w (wr.setCell ⟨mb, 0, none⟩ u)) := fun u => Only.setCell (S := fun k => k = mb) (p := ⟨mb, 0, none⟩) (Only.of_below HBl.out) (Or.inl rfl) _
        clear hu HE
        have HRB : Hid (RB (wr.setCell ⟨mb, 0, none⟩ (.slice (some ⟨mg, off + j * 3, none⟩) (n - j) (cap - j))) mb mg (l.drop j)) := RB.cut HU.out HCr.out HN'.out hj hle HMx.out (by omega) (fun hne => HNe.out (fun e => hne (by rw [e]; simp)))
        have HRB0 : Hid (RB (wr.setCell ⟨mb, 0, none⟩ (.slice (some ⟨mg, off, none⟩) 0 0)) mb mg (l.drop j)) := RB.cut0 HU.out HDr.out (by omega) (Or.inr ⟨off, rfl⟩)
        clear HBl
        by_cases hcj : cap = j
        · subst hnj
          subst hcj
          clear HRB
          go_wp2_with fail
          go_ret
          exact ⟨_, _, _, mg, rfl, HCut.out, HRs.out _, HRB0.out, Or.inl rfl, HOn.out _⟩
        · subst hnj
          clear HRB0
          rw [Nat.sub_self] at HRB
          go_wp2_with fail
          go_ret
          exact ⟨_, _, _, mg, rfl, HCut.out, HRs.out _, HRB.out, Or.inl rfl, HOn.out _⟩

end Go.Proofs.Ytdfolbnnhglpeaa
