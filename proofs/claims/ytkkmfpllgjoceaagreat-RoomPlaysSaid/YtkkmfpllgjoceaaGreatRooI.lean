/- The program's room: New. -/
import Derived.Test.YtkkmfpllgjoceaaGreatRooH
import Derived.Test.YtkkmfpllgjoceaaGreatZd
import Derived.Laws.MakeOwn
namespace Go.Proofs.YtkkmfpllgjoceaaGreat.Ro
open Go.RowKit Go.Sort Ac Jo
set_option linter.unusedVariables false
set_option maxRecDepth 100000

theorem infoPg : (Tryz.prog.info? 113).map (fun i => (i.zero, i.size, i.bytes)) = some (some (.pointer none), 1, 8) := by kernel_rfl
/-- pointers, by their cells -/
def pcls (ga : Nat → Nat) (k : Nat) : List Value := (List.range k).map fun i => .pointer (some ⟨ga i, 0, none⟩)
theorem pcls_len (ga : Nat → Nat) (k : Nat) : (pcls ga k).length = k := by simp [pcls]
theorem pcls_at (ga : Nat → Nat) (k i : Nat) (h : i < k) : (pcls ga k)[i]? = some (.pointer (some ⟨ga i, 0, none⟩)) := by simp [pcls, h]
theorem pcls_more (ga : Nat → Nat) (k b : Nat) : pcls (fun i => if i = k then b else ga i) (k + 1) = pcls ga k ++ [.pointer (some ⟨b, 0, none⟩)] := by
  unfold pcls
  rw [List.range_succ, List.map_append]
  congr 1
  · exact List.map_congr_left (fun i hi => by show Value.pointer (some ⟨if i = k then b else ga i, 0, none⟩) = _; rw [if_neg (by have := List.mem_range.1 hi; omega)])
  · simp
theorem app_ptr {w : World} {C k : Nat} {v : Value} {ga : Nat → Nat} (h : w.ownsRow C 113 1 v k (pcls ga k)) (b : Nat) {g : Nat} (hg : w.heap[g]? = some (.cells #[.pointer (some ⟨b, 0, none⟩)] 113 (0, 0))) (hB : C ≤ w.heap.size) (hn : k ≤ 1000) (ty : TypeId) :
    ∃ v' w', (Builtin.append_ #[71, 71] ty #[v, .slice (some ⟨g, 0, none⟩) 1 1]).run Tryz.prog w = .ok v' w' ∧ w'.ownsRow C 113 1 v' (k + 1) (pcls (fun i => if i = k then b else ga i) (k + 1)) ∧ w.grownBy w' v.ownBlock ∧ Below C w w' := by
  obtain ⟨i0, hi, hz0, hz1, hz2⟩ := info_parts infoPg
  obtain ⟨v', w', hrun, hown', hgr, _⟩ := run_append_own (P := Tryz.prog) (w := w) C 71 ty 113 i0 (.pointer none) 1 8 Tryz.underlying71 hi hz0 hz1 hz2 rfl (by decide) v k _ h ⟨g, 0, none⟩ 1 1 [.pointer (some ⟨b, 0, none⟩)] rfl
    (fun j u hj => by rw [Addr.add_lit, Nat.zero_add, cell_of_row _ _ j _ _ _ hg, List.getElem?_toArray]; exact hj) (by intro u hu; simp at hu; subst hu; rfl) (by unfold maxLen; omega) (by omega) hB
  refine ⟨v', w', hrun, ?_, hgr, (Below.refl C w).grown hgr hB (fun k e => (World.ownsRow.lt h k e).1)⟩
  rw [pcls_more]
  exact hown'
/-- the guards -/
structure GU (w w' : World) (n : Nat) (z : Nat → Nat → Int) (gv : Value) (gb : Nat) (ga : Nat → Nat) : Prop where
  sl : ∃ a c, gv = .slice a n c
  gf : 0 < n → ∃ c, gv = .slice (some ⟨gb, 0, none⟩) n c
  gs : ∀ i, i < n → w'.cell? ⟨gb, i, none⟩ = some (.pointer (some ⟨ga i, 0, none⟩))
  gd : ∀ i, i < n → Sg.PG w' (ga i) (z i 0) 0
  b1 : 0 < n → w.heap.size ≤ gb ∧ gb < w'.heap.size
  b2 : ∀ i, i < n → w.heap.size ≤ ga i ∧ ga i < w'.heap.size ∧ ga i ≠ gb
  b3 : ∀ i j, i < j → j < n → ga i < ga j
  bel : Below w.heap.size w w'
def GuP (n : Nat) (z : Nat → Nat → Int) (w : World) (e : Ending) (w' : World) : Prop := ∃ gv gb ga, e = .returned gv ∧ GU w w' n z gv gb ga
/-- between two rounds -/
structure GB (w : World) (z : Nat → Nat → Int) (o : Value) (k : Nat) (ga : Nat → Nat) (wr : World) : Prop where
  ow : wr.ownsRow w.heap.size 113 1 o k (pcls ga k)
  gd : ∀ i, i < k → Sg.PG wr (ga i) (z i 0) 0
  b2 : ∀ i, i < k → w.heap.size ≤ ga i
  b3 : ∀ i j, i < j → j < k → ga i < ga j
  bel : Below w.heap.size w wr
theorem GB.start (w : World) (z : Nat → Nat → Int) : GB w z (.slice none 0 0) 0 (fun _ => 0) w := ⟨World.ownsRow_nil w _ _ _, fun i h => absurd h (Nat.not_lt_zero _), fun i h => absurd h (Nat.not_lt_zero _), fun i j _ h => absurd h (Nat.not_lt_zero _), Below.refl _ _⟩
theorem GB.below {w wr w2 : World} {z : Nat → Nat → Int} {o : Value} {k : Nat} {ga : Nat → Nat} (h : GB w z o k ga wr) (q : Below wr.heap.size wr w2) : GB w z o k ga w2 :=
  ⟨so_keep.row_keep' h.ow (fun j hj => q.block j (World.ownsRow.lt h.ow j hj).2), fun i hi => (h.gd i hi).keep (q.block _ (h.gd i hi).lt), h.b2, h.b3, chn h.bel q⟩
theorem row_block {w : World} {C e size n : Nat} {g c : Nat} {xs : List Value} {k : Nat} (h : w.ownsRow C e size (.slice (some ⟨g, 0, none⟩) k c) n xs) : ∃ cur, w.heap[g]? = some (.cells cur e (0, 0)) := by
  rcases h.2 with ⟨e1, _⟩ | ⟨g', cap, cur, e1, hb, hh, _⟩
  · cases e1
  · injection e1 with e1 _ _
    injection e1 with e1
    injection e1 with e1 _ _
    subst e1
    exact ⟨cur, hh⟩
theorem GB.ne {w wr : World} {z : Nat → Nat → Int} {o : Value} {k : Nat} {ga : Nat → Nat} (h : GB w z o k ga wr) {i : Nat} (hi : i < k) : o.ownBlock ≠ some (ga i) := by
  intro e
  rcases h.ow.2 with ⟨e1, h0⟩ | ⟨g', cap, cur, e1, hb, hh, _⟩
  · omega
  · rw [e1] at e
    injection e with e
    have q := h.gd i hi
    unfold Sg.PG Sg.GS at q
    rw [← e] at q
    have hh' : wr.heap[g']? = some (.cells cur 113 (0, 0)) := hh
    rw [hh'] at q
    injection q with q
    injection q with _ q _
    exact absurd q (by decide)
/-- a guard more -/
theorem GB.step {w wr w1 w2 w3 : World} {z : Nat → Nat → Int} {o v' : Value} {k b : Nat} {ga : Nat → Nat} (h : GB w z o k ga wr) (q1 : Below wr.heap.size wr w1) (hb : wr.heap.size ≤ b) (hg : Sg.PG w1 b (z k 0) 0)
    (e2 : w2 = w1.alloc (.cells #[.pointer (some ⟨b, 0, none⟩)] 113)) (hgr : w2.grownBy w3 o.ownBlock) (hbel : Below w.heap.size w2 w3) (hown : w3.ownsRow w.heap.size 113 1 v' (k + 1) (pcls (fun i => if i = k then b else ga i) (k + 1))) :
    GB w z v' (k + 1) (fun i => if i = k then b else ga i) w3 := by
  have hq2 : Below wr.heap.size wr w2 := by rw [e2]; exact q1.alloc q1.size _
  have hlt : ∀ i, i < k → ga i < wr.heap.size := fun i hi => (h.gd i hi).lt
  have hob : ∀ j, o.ownBlock = some j → j < wr.heap.size := fun j hj => (World.ownsRow.lt h.ow j hj).2
  refine ⟨hown, fun i hi => ?_, fun i hi => ?_, fun i j hij hj => ?_, ?_⟩
  · show Sg.PG w3 (if i = k then b else ga i) (z i 0) 0
    by_cases e : i = k
    · subst e
      rw [if_pos rfl]
      have hg2 : Sg.PG w2 b (z i 0) 0 := by rw [e2]; exact hg.keep (((below_al w1 _).block b hg.lt))
      exact hg2.keep (hgr.block b hg2.lt (fun y => by have := hob b y.symm; omega))
    · rw [if_neg e]
      have hg2 : Sg.PG w2 (ga i) (z i 0) 0 := (h.gd i (by omega)).keep (hq2.block _ (hlt i (by omega)))
      exact hg2.keep (hgr.block _ hg2.lt (fun y => h.ne (i := i) (by omega) y.symm))
  · show w.heap.size ≤ if i = k then b else ga i
    split
    · have := h.bel.size; omega
    · exact h.b2 i (by omega)
  · show (if i = k then b else ga i) < if j = k then b else ga j
    rw [if_neg (by omega)]
    split
    · have := hlt i (by omega); omega
    · exact h.b3 i j hij (by omega)
  · exact (h.bel.trans (hq2.mono h.bel.size)).trans hbel
set_option maxHeartbeats 2000000 in
theorem guards_any {w : World} {v : Value} {n : Nat} {z : Nat → Nat → Int} (h : St.TK w v n z) (hn : n ≤ 4) (hz : ∀ i, i < n → Jo.tok (z i) = true) : Calls Tryz.prog 39 #[v] w (GuP n z w) := by
  obtain ⟨a, cap, rfl, hn1, hn2⟩ := h.slice
  have HT := Lib.hid h
  have HZ := Lib.hid hz
  have HG0 := Lib.hid (GB.start w z)
  clear h hz
  go_enter Tryz.func39, Tryz.ntmps39
  go_wp2_with fail
  go_loopw [3, 10] (fun o i wr => ∃ (k : Nat) (ga : Nat → Nat) (ov : Value), k ≤ n ∧ i = .int .i64 k ∧ ov = o ∧ Hid (GB w z ov k ga wr)) (fun _ i _ => n - (intOf i).toNat)
  case atStart => exact ⟨0, _, _, Nat.zero_le _, rfl, rfl, HG0.out⟩
  case round =>
    clear HG0
    obtain ⟨k, ga, o, hk, rfl, rfl, HG⟩ := hrel
    by_cases hlt : k < n
    · obtain ⟨tb, off, rfl, ⟨t0, t1, t2, t3, t4, t5, t6, t7⟩⟩ := (HT.out.below HG.out.bel).at hlt
      have htok := tok_bd (HZ.out k hlt)
      have hwp : Sg.Sp.wp (z k 0) = 0 := by unfold Sg.Sp.wp; rw [if_pos ⟨htok.1, htok.2.1⟩]
      obtain ⟨W1, hW1⟩ : ∃ W1, W1 = wr.alloc (.cells (tcs (z k)) 55) := ⟨_, rfl⟩
      have HB1 : Hid (Below wr.heap.size wr W1) := by rw [hW1]; exact below_al wr _
      have HN := Lib.hid (Sg.new_yes W1 hwp)
      have HW1 := Lib.hid hW1
      have HZK : Hid (z k 0 = z k 0) := rfl
      clear htok hwp hW1
      have HST : Hid (∀ w2, Sg.PG w2 W1.heap.size (z k 0) 0 → Below W1.heap.size W1 w2 → ∃ v' w3, (Builtin.append_ #[71, 71] 71 #[o, .slice (some ⟨w2.heap.size, 0, none⟩) 1 1]).run Tryz.prog (w2.alloc (.cells #[.pointer (some ⟨W1.heap.size, 0, none⟩)] 113)) = .ok v' w3 ∧ GB w z v' (k + 1) (fun i => if i = k then W1.heap.size else ga i) w3) := fun w2 hg hb => by
        have hq := chn HB1.out hb
        have hown : (w2.alloc (.cells #[.pointer (some ⟨W1.heap.size, 0, none⟩)] 113)).ownsRow w.heap.size 113 1 o k (pcls ga k) := World.ownsRow.alloc (HG.out.below hq).ow _
        obtain ⟨v', w3, hrun, hown', hgr, hbel⟩ := app_ptr hown W1.heap.size (g := w2.heap.size) (heap_alloc_new w2 _) (by rw [World.size_alloc]; have := (HG.out.below hq).bel.size; omega) (by omega) 71
        exact ⟨v', w3, hrun, HG.out.step hq HB1.out.size hg rfl hgr hbel hown'⟩
      unfold tcs at HW1
      generalize z k 0 = z0 at *
      generalize z k 1 = z1 at *
      generalize z k 2 = z2 at *
      generalize z k 3 = z3 at *
      generalize z k 4 = z4 at *
      generalize z k 5 = z5 at *
      generalize z k 6 = z6 at *
      generalize z k 7 = z7 at *
      go_wp2_with fail
      rw [← HW1.out]
      clear t0 t1 t2 t3 t4 t5 t6 t7
      refine HN.out.mono ?_
      rintro e w2 ⟨rfl, hg, hb⟩
      obtain ⟨v', w3, hrun, hGB⟩ := HST.out w2 hg hb
      have HRUN := Lib.hid hrun
      have HGB := Lib.hid hGB
      clear hrun hGB hg hb HN HST HW1 HB1 HG
      generalize W1.heap.size = gk at *
      go_wp2_with (at_builtin; refine St.wpList_append_eq rfl _ _ 71 71 rfl _ _ _ _ rfl rfl HRUN.out ?_)
      go_roundw
      case rel => exact ⟨k + 1, _, _, by omega, by go_num, rfl, HGB.out⟩
      case measure => simp [intOf]; omega
    · obtain rfl : k = n := by omega
      have HF : Hid (GuP k z w (.returned o) wr) := by
        have hG := HG.out
        by_cases h0 : k = 0
        · subst h0
          exact ⟨o, 0, ga, rfl, ⟨St.own_slice hG.ow, fun q => absurd q (Nat.lt_irrefl _), fun i q => absurd q (Nat.not_lt_zero _), fun i q => absurd q (Nat.not_lt_zero _), fun q => absurd q (Nat.lt_irrefl _), fun i q => absurd q (Nat.not_lt_zero _), fun i j _ q => absurd q (Nat.not_lt_zero _), hG.bel⟩⟩
        · rcases hG.ow.2 with ⟨_, e0⟩ | ⟨g, c, cur, rfl, _⟩
          · exact absurd e0 h0
          · have hlt := World.ownsRow.lt hG.ow g rfl
            refine ⟨_, g, ga, rfl, ⟨⟨_, c, rfl⟩, fun _ => ⟨c, rfl⟩, fun i hi => ?_, hG.gd, fun _ => ⟨hlt.1, hlt.2⟩, fun i hi => ⟨hG.b2 i hi, (hG.gd i hi).lt, fun e => hG.ne hi (by rw [e]; rfl)⟩, hG.b3, hG.bel⟩⟩
            have := World.ownsRow.cells hG.ow (g := g) rfl i _ (pcls_at ga k i hi)
            rw [Addr.add_lit, Nat.zero_add] at this
            exact this
      go_wp2_with fail
      go_ret
      exact HF.out
end Go.Proofs.YtkkmfpllgjoceaaGreat.Ro
