/- The document's room: New. -/
import Derived.Test.YtkkmfpllgjoceaaGreatRooRe
import Derived.Test.YtkkmfpllgjoceaaGreatRooJ
import Derived.Test.YtkkmfpllgjoceaaGreatDemB
import Derived.Laws.MakeOwn
namespace Go.Proofs.YtkkmfpllgjoceaaGreat.Ro.Dr
open Go.RowKit Go.Sort Ac Jo Ro
set_option linter.unusedVariables false
set_option maxRecDepth 100000

theorem infoDg : (Tryz.prog.info? 87).map (fun i => (i.zero, i.size, i.bytes)) = some (some (.pointer none), 1, 8) := by kernel_rfl
theorem infoDj : (Tryz.prog.info? 97).map (fun i => (i.zero, i.size, i.bytes)) = some (some (.pointer none), 1, 8) := by kernel_rfl
theorem app_dg {w : World} {C k : Nat} {v : Value} {ga : Nat → Nat} (h : w.ownsRow C 87 1 v k (pcls ga k)) (b : Nat) {g : Nat} (hg : w.heap[g]? = some (.cells #[.pointer (some ⟨b, 0, none⟩)] 87 (0, 0))) (hB : C ≤ w.heap.size) (hn : k ≤ 1000) (ty : TypeId) :
    ∃ v' w', (Builtin.append_ #[82, 82] ty #[v, .slice (some ⟨g, 0, none⟩) 1 1]).run Tryz.prog w = .ok v' w' ∧ w'.ownsRow C 87 1 v' (k + 1) (pcls (fun i => if i = k then b else ga i) (k + 1)) ∧ w.grownBy w' v.ownBlock ∧ Below C w w' := by
  obtain ⟨i0, hi, hz0, hz1, hz2⟩ := info_parts infoDg
  obtain ⟨v', w', hrun, hown', hgr, _⟩ := run_append_own (P := Tryz.prog) (w := w) C 82 ty 87 i0 (.pointer none) 1 8 Tryz.underlying82 hi hz0 hz1 hz2 rfl (by decide) v k _ h ⟨g, 0, none⟩ 1 1 [.pointer (some ⟨b, 0, none⟩)] rfl
    (fun j u hj => by rw [Addr.add_lit, Nat.zero_add, cell_of_row _ _ j _ _ _ hg, List.getElem?_toArray]; exact hj) (by intro u hu; simp at hu; subst hu; rfl) (by unfold maxLen; omega) (by omega) hB
  refine ⟨v', w', hrun, ?_, hgr, (Below.refl C w).grown hgr hB (fun k e => (World.ownsRow.lt h k e).1)⟩
  rw [pcls_more]
  exact hown'
/-- the object, while guards are made: k of them so far; all blocks of its own lie below a1, those of the guards from a1 on -/
structure NB (w0 wr : World) (n : Nat) (z : Nat → Nat → Int) (rb jv a1 : Nat) (tv gv : Value) (k : Nat) (ga : Nat → Nat) : Prop where
  ob : wr.heap[rb]? = some (.cells #[tv, gv, .pointer none, .pointer none, .slice (some ⟨jv, 0, none⟩) n n] 86 (0, 0))
  tk : St.TK wr tv n z
  tb : ∀ q, tv.ownBlock = some q → w0.heap.size ≤ q ∧ q < a1 ∧ q ≠ rb ∧ q ≠ jv
  jo : wr.heap[jv]? = some (.cells (madeCells #[.pointer none] n) 97 (0, 0))
  rj : rb ≠ jv ∧ (w0.heap.size ≤ rb ∧ rb < a1) ∧ (w0.heap.size ≤ jv ∧ jv < a1)
  ow : wr.ownsRow a1 87 1 gv k (pcls ga k)
  gd : ∀ i, i < k → Sg.DG wr (ga i) (z i 0) 0
  b2 : ∀ i, i < k → a1 ≤ ga i
  b3 : ∀ i j, i < j → j < k → ga i < ga j
  bel : Below w0.heap.size w0 wr
  sz : a1 ≤ wr.heap.size
theorem NB.start {w0 W : World} {n : Nat} {z : Nat → Nat → Int} {jv : Nat} {tv : Value} (bel : Below w0.heap.size w0 W) (tk : St.TK W tv n z) (tb : ∀ q, tv.ownBlock = some q → w0.heap.size ≤ q ∧ q < W.heap.size ∧ q ≠ jv)
    (jo : W.heap[jv]? = some (.cells (madeCells #[.pointer none] n) 97 (0, 0))) (hj : w0.heap.size ≤ jv) :
    NB w0 (W.alloc (.cells #[tv, .slice none 0 0, .pointer none, .pointer none, .slice (some ⟨jv, 0, none⟩) n n] 86)) n z W.heap.size jv (W.heap.size + 1) tv (.slice none 0 0) 0 (fun _ => 0) := by
  have hb := below_al W (.cells #[tv, .slice none 0 0, .pointer none, .pointer none, .slice (some ⟨jv, 0, none⟩) n n] 86)
  have hjl := lt_of_block jo
  have hs := bel.size
  exact ⟨heap_alloc_new W _, tk.below hb, fun q hq => by have := tb q hq; omega, (hb.block _ hjl).trans jo, ⟨by omega, ⟨hs, by omega⟩, hj, by omega⟩, World.ownsRow_nil _ _ _ _, fun i h => absurd h (Nat.not_lt_zero _), fun i h => absurd h (Nat.not_lt_zero _), fun i j _ h => absurd h (Nat.not_lt_zero _), bel.trans (hb.mono hs), by rw [World.size_alloc]; exact Nat.le_refl _⟩
section
variable {w0 wr w1 w2 w3 : World} {n : Nat} {z : Nat → Nat → Int} {rb jv a1 k : Nat} {tv gv : Value} {ga : Nat → Nat}
theorem NB.below (h : NB w0 wr n z rb jv a1 tv gv k ga) (q : Below wr.heap.size wr w1) : NB w0 w1 n z rb jv a1 tv gv k ga := by
  have hs := h.sz
  obtain ⟨r1, r2, r3⟩ := h.rj
  exact ⟨(q.block _ (lt_of_block h.ob)).trans h.ob, h.tk.below q, h.tb, (q.block _ (lt_of_block h.jo)).trans h.jo, h.rj, row_keep' h.ow (fun j hj => q.block j (World.ownsRow.lt h.ow j hj).2), fun i hi => (h.gd i hi).keep (q.block _ (h.gd i hi).lt), h.b2, h.b3, h.bel.trans (q.mono h.bel.size), Nat.le_trans hs q.size⟩
theorem NB.ne (h : NB w0 wr n z rb jv a1 tv gv k ga) {i : Nat} (hi : i < k) : gv.ownBlock ≠ some (ga i) := by
  intro e
  rcases h.ow.2 with ⟨e1, h0⟩ | ⟨g', cap, cur, e1, hb, hh, _⟩
  · omega
  · rw [e1] at e
    injection e with e
    have q := h.gd i hi
    unfold Sg.DG Sg.GS at q
    rw [← e] at q
    have hh' : wr.heap[g']? = some (.cells cur 87 (0, 0)) := hh
    rw [hh'] at q
    injection q with q
    injection q with _ q _
    exact absurd q (by decide)
/-- a guard more -/
theorem NB.step (h : NB w0 wr n z rb jv a1 tv gv k ga) (q1 : Below wr.heap.size wr w1) {b : Nat} (hb : wr.heap.size ≤ b) (hg : Sg.DG w1 b (z k 0) 0)
    (e2 : w2 = w1.alloc (.cells #[.pointer (some ⟨b, 0, none⟩)] 87)) {v' : Value} (hgr : w2.grownBy w3 gv.ownBlock) (hbel : Below a1 w2 w3) (hown : w3.ownsRow a1 87 1 v' (k + 1) (pcls (fun i => if i = k then b else ga i) (k + 1))) :
    NB w0 (w3.setCell ⟨rb, 1, none⟩ v') n z rb jv a1 tv v' (k + 1) (fun i => if i = k then b else ga i) := by
  have hq2 : Below wr.heap.size wr w2 := by rw [e2]; exact q1.alloc q1.size _
  have h2 := h.below hq2
  have hs := h.sz
  obtain ⟨r1, r2, r3⟩ := h.rj
  have hgo : ∀ j, gv.ownBlock = some j → a1 ≤ j := fun j hj => (World.ownsRow.lt h.ow j hj).1
  have hob3 := (hgr.block rb (lt_of_block h2.ob) (fun y => by have := hgo rb y.symm; omega)).trans h2.ob
  have hset : ∀ j, j ≠ rb → (w3.setCell ⟨rb, 1, none⟩ v').heap[j]? = w3.heap[j]? := fun j hj => Below.heap_setCell _ _ _ _ hj
  have hvo : ∀ j, v'.ownBlock = some j → a1 ≤ j := fun j hj => (World.ownsRow.lt hown j hj).1
  have hlt : ∀ i, i < k → ga i < wr.heap.size := fun i hi => (h.gd i hi).lt
  have hsz3 : w2.heap.size ≤ w3.heap.size := hgr.size
  refine ⟨heap_setCell_same w3 rb 1 _ _ v' hob3, ?_, h.tb, ?_, h.rj, row_keep' hown (fun j hj => hset j (by have := hvo j hj; omega)), fun i hi => ?_, fun i hi => ?_, fun i j hij hj => ?_, ?_, ?_⟩
  · refine h2.tk.keep (fun j hj => (hset j (h.tb j hj).2.2.1).trans (hgr.block j ?_ (fun y => by have := hgo j y.symm; have := (h.tb j hj).2.1; omega)))
    have := (h.tb j hj).2.1
    have := h2.sz
    omega
  · exact (hset jv (fun e => r1 e.symm)).trans ((hgr.block jv (lt_of_block h2.jo) (fun y => by have := hgo jv y.symm; omega)).trans h2.jo)
  · show Sg.DG _ (if i = k then b else ga i) (z i 0) 0
    have hw : w1.heap.size ≤ w2.heap.size := by rw [e2, World.size_alloc]; omega
    by_cases e : i = k
    · subst e
      rw [if_pos rfl]
      have hg2 : Sg.DG w2 b (z i 0) 0 := by rw [e2]; exact hg.keep (((below_al w1 _).block b hg.lt))
      exact (hg2.keep (hgr.block b hg2.lt (fun y => by have := (World.ownsRow.lt h.ow b y.symm).2; omega))).keep (hset b (by omega))
    · rw [if_neg e]
      have hik : i < k := by omega
      have hg2 : Sg.DG w2 (ga i) (z i 0) 0 := (h.gd i hik).keep (hq2.block _ (hlt i hik))
      exact (hg2.keep (hgr.block _ hg2.lt (fun y => h.ne (i := i) hik y.symm))).keep (hset _ (by have := h.b2 i hik; omega))
  · show a1 ≤ if i = k then b else ga i
    split
    · omega
    · exact h.b2 i (by omega)
  · show (if i = k then b else ga i) < if j = k then b else ga j
    rw [if_neg (by omega)]
    split
    · have := hlt i (by omega); omega
    · exact h.b3 i j hij (by omega)
  · have hb3 : Below w0.heap.size w0 w3 := (h.bel.trans (hq2.mono h.bel.size)).trans (hbel.mono (by omega))
    exact hb3.setCell (p := ⟨rb, 1, none⟩) r2.1 _
  · rw [set_size]
    have := h2.sz
    omega
/-- the labels of a room that was made -/
def dlab (rb jv a1 a2 a3 a4 : Nat) (tv gv : Value) (ga : Nat → Nat) (n : Nat) (k : Nat) : Nat :=
  if k = rb then 1 else if k = jv then 6 else if k < a1 then (if tv.ownBlock = some k then 4 else 0)
  else if k < a2 then (if gv.ownBlock = some k then 5 else if 0 < n ∧ k = ga 0 then 7 else if 1 < n ∧ k = ga 1 then 9 else if 2 < n ∧ k = ga 2 then 11 else if 3 < n ∧ k = ga 3 then 13 else 0)
  else if k < a3 then 3 else if k < a4 then 2 else 0
/-- the queue and the stack are put in -/
theorem NB.fin {W3 W4 : World} {qb sb : Nat} {lv sv : Value} (h : NB w0 wr n z rb jv a1 tv gv n ga) (hn : n ≤ 4) (dq : Rq.DQ W3 qb wr.heap.size (Rq.Rd.noL n) lv) (q1 : wr.heap.size ≤ qb) (b1 : Below wr.heap.size wr W3)
    (so : St.RO W4 sb n z [] sv (.slice none 0 0)) (q2 : W3.heap.size ≤ sb) (q3 : ∀ k, sv.ownBlock = some k → W3.heap.size ≤ k) (b2 : Below W3.heap.size W3 W4) :
    RNew JJ (noRm n z) w0 (.returned (.tuple #[.pointer (some ⟨rb, 0, none⟩), .int .i64 0])) ((W4.setCell ⟨rb, 2, none⟩ (.pointer (some ⟨qb, 0, none⟩))).setCell ⟨rb, 3, none⟩ (.pointer (some ⟨sb, 0, none⟩))) := by
  have hb : Below wr.heap.size wr W4 := chn b1 b2
  have h4 := h.below hb
  obtain ⟨r1, r2, r3⟩ := h.rj
  have hs := h.sz
  have hs3 := b1.size
  have hs4 := b2.size
  obtain ⟨WF, hWF⟩ : ∃ WF, WF = (W4.setCell ⟨rb, 2, none⟩ (.pointer (some ⟨qb, 0, none⟩))).setCell ⟨rb, 3, none⟩ (.pointer (some ⟨sb, 0, none⟩)) := ⟨_, rfl⟩
  have hob : WF.heap[rb]? = some (.cells #[tv, gv, .pointer (some ⟨qb, 0, none⟩), .pointer (some ⟨sb, 0, none⟩), .slice (some ⟨jv, 0, none⟩) n n] 86 (0, 0)) := by
    rw [hWF]
    exact heap_setCell_same _ rb 3 _ _ _ (heap_setCell_same W4 rb 2 _ _ _ h4.ob)
  have hset : ∀ j, j ≠ rb → WF.heap[j]? = W4.heap[j]? := fun j hj => by rw [hWF]; exact (Below.heap_setCell _ _ _ _ hj).trans (Below.heap_setCell _ _ _ _ hj)
  have hszF : WF.heap.size = W4.heap.size := by rw [hWF, set_size, set_size]
  have hbF : Below w0.heap.size w0 WF := by rw [hWF]; exact (h4.bel.setCell (p := ⟨rb, 2, none⟩) r2.1 _).setCell (p := ⟨rb, 3, none⟩) r2.1 _
  rw [← hWF]
  clear hWF
  have hqo : ∀ k, lv.ownBlock = some k → wr.heap.size ≤ k ∧ k < W3.heap.size := fun k hk => World.ownsRow.lt dq.ow k hk
  have hqb : qb < W3.heap.size := dq.lt
  have hsb : sb < W4.heap.size := lt_of_block so.ob
  have hgo : ∀ k, gv.ownBlock = some k → a1 ≤ k ∧ k < wr.heap.size := fun k hk => World.ownsRow.lt h.ow k hk
  have hga : ∀ i, i < n → a1 ≤ ga i ∧ ga i < wr.heap.size := fun i hi => ⟨h.b2 i hi, (h.gd i hi).lt⟩
  obtain ⟨lab, hlab⟩ : ∃ lab, lab = dlab rb jv a1 wr.heap.size W3.heap.size W4.heap.size tv gv ga n := ⟨_, rfl⟩
  have hin : ∀ k, lab k ≠ 0 → w0.heap.size ≤ k ∧ k < W4.heap.size := fun k hk => by
    have hb0 := h.bel.size
    rw [hlab] at hk
    unfold dlab at hk
    split at hk
    · omega
    split at hk
    · omega
    split at hk
    · split at hk
      · rename_i e; have := h.tb k e; omega
      · exact absurd rfl hk
    split at hk
    · omega
    split at hk
    · omega
    split at hk
    · omega
    · exact absurd rfl hk
  have hgb : ∃ gb, 0 < n → ∃ c, gv = .slice (some ⟨gb, 0, none⟩) n c := by
    rcases h.ow.2 with ⟨_, e0⟩ | ⟨g, c, cur, e, _⟩
    · exact ⟨0, fun q => by omega⟩
    · exact ⟨g, fun _ => ⟨c, e⟩⟩
  obtain ⟨gb, hgf⟩ := hgb
  refine ⟨rb, fun k => lab k ≠ 0, rfl, ⟨⟨sb, sv, .slice none 0 0, qb, wr.heap.size, lv, tv, gv, gb, ga, jv, fun _ => false, fun _ => 0, fun _ => 0, fun _ => 0, lab⟩, ⟨hob, ?_, ?_, ?_, hgf, ?_, ?_, fun i hi => ?_, (fun i hi hp => by cases hp), ?_, ?_, ⟨?_, ?_⟩, ?_, ?_, ?_, ?_, (fun i hi hp => by cases hp), ?_⟩, ?_, fun _ => Iff.rfl⟩, fun k hk => (hin k hk).1, hbF⟩
  · refine ro_keep so (fun k hk => hset k ?_) (fun k hk => by rw [hszF]; exact (so.tb k hk).2)
    rcases hk with (e | e) | e
    · have e' : k = sb := e
      omega
    · simp [Value.ownBlock] at e
    · have := q3 k e; omega
  · exact dq_keep dq ((hset qb (by omega)).trans (b2.block qb hqb)) (fun k hk => (hset k (by have := (hqo k hk).1; omega)).trans (b2.block k (hqo k hk).2))
  · exact h4.tk.keep (fun k hk => hset k (h.tb k hk).2.2.1)
  · intro i hi
    have hi' : i < n := hi
    obtain ⟨c, hc⟩ := hgf (by omega)
    have h5 := h4.ow
    rw [hc] at h5
    have := World.ownsRow.cells h5 (g := gb) rfl i _ (pcls_at ga n i hi')
    rw [Addr.add_lit, Nat.zero_add] at this
    exact (World.cell?_of_block (hset gb (by have := (hgo gb (by rw [hc]; rfl)).1; omega))).trans this
  · show WF.heap[jv]? = _
    rw [hset jv (fun e => r1 e.symm), h4.jo]
    have e : madeCells #[Value.pointer none] n = jcl n (fun _ => .pointer none) := by
      apply Array.ext'
      rw [toList_madeCells_one]
      unfold jcl
      show List.replicate n (Value.pointer none) = List.map (fun _ => Value.pointer none) (List.range n)
      rw [List.map_const', List.length_range]
    show some (Obj.cells (madeCells #[Value.pointer none] n) _ _) = some (Obj.cells (jcl n _) _ _)
    rw [e]
    rfl
  · have hi' : i < n := hi
    exact (h4.gd i hi').keep (hset _ (by have := h.b2 i hi'; omega))
  · show lab rb = 1
    rw [hlab]; unfold dlab
    rw [if_pos rfl]
  · intro k hk
    have : W3.heap.size ≤ k ∧ k < W4.heap.size := by
      rcases hk with (e | e) | e
      · rw [e]; exact ⟨q2, hsb⟩
      · simp [Value.ownBlock] at e
      · exact ⟨q3 k e, (so.tb k e).2⟩
    show lab k = 2
    rw [hlab]; unfold dlab
    rw [if_neg (by omega), if_neg (by omega), if_neg (by omega), if_neg (by omega), if_neg (by omega), if_pos this.2]
  · show lab qb = 3
    rw [hlab]; unfold dlab
    rw [if_neg (by omega), if_neg (by omega), if_neg (by omega), if_neg (by omega), if_pos (by omega)]
  · intro k hk
    have := hqo k hk
    show lab k = 3
    rw [hlab]; unfold dlab
    rw [if_neg (by omega), if_neg (by omega), if_neg (by omega), if_neg (by omega), if_pos (by omega)]
  · intro _ k hk
    have := h.tb k hk
    show lab k = 4
    rw [hlab]; unfold dlab
    rw [if_neg (by omega), if_neg (by omega), if_pos (by omega), if_pos hk]
  · intro h0
    obtain ⟨c, hc⟩ := hgf h0
    have hgk : gv.ownBlock = some gb := by rw [hc]; rfl
    have := hgo gb hgk
    show lab gb = 5
    rw [hlab]; unfold dlab
    rw [if_neg (by omega), if_neg (by omega), if_neg (by omega), if_pos (by omega), if_pos hgk]
  · show lab jv = 6
    rw [hlab]; unfold dlab
    rw [if_neg (by omega), if_pos rfl]
  · intro i hi
    have hi' : i < n := hi
    have h6 := hga i hi'
    have q7 := h.b3
    show lab (ga i) = 7 + 2 * i
    rw [hlab]; unfold dlab
    rw [if_neg (by omega), if_neg (by omega), if_neg (by omega), if_pos (by omega), if_neg (h.ne hi')]
    rcases (show i = 0 ∨ i = 1 ∨ i = 2 ∨ i = 3 by omega) with rfl | rfl | rfl | rfl
    · rw [if_pos ⟨hi', rfl⟩]
    · have := q7 0 1 (by omega) hi'
      rw [if_neg (by omega), if_pos ⟨hi', rfl⟩]
    · have := q7 0 2 (by omega) hi'
      have := q7 1 2 (by omega) hi'
      rw [if_neg (by omega), if_neg (by omega), if_pos ⟨hi', rfl⟩]
    · have := q7 0 3 (by omega) hi'
      have := q7 1 3 (by omega) hi'
      have := q7 2 3 (by omega) hi'
      rw [if_neg (by omega), if_neg (by omega), if_neg (by omega), if_pos ⟨hi', rfl⟩]
  · intro k hk
    rw [hszF]; exact (hin k hk).2
  · intro i hi
    have e : (noRm n z).dl i = -1 := Rq.Rd.no_dl n i
    show false = decide (0 ≤ (noRm n z).dl i)
    rw [e]
    rfl
end
theorem tasks_ok {n : Nat} {z : Nat → Nat → Int} (hn : n ≤ 4) (h : ∀ i, i < n → Jo.tok (z i) = true) : Dm.De.tasksOK n z = true := by
  unfold Dm.De.tasksOK
  rw [allT_of h, decide_eq_true hn]
  rfl
end Go.Proofs.YtkkmfpllgjoceaaGreat.Ro.Dr
