/- The program's room: New; all that is asked of it. -/
import Derived.Test.YtkkmfpllgjoceaaGreatRooI
import Derived.Deep.OwnRows
namespace Go.Proofs.YtkkmfpllgjoceaaGreat.Ro
open Go.RowKit Go.Sort Ac Jo
set_option linter.unusedVariables false
set_option maxRecDepth 100000

theorem infoPj : (Tryz.prog.info? 106).map (fun i => (i.zero, i.size, i.bytes)) = some (some (.pointer none), 1, 8) := by kernel_rfl
theorem infoI3 : (Tryz.prog.info? 3).map (fun i => (i.zero, i.size, i.bytes)) = some (some (.int .i64 0), 1, 8) := by kernel_rfl
/-- a copy of tasks -/
structure CL (X w' : World) (n : Nat) (z : Nat → Nat → Int) (v : Value) : Prop where
  tk : St.TK w' v n z
  b : ∀ k, v.ownBlock = some k → X.heap.size ≤ k ∧ k < w'.heap.size
  bel : Below X.heap.size X w'
theorem clone_any {w : World} {v : Value} {n : Nat} {z : Nat → Nat → Int} (h : St.TK w v n z) (hn : n ≤ 1000) : Calls Tryz.prog 38 #[v] w (fun e w' => ∃ a c, e = .returned (.slice a n c) ∧ CL w w' n z (.slice a n c)) := by
  have qT : ∀ (w : World) (a : Option Addr) (n c n' c' : Nat), (binOp .eql 22 (.slice a n c) (.slice none n' c')).run Tryz.prog w = .ok (.bool a.isNone) w := fun w a n c n' c' => Lib.run_eql_slice_nil w _ _ a n c n' c' Tryz.underlying22
  obtain ⟨a, cap, rfl, hn1, hn2⟩ := h.slice
  cases a with
  | none =>
    have hc0 : cap = 0 := by obtain ⟨a', c', e, _, _, h4, _⟩ := h; injection e with e1 e2 e3; subst e1; subst e3; exact h4 rfl
    have h0 : n = 0 := by omega
    subst h0
    have HF : Hid (CL w w 0 z (.slice none 0 0)) := ⟨St.TK.nil w z, fun k hk => by simp [Value.ownBlock] at hk, Below.refl _ _⟩
    clear h
    go_enter Tryz.func38, Tryz.ntmps38
    go_wp2_with fail
    go_ret
    exact ⟨none, 0, rfl, HF.out⟩
  | some ad =>
    have hA := below_al w (.cells #[] 55)
    obtain ⟨v', w2, hrun, htk, hb2, ⟨ad2, c, rfl⟩, hob⟩ := St.app_tlit (g := w.heap.size) (h.below hA) (by omega) 22
    have hs2 := hb2.size
    rw [World.size_alloc] at hs2
    have HF : Hid (CL w w2 n z (.slice (some ad2) n c)) := ⟨htk, fun k hk => by
      rcases hob k hk with y | y
      · omega
      · rw [World.size_alloc] at y; omega, hA.trans (hb2.mono (by rw [World.size_alloc]; omega))⟩
    have HRUN := Lib.hid hrun
    clear h hA hrun htk hb2 hob hs2
    go_enter Tryz.func38, Tryz.ntmps38
    go_wp2_with (at_builtin; refine St.wpList_append_eq rfl _ _ 22 22 rfl _ _ _ _ rfl rfl HRUN.out ?_)
    go_ret
    exact ⟨_, _, rfl, HF.out⟩
/-- the labels of a room that was made: by where it lies -/
def nlab (a1 a2 a3 b1 b2 c1 c2 d rb : Nat) (gb : Nat) (ga : Nat → Nat) (n : Nat) (k : Nat) : Nat :=
  if a1 ≤ k ∧ k < a2 then 2 else if a2 ≤ k ∧ k < a3 then 3 else if b1 ≤ k ∧ k < b2 then 4 else if c1 ≤ k ∧ k < c2 then (if 0 < n ∧ k = gb then 5 else if 0 < n ∧ k = ga 0 then 7 else if 1 < n ∧ k = ga 1 then 9 else if 2 < n ∧ k = ga 2 then 11 else if 3 < n ∧ k = ga 3 then 13 else 0)
  else if k = d then 6 else if k = rb then 1 else 0
theorem made_new {w0 W : World} {n : Nat} {z : Nat → Nat → Int} {sb qb rk hb g a1 a2 a3 b1 b2 c1 c2 d : Nat} {sv tvv gv : Value} {gb : Nat} {ga : Nat → Nat} (hn : n ≤ 4)
    (so : St.SO W sb n z [] sv (.slice none 0 0)) (q1 : a1 ≤ sb ∧ sb < a2) (q2 : ∀ k, sv.ownBlock = some k → a1 ≤ k ∧ k < a2)
    (qs : Rq.QS W qb rk hb g (Rq.Rd.noL n)) (q3 : (a2 ≤ qb ∧ qb < a3) ∧ (a2 ≤ rk ∧ rk < a3) ∧ (a2 ≤ hb ∧ hb < a3) ∧ (a2 ≤ g ∧ g < a3))
    (tk : St.TK W tvv n z) (q4 : ∀ k, tvv.ownBlock = some k → b1 ≤ k ∧ k < b2)
    (gf : 0 < n → ∃ c, gv = .slice (some ⟨gb, 0, none⟩) n c) (gs : ∀ i, i < n → W.cell? ⟨gb, i, none⟩ = some (.pointer (some ⟨ga i, 0, none⟩))) (gd : ∀ i, i < n → Sg.PG W (ga i) (z i 0) 0)
    (q5 : 0 < n → c1 ≤ gb ∧ gb < c2) (q6 : ∀ i, i < n → c1 ≤ ga i ∧ ga i < c2 ∧ ga i ≠ gb) (q7 : ∀ i j, i < j → j < n → ga i < ga j)
    (jo : W.heap[d]? = some (.cells (madeCells #[.pointer none] n) 106 (0, 0)))
    (o0 : w0.heap.size ≤ a1) (o1 : a1 ≤ a2 ∧ a2 ≤ a3) (o2 : a3 ≤ b1 ∧ b1 ≤ b2 ∧ b2 ≤ c1 ∧ c1 ≤ c2 ∧ c2 ≤ W.heap.size) (o3 : a3 ≤ d ∧ d < W.heap.size) (o4 : d < b1 ∨ (b2 ≤ d ∧ d < c1) ∨ c2 ≤ d) (bel : Below w0.heap.size w0 W) :
    RNew JJ (noRm n z) w0 (.returned (.tuple #[.pointer (some ⟨W.heap.size, 0, none⟩), .int .i64 0])) (W.alloc (.cells #[.pointer (some ⟨sb, 0, none⟩), .pointer (some ⟨qb, 0, none⟩), tvv, gv, .slice (some ⟨d, 0, none⟩) n n] 74)) := by
  have hB := below_al W (.cells #[.pointer (some ⟨sb, 0, none⟩), .pointer (some ⟨qb, 0, none⟩), tvv, gv, .slice (some ⟨d, 0, none⟩) n n] 74)
  have hsz : (W.alloc (.cells #[.pointer (some ⟨sb, 0, none⟩), .pointer (some ⟨qb, 0, none⟩), tvv, gv, .slice (some ⟨d, 0, none⟩) n n] 74)).heap.size = W.heap.size + 1 := World.size_alloc ..
  have hob := heap_alloc_new W (.cells #[.pointer (some ⟨sb, 0, none⟩), .pointer (some ⟨qb, 0, none⟩), tvv, gv, .slice (some ⟨d, 0, none⟩) n n] 74)
  obtain ⟨q31, q32, q33, q34⟩ := q3
  obtain ⟨lab, hlab⟩ : ∃ lab, lab = nlab a1 a2 a3 b1 b2 c1 c2 d W.heap.size gb ga n := ⟨_, rfl⟩
  have hin : ∀ k, lab k ≠ 0 → w0.heap.size ≤ k ∧ k < W.heap.size + 1 := fun k hk => by
    rw [hlab] at hk
    unfold nlab at hk
    split at hk
    · omega
    split at hk
    · omega
    split at hk
    · omega
    split at hk
    · omega
    split at hk
    · omega
    split at hk
    · omega
    · exact absurd rfl hk
  generalize W.alloc (.cells #[.pointer (some ⟨sb, 0, none⟩), .pointer (some ⟨qb, 0, none⟩), tvv, gv, .slice (some ⟨d, 0, none⟩) n n] 74) = W2 at *
  refine ⟨W.heap.size, fun k => lab k ≠ 0, rfl, ⟨⟨sb, sv, .slice none 0 0, qb, rk, hb, g, tvv, gv, gb, ga, d, fun _ => false, fun _ => 0, fun _ => 0, fun _ => 0, lab⟩, ⟨hob, so.below hB, qs.below hB, tk.below hB, gf, fun i hi => (hB.cell (lt_of_cell (gs i hi))).trans (gs i hi), ?_, fun i hi => (gd i hi).keep (hB.block _ (gd i hi).lt), (fun i hi hp => by cases hp), ?_, ?_, ⟨?_, ?_, ?_, ?_⟩, ?_, ?_, ?_, ?_, (fun i hi hp => by cases hp), ?_⟩, ?_, fun _ => Iff.rfl⟩, fun k hk => (hin k hk).1, ?_⟩
  · have := (hB.block d o3.2).trans jo
    rw [this]
    have e : madeCells #[Value.pointer none] n = jcl n (fun _ => .pointer none) := by
      apply Array.ext'
      rw [toList_madeCells_one]
      unfold jcl
      show List.replicate n (Value.pointer none) = List.map (fun _ => Value.pointer none) (List.range n)
      rw [List.map_const', List.length_range]
    show some (Obj.cells (madeCells #[Value.pointer none] n) _ _) = some (Obj.cells (jcl n _) _ _)
    rw [e]
    rfl
  · show lab W.heap.size = 1
    rw [hlab]; unfold nlab
    rw [if_neg (by omega), if_neg (by omega), if_neg (by omega), if_neg (by omega), if_neg (by omega), if_pos rfl]
  · intro k hk
    have : a1 ≤ k ∧ k < a2 := by
      rcases hk with (e | e) | e
      · rw [e]; exact q1
      · simp [Value.ownBlock] at e
      · exact q2 k e
    show lab k = 2
    rw [hlab]; unfold nlab
    rw [if_pos this]
  · show lab qb = 3
    rw [hlab]; unfold nlab
    rw [if_neg (by omega), if_pos q31]
  · show lab rk = 3
    rw [hlab]; unfold nlab
    rw [if_neg (by omega), if_pos q32]
  · show lab hb = 3
    rw [hlab]; unfold nlab
    rw [if_neg (by omega), if_pos q33]
  · show lab g = 3
    rw [hlab]; unfold nlab
    rw [if_neg (by omega), if_pos q34]
  · intro _ k hk
    have := q4 k hk
    show lab k = 4
    rw [hlab]; unfold nlab
    rw [if_neg (by omega), if_neg (by omega), if_pos this]
  · intro h0
    have := q5 h0
    show lab gb = 5
    rw [hlab]; unfold nlab
    rw [if_neg (by omega), if_neg (by omega), if_neg (by omega), if_pos this]
    have h0' : 0 < n := h0
    rw [if_pos ⟨h0', rfl⟩]
  · show lab d = 6
    rw [hlab]; unfold nlab
    rw [if_neg (by omega), if_neg (by omega), if_neg (by omega), if_neg (by omega), if_pos rfl]
  · intro i hi
    have hi' : i < n := hi
    have h6 := q6 i hi'
    show lab (ga i) = 7 + 2 * i
    rw [hlab]; unfold nlab
    rw [if_neg (by omega), if_neg (by omega), if_neg (by omega), if_pos ⟨h6.1, h6.2.1⟩, if_neg (by omega)]
    rcases (show i = 0 ∨ i = 1 ∨ i = 2 ∨ i = 3 by omega) with rfl | rfl | rfl | rfl
    · rw [if_pos ⟨hi', rfl⟩]
    · have := q7 0 1 (by omega) hi'
      rw [if_neg (by omega), if_pos ⟨hi', rfl⟩]
    · have := q7 0 2 (by omega) hi'
      have := q7 1 2 (by omega) hi'
      rw [if_neg (by omega), if_neg (by omega), if_pos ⟨hi', rfl⟩]
    · have := q7 0 3 (by omega) hi'
      have := q7 1 3 (by omega) hi'
      have := q7 2 3 (by omega) hi'
      rw [if_neg (by omega), if_neg (by omega), if_neg (by omega), if_pos ⟨hi', rfl⟩]
  · intro k hk
    have := (hin k hk).2
    rw [hsz]; exact this
  · intro i hi
    have e : (noRm n z).dl i = -1 := Rq.Rd.no_dl n i
    show false = decide (0 ≤ (noRm n z).dl i)
    rw [e]
    rfl
  · exact bel.trans (hB.mono bel.size)
theorem zeros_is {w : World} {g n : Nat} (h : w.heap[g]? = some (.cells (madeCells #[.int .i64 0] n) 3 (0, 0))) (hn : n ≤ 4) : Dm.IS w (.slice (some ⟨g, 0, none⟩) n n) (List.replicate n 0) := by
  refine ⟨some ⟨g, 0, none⟩, n, by rw [List.length_replicate], by rw [List.length_replicate]; exact Nat.le_refl _, by unfold maxLen; omega, (fun e => by cases e), fun _ => ⟨g, 0, rfl, fun i hi => ?_⟩⟩
  rw [List.length_replicate] at hi
  rw [Nat.zero_add, cell_of_row _ _ i _ _ _ h, ← Array.getElem?_toList, toList_madeCells_one, List.getElem?_replicate, if_pos hi, List.getD_eq_getElem?_getD, List.getElem?_replicate, if_pos hi]
  rfl
theorem zeros_more (n : Nat) : Dm.De.moreOK (List.replicate n 0) = true := by
  unfold Dm.De.moreOK
  rw [List.all_eq_true]
  intro x hx
  rw [(List.mem_replicate.1 hx).2]
  rfl
theorem allT_of {z : Nat → Nat → Int} : ∀ {n : Nat}, (∀ i, i < n → Jo.tok (z i) = true) → Dm.De.allT z n = true
  | 0, _ => rfl
  | n + 1, h => by
    unfold Dm.De.allT
    rw [allT_of (n := n) (fun i hi => h i (by omega)), Bool.true_and]
    exact h n (by omega)
theorem chk_yes {n : Nat} {z : Nat → Nat → Int} (hn : n ≤ 4) (h : ∀ i, i < n → Jo.tok (z i) = true) : Dm.De.chkE n z (List.replicate n 0) = 0 := by
  unfold Dm.De.chkE Dm.De.chk Dm.De.tasksOK
  rw [zeros_more, allT_of h, List.length_replicate]
  simp [hn]
theorem chk_no {n k : Nat} {z : Nat → Nat → Int} (h : 4 < n ∨ ∃ i, i < n ∧ Jo.tok (z i) = false) : Dm.De.chkE n z (List.replicate k 0) = 2 := by
  unfold Dm.De.chkE
  rw [if_neg]
  intro y
  unfold Dm.De.chk Dm.De.tasksOK at y
  simp only [Bool.and_eq_true, decide_eq_true_eq] at y
  rcases h with h | ⟨i, hi, h⟩
  · omega
  · have := Dm.De.allT_at y.1.1.2 hi
    rw [show Dm.De.tOK (z i) = Jo.tok (z i) from rfl, h] at this
    cases this
set_option maxHeartbeats 2000000 in
theorem new_no {w : World} {v : Value} {n : Nat} {z : Nat → Nat → Int} (h : St.TK w v n z) (hq : 4 < n ∨ ∃ i, i < n ∧ Jo.tok (z i) = false) : Calls Tryz.prog 7 #[v] w (NoP 2 w) := by
  obtain ⟨a, cap, rfl, hn1, hn2⟩ := h.slice
  obtain ⟨k, hk⟩ : ∃ k : Nat, k = min n 4 := ⟨_, rfl⟩
  have hmin : min (n : Int) 4 = (k : Int) := by omega
  have hk4 : k ≤ 4 := by omega
  have hmk := run_make_row' (P := Tryz.prog) 41 3 (.int .i64 0) 8 Tryz.underlying41 infoI3 rfl .i64 .i64 k (by omega) (by omega)
  have hb := below_al w (.cells (madeCells #[.int .i64 0] k) 3)
  have HC := Dm.check_any (v := .slice a n cap) (z := z) (n := n) (h.below hb) (zeros_is (heap_alloc_new w (.cells (madeCells #[.int .i64 0] k) 3)) hk4)
  rw [chk_no hq] at HC
  have HC := Lib.hid HC
  have HB := Lib.hid hb
  clear h hq hk hb
  go_enter Tryz.func7, Tryz.ntmps7
  go_wp2_with fail
  refine HC.out.mono ?_
  rintro e w1 ⟨rfl, hb⟩
  have HB1 := Lib.hid (chn HB.out hb)
  clear hb HC HB
  go_wp2_with fail
  go_ret2
  exact ⟨rfl, HB1.out⟩
/-- what was made ahead of the last statement, there still -/
structure ND (w0 w3 : World) (n : Nat) (z : Nat → Nat → Int) (sb : Nat) (sv : Value) (qb rk hb g a1 a2 : Nat) : Prop where
  so : St.SO w3 sb n z [] sv (.slice none 0 0)
  q1 : a1 ≤ sb ∧ sb < a2
  q2 : ∀ k, sv.ownBlock = some k → a1 ≤ k ∧ k < a2
  qs : Rq.QS w3 qb rk hb g (Rq.Rd.noL n)
  q3 : (a2 ≤ qb ∧ qb < w3.heap.size) ∧ (a2 ≤ rk ∧ rk < w3.heap.size) ∧ (a2 ≤ hb ∧ hb < w3.heap.size) ∧ (a2 ≤ g ∧ g < w3.heap.size)
  o0 : w0.heap.size ≤ a1
  o1 : a1 ≤ a2 ∧ a2 ≤ w3.heap.size
  bel : Below w0.heap.size w0 w3
theorem ND.fin {w0 w3 W X Y wA wB : World} {n : Nat} {z : Nat → Nat → Int} {sb : Nat} {sv tvv gv : Value} {qb rk hb g a1 a2 gb d : Nat} {ga : Nat → Nat} (hn : n ≤ 4) (h : ND w0 w3 n z sb sv qb rk hb g a1 a2)
    (c : CL X wA n z tvv) (u : GU Y wB n z gv gb ga) (x1 : w3.heap.size ≤ X.heap.size) (x2 : Below wA.heap.size wA Y) (x3 : Below wB.heap.size wB W) (x4 : Below w3.heap.size w3 W) (jo : W.heap[d]? = some (.cells (madeCells #[.pointer none] n) 106 (0, 0))) (o3 : w3.heap.size ≤ d)
    (o4 : d < X.heap.size ∨ (wA.heap.size ≤ d ∧ d < Y.heap.size) ∨ wB.heap.size ≤ d) :
    RNew JJ (noRm n z) w0 (.returned (.tuple #[.pointer (some ⟨W.heap.size, 0, none⟩), .int .i64 0])) (W.alloc (.cells #[.pointer (some ⟨sb, 0, none⟩), .pointer (some ⟨qb, 0, none⟩), tvv, gv, .slice (some ⟨d, 0, none⟩) n n] 74)) := by
  have s1 := c.bel.size
  have s2 := x2.size
  have s3 := u.bel.size
  have s4 := x3.size
  have hAW : Below wA.heap.size wA W := (x2.trans (u.bel.mono s2)).trans (x3.mono (by omega))
  exact made_new (a1 := a1) (a2 := a2) (a3 := w3.heap.size) (b1 := X.heap.size) (b2 := wA.heap.size) (c1 := Y.heap.size) (c2 := wB.heap.size) hn (h.so.below x4) h.q1 h.q2 (h.qs.below x4) h.q3 (c.tk.below hAW) c.b u.gf (fun i hi => (x3.cell (lt_of_cell (u.gs i hi))).trans (u.gs i hi)) (fun i hi => (u.gd i hi).keep (x3.block _ (u.gd i hi).lt)) u.b1 u.b2 u.b3 jo h.o0 h.o1 ⟨x1, by omega, by omega, by omega, by omega⟩ ⟨o3, lt_of_block jo⟩ o4 (h.bel.trans (x4.mono h.bel.size))
theorem jo_drew {w : World} {d n : Nat} (h : w.heap[d]? = some (.cells (madeCells #[.pointer none] n) 106 (0, 0))) : w.drew.heap[d]? = some (.cells (madeCells #[.pointer none] n) 106 (0, 0)) := h
theorem jo_keep {w W : World} {d n : Nat} (h : w.heap[d]? = some (.cells (madeCells #[.pointer none] n) 106 (0, 0))) (q : Below w.heap.size w W) : W.heap[d]? = some (.cells (madeCells #[.pointer none] n) 106 (0, 0)) := (q.block d (lt_of_block h)).trans h
set_option maxHeartbeats 4000000 in
theorem new_ok {w : World} {v : Value} {n : Nat} {z : Nat → Nat → Int} (h : St.TK w v n z) (hn : n ≤ 4) (hz : ∀ i, i < n → Jo.tok (z i) = true) : Calls Tryz.prog 7 #[v] w (RNew JJ (noRm n z) w) := by
  obtain ⟨a, cap, rfl, hn1, hn2⟩ := h.slice
  have hmin : min (n : Int) 4 = (n : Int) := by omega
  have hmk := run_make_row' (P := Tryz.prog) 41 3 (.int .i64 0) 8 Tryz.underlying41 infoI3 rfl .i64 .i64 n (by omega) (by omega)
  have hmj := run_make_row' (P := Tryz.prog) 72 106 (.pointer none) 8 Tryz.underlying72 infoPj rfl .i64 .i64 n (by omega) (by omega)
  have hb := below_al w (.cells (madeCells #[.int .i64 0] n) 3)
  have HC := Dm.check_any (v := .slice a n cap) (z := z) (n := n) (h.below hb) (zeros_is (heap_alloc_new w (.cells (madeCells #[.int .i64 0] n) 3)) hn)
  rw [chk_yes hn hz] at HC
  have HC := Lib.hid HC
  have HB := Lib.hid hb
  have HT := Lib.hid h
  have HN := Lib.hid hn
  have HCL : Hid (∀ w3 X, Below w.heap.size w w3 → Below w3.heap.size w3 X → Calls Tryz.prog 38 #[.slice a n cap] X (fun e w' => ∃ a1 c1, e = .returned (.slice a1 n c1) ∧ CL X w' n z (.slice a1 n c1) ∧ Below w3.heap.size w3 w')) := fun w3 X h1 h2 => by
    refine (clone_any ((h.below h1).below h2) (by omega)).mono ?_
    rintro e w' ⟨a1, c1, rfl, q⟩
    exact ⟨a1, c1, rfl, q, chn h2 q.bel⟩
  have HGU : Hid (∀ w3 X, Below w.heap.size w w3 → Below w3.heap.size w3 X → Calls Tryz.prog 39 #[.slice a n cap] X (fun e w' => ∃ a1 c1 gb ga, e = .returned (.slice a1 n c1) ∧ GU X w' n z (.slice a1 n c1) gb ga ∧ Below w3.heap.size w3 w')) := fun w3 X h1 h2 => by
    refine (guards_any ((h.below h1).below h2) hn hz).mono ?_
    rintro e w' ⟨gv, gb, ga, rfl, q⟩
    obtain ⟨a1, c1, rfl⟩ := q.sl
    exact ⟨a1, c1, gb, ga, rfl, q, chn h2 q.bel⟩
  clear h hz hb
  go_enter Tryz.func7, Tryz.ntmps7
  go_wp2_with fail
  refine HC.out.mono ?_
  rintro e w1 ⟨rfl, hb⟩
  have HB1 := Lib.hid (chn HB.out hb)
  clear hb HC HB
  go_wp2_with fail
  refine (St.new_any (HT.out.below HB1.out)).mono ?_
  intro e w2 hq
  unfold St.NewP at hq
  rw [if_pos HN.out] at hq
  obtain ⟨sb, sv, rfl, so, hb2, sb1, sv1⟩ := hq
  have HSO := Lib.hid so
  have HB2 := Lib.hid (chn HB1.out hb2)
  have HS12 : Hid (w1.heap.size ≤ w2.heap.size) := hb2.size
  have HSB := Lib.hid sb1
  have HSV := Lib.hid sv1
  clear so hb2 sb1 sv1
  go_wp2_with fail
  refine (Rq.qnew_yes w2 HN.out).mono ?_
  rintro e w3 ⟨qb, rk, hb, g, rfl, qs, ⟨l1, l2, l3, l4⟩, hb3⟩
  have HND : Hid (ND w w3 n z sb sv qb rk hb g w1.heap.size w2.heap.size) :=
    ⟨HSO.out.below hb3, ⟨HSB.out, lt_of_block HSO.out.ob⟩, fun k hk => ⟨HSV.out k hk, (HSO.out.tb k hk).2⟩, qs, ⟨⟨l1, qs.lt⟩, ⟨l2, qs.k.lt0⟩, ⟨l3, qs.k.lt1⟩, ⟨l4, qs.k.lt2⟩⟩, HB1.out.size, ⟨HS12.out, hb3.size⟩, chn HB2.out hb3⟩
  have HB3 : Hid (Below w.heap.size w w3) := chn HB2.out hb3
  clear qs l1 l2 l3 l4 hb3 HSO HB2 HS12 HSB HSV
  go_wp2_with fail
  have HS0 := Lib.hid (Below.refl w3.heap.size w3)
  go_region_held3 (fun w' => Below w3.heap.size w3 w')
    (first | assumption | exact HS0.out | exact HS0.out.drew | exact Below.alloc (by assumption) (by assumption |> Below.size) _ | go_keep)
    (first | (go_at_call 38; refine (HCL.out w3 _ HB3.out (by assumption)).mono ?_; rintro e wA ⟨aA, cA, rfl, hcl, hkA⟩)
           | (go_at_call 39; refine (HGU.out w3 _ HB3.out (by assumption)).mono ?_; rintro e wB ⟨aB, cB, gb, ga, rfl, hgu, hkB⟩))
  all_goals
    rename_i hHeld
    clear hHeld hmk hmj hmin HCL HGU HC HT HB1 HS0
    go_wp2_with fail
    go_ret2
    first
      | exact (ND.fin HN.out HND.out hcl hgu (Nat.le_refl _) (below_al wA _) (Below.refl _ _) hkB (jo_keep (heap_alloc_new wA _) hgu.bel) hkA.size (Or.inr (Or.inl ⟨Nat.le_refl _, by rw [World.size_alloc]; omega⟩)))
      | exact (ND.fin HN.out HND.out hcl hgu (by show w3.heap.size ≤ (w3.alloc _).heap.size; rw [World.size_alloc]; omega) (Below.refl _ _) (Below.refl _ _) hkB (jo_keep (jo_keep (jo_drew (heap_alloc_new w3 _)) hcl.bel) hgu.bel) (Nat.le_refl _) (Or.inl (by show w3.heap.size < (w3.alloc _).heap.size; rw [World.size_alloc]; omega)))
      | (have q := ND.fin HN.out HND.out hcl hgu (Nat.le_refl _) (Below.refl _ _) (below_al wB _) (hkB.alloc hkB.size _) (heap_alloc_new wB _) hkB.size (Or.inr (Or.inr (Nat.le_refl _)))
         rw [World.size_alloc] at q
         exact q)
end Go.Proofs.YtkkmfpllgjoceaaGreat.Ro
