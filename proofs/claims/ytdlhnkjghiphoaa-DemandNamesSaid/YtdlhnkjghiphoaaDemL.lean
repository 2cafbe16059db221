/- DemandNames: both ends, what is refused. -/
import Derived.Test.YtdlhnkjghiphoaaDemN
import Derived.Test.YtdlhnkjghiphoaaDemS
namespace Go.Proofs.Ytdlhnkjghiphoaa
open Go.RowKit Tk De
set_option linter.unusedVariables false

def badl : List (List Int) := [[0, 0, 0, 0, 0, 0, 0, 0], [65, 1, 1, 0, 0, 0, 0, 0], [5, 6, 1, 0, 0, 0, 0, 0], [5, 5, 6, 0, 0, 0, 0, 0], [5, 5, 0, 0, 0, 0, 0, 0], [5, 0, 1, 0, 0, 0, 0, 0]]
def badz (j : Nat) : Nat → Nat → Int := fun _ c => lz badl j c
theorem bad_of : ∀ j : Nat, j < 6 → ofR 1 (badz j) [0] 1 = (0, 2) := by decide +kernel
theorem bad_hy : ∀ j : Nat, j < 6 → hyR 1 (badz j) 1 = (0, 2) := by decide +kernel
theorem bad_ck : ∀ j : Nat, j < 6 → chkE 1 (badz j) [0] = 2 := by decide +kernel
theorem TK.one {w : World} {g cap n : Nat} {z : Nat → Nat → Int} (h : TK w (.slice (some ⟨g, 0, none⟩) n cap) n z) {i : Nat} (hi : i < n) : TK w (.slice (some ⟨g, i * 8, none⟩) 1 (cap - i)) 1 (fun _ j => z i j) := by
  obtain ⟨a', cap', e, h1, h2, h3, h4⟩ := h
  obtain ⟨e1, rfl⟩ : some ⟨g, 0, none⟩ = a' ∧ cap = cap' := by simpa using e
  obtain ⟨b, off, e2, hc⟩ := h4 (by omega)
  rw [← e1] at e2
  injection e2 with e2
  injection e2 with e3 e4 _
  subst e3; subst e4
  refine ⟨_, _, rfl, by omega, by omega, (fun h => by cases h), fun _ => ⟨g, i * 8, rfl, fun k hk j hj => ?_⟩⟩
  obtain rfl : k = 0 := by omega
  have := hc i hi j hj
  rw [Nat.zero_add] at this
  rw [Nat.zero_mul, Nat.add_zero]
  exact this
/-- four tasks, five -/
def fz : Nat → Nat → Int := fun _ _ => 63
def fourv : Value := .agg #[.int .i64 64, .int .i64 64, .int .i64 64, .int .i64 0, .int .i64 0, .int .i64 0, .int .i64 0, .int .i64 0]
/-- what stands behind the loop: the task, four of it -/
def fourl : List (List Int) := [[64, 64, 64, 0, 0, 0, 0, 0], [64, 64, 64, 0, 0, 0, 0, 0], [64, 64, 64, 0, 0, 0, 0, 0], [64, 64, 64, 0, 0, 0, 0, 0]]
theorem fourl_at : ∀ i : Nat, i < 4 → ∀ j : Nat, j < 8 → lz fourl i j = mz fz i j := by decide +kernel
theorem TK.congr {w : World} {v : Value} {n : Nat} {z z' : Nat → Nat → Int} (h : TK w v n z) (he : ∀ i, i < n → ∀ j, j < 8 → z i j = z' i j) : TK w v n z' := by
  obtain ⟨a, cap, h1, h2, h3, h4, h5⟩ := h
  exact ⟨a, cap, h1, h2, h3, h4, fun hn => by obtain ⟨b, off, e, hc⟩ := h5 hn; exact ⟨b, off, e, fun i hi j hj => (hc i hi j hj).trans (by rw [he i hi j hj])⟩⟩
theorem row4 : mrow fz 4 = [.int .i64 64, .int .i64 64, .int .i64 64, .int .i64 0, .int .i64 0, .int .i64 0, .int .i64 0, .int .i64 0] := by kernel_rfl
def S5 (W w : World) (o : Nat) : Prop := w.cell? ⟨o, 0, none⟩ = some (.int .i64 64) ∧ w.cell? ⟨o, 1, none⟩ = some (.int .i64 64) ∧ w.cell? ⟨o, 2, none⟩ = some (.int .i64 64) ∧ w.cell? ⟨o, 3, none⟩ = some (.int .i64 0) ∧ w.cell? ⟨o, 4, none⟩ = some (.int .i64 0) ∧ w.cell? ⟨o, 5, none⟩ = some (.int .i64 0) ∧ w.cell? ⟨o, 6, none⟩ = some (.int .i64 0) ∧ w.cell? ⟨o, 7, none⟩ = some (.int .i64 0) ∧ Below W.heap.size W w
theorem S5.b {W w : World} {o : Nat} (h : S5 W w o) : Below W.heap.size W w := h.2.2.2.2.2.2.2.2
theorem S5.below {W w w' : World} {o : Nat} (h : S5 W w o) (q : Below w.heap.size w w') : S5 W w' o := by
  obtain ⟨c0, c1, c2, c3, c4, c5, c6, c7, hb⟩ := h
  exact ⟨(q.cell (World.block_lt_of_cell? _ _ c0)).trans c0, (q.cell (World.block_lt_of_cell? _ _ c1)).trans c1, (q.cell (World.block_lt_of_cell? _ _ c2)).trans c2, (q.cell (World.block_lt_of_cell? _ _ c3)).trans c3, (q.cell (World.block_lt_of_cell? _ _ c4)).trans c4, (q.cell (World.block_lt_of_cell? _ _ c5)).trans c5, (q.cell (World.block_lt_of_cell? _ _ c6)).trans c6, (q.cell (World.block_lt_of_cell? _ _ c7)).trans c7, chn hb q⟩
theorem S5.drew {W w : World} {o : Nat} (h : S5 W w o) : S5 W w.drew o := ⟨h.1, h.2.1, h.2.2.1, h.2.2.2.1, h.2.2.2.2.1, h.2.2.2.2.2.1, h.2.2.2.2.2.2.1, h.2.2.2.2.2.2.2.1, h.b.drew⟩
theorem S5.alloc {W w : World} {o : Nat} (h : S5 W w o) (x : Obj) : S5 W (w.alloc x) o := h.below ((Below.refl _ w).alloc (Nat.le_refl _) x)
theorem IS.alloc {w : World} {v : Value} {xs : List Int} (h : IS w v xs) (o : Obj) : IS (w.alloc o) v xs := h.below ((Below.refl _ w).alloc (Nat.le_refl _) o)
theorem cells_keep {w : World} {a : Addr} {l : List Value} (h : ∀ (j : Nat) (u : Value), l[j]? = some u → w.cell? (a.add j) = some u) (o : Obj) : ∀ (j : Nat) (u : Value), l[j]? = some u → (w.alloc o).cell? (a.add j) = some u := fun j u hj =>
  (((Below.refl _ w).alloc (Nat.le_refl _) o).cell (World.block_lt_of_cell? _ _ (h j u hj))).trans (h j u hj)
/-- a fifth task, behind four that lie in a row without room -/
theorem app_task {w : World} {f ab : Nat} (ty : TypeId) (hT : TK w (.slice (some ⟨f, 0, none⟩) 4 4) 4 (lz fourl))
    (hc : ∀ (j : Nat) (u : Value), ([.int .i64 64, .int .i64 64, .int .i64 64, .int .i64 0, .int .i64 0, .int .i64 0, .int .i64 0, .int .i64 0] : List Value)[j]? = some u → w.cell? ((⟨ab, 0, none⟩ : Addr).add j) = some u) :
    ∃ v' w', (Builtin.append_ #[22, 22] ty #[.slice (some ⟨f, 0, none⟩) 4 4, .slice (some ⟨ab, 0, none⟩) 1 1]).run Try.prog w = .ok v' w' ∧ TK w' v' 5 (mz fz) ∧ Below w.heap.size w w' := by
  obtain ⟨i0, hi, hz0, hz1, hz2⟩ := info_parts infoTk
  have holds : ∀ (j : Nat) (u : Value), (mflat fz 4)[j]? = some u → w.cell? ((⟨f, 0, none⟩ : Addr).add j) = some u := by
    intro j u hj
    have hl : j < (mflat fz 4).length := by
      by_cases h : j < (mflat fz 4).length
      · exact h
      · rw [List.getElem?_eq_none (by omega)] at hj; cases hj
    rw [mflat_len] at hl
    have h1 := mflat_at fz (show j / 8 < 4 by omega) (j % 8) (Nat.mod_lt _ (by decide))
    rw [show j / 8 * 8 + j % 8 = j by omega, hj] at h1
    obtain ⟨b, off, e, c⟩ := hT.at (i := j / 8) (by omega)
    injection e with e
    injection e with e1 e2 _
    subst e1; subst e2
    obtain ⟨a', cap', e, _, _, _, h4⟩ := hT
    obtain ⟨b, off, e2, hcc⟩ := h4 (by omega)
    have e3 : some ⟨f, 0, none⟩ = a' := by simpa using congrArg (fun v => match v with | .slice a _ _ => a | _ => none) e
    rw [← e3] at e2
    injection e2 with e2
    injection e2 with e4 e5 _
    subst e4; subst e5
    have h2 := hcc (j / 8) (by omega) (j % 8) (Nat.mod_lt _ (by decide))
    rw [fourl_at _ (by omega) _ (Nat.mod_lt _ (by decide))] at h2
    rw [Addr.add_lit, h1, show 0 + j = 0 + j / 8 * 8 + j % 8 by omega]
    exact h2
  obtain ⟨v', w', hrun, hown, hgr⟩ := run_append_arg_grows (P := Try.prog) w 22 ty 36 i0 _ 8 64 Try.underlying22 hi hz0 hz1 hz2 rfl (by decide) ⟨f, 0, none⟩ 4 4 (mflat fz 4) (mflat_len fz 4) holds ⟨ab, 0, none⟩ 1 1 [.int .i64 64, .int .i64 64, .int .i64 64, .int .i64 0, .int .i64 0, .int .i64 0, .int .i64 0, .int .i64 0] rfl hc (by decide) (by decide) (by decide)
  refine ⟨v', w', hrun, ?_, (Below.refl _ w).grown hgr (Nat.le_refl _) (fun k hk => by cases hk)⟩
  rw [← row4] at hown
  exact tk_of_own hown
theorem step_task {ops : Array Oper} {o : Oper} {a : Act} {w : World} {K : Act → World → Prop} {Q : Exit → Act → World → Prop} {E : Prop} {f ab : Nat}
    (hg : o.guard = none) (s x : Operand) (hop : o.op = Op.call { callee := Callee.builtin Builtin.append, args := #[s, x], argTypes := #[22, 22] })
    (hs : a.eval s = .slice (some ⟨f, 0, none⟩) 4 4) (hx : a.eval x = .slice (some ⟨ab, 0, none⟩) 1 1) (hT : TK w (.slice (some ⟨f, 0, none⟩) 4 4) 4 (lz fourl))
    (hc : ∀ (j : Nat) (u : Value), ([.int .i64 64, .int .i64 64, .int .i64 64, .int .i64 0, .int .i64 0, .int .i64 0, .int .i64 0, .int .i64 0] : List Value)[j]? = some u → w.cell? ((⟨ab, 0, none⟩ : Addr).add j) = some u)
    (hK : ∀ v' w', TK w' v' 5 (mz fz) → Below w.heap.size w w' → K (a.put o.dst v') w') :
    if Region.wanted o (yielded ops a.tmps) = true then Oper.wp Try.prog o a w K Q else E := by
  obtain ⟨v', w', hrun, h1, h2⟩ := app_task (f := f) (ab := ab) o.type hT hc
  exact step_append_eq hg s x _ hop _ _ v' hs hx hrun (hK v' w' h1 h2)
theorem of_S5 {W w : World} {q : Nat} {v u : Value} {n : Nat} {z : Nat → Nat → Int} {xs : List Int} {t m e : Int} (hr : ofR n z xs t = (m, e)) (hs : S5 W w q) (h : TK w v n z) (hx : IS w u xs) :
    Calls Try.prog 9 #[v, u, .int .i64 t] w (fun en w' => en = .returned (.tuple #[.int .i64 m, .int .i64 e]) ∧ S5 W w' q) :=
  (of_fit hr h hx).mono fun _ _ ⟨he, hb⟩ => ⟨he, hs.below hb⟩
theorem k_five : ofR 5 (mz fz) [0, 0, 0, 0, 0] 1 = (0, 2) := by decide +kernel
theorem k_n1 : ofR 4 (lz fourl) [0, 0, 0, 4097] 1 = (0, 2) := by decide +kernel
theorem k_n2 : ofR 4 (lz fourl) [0, 0, 0, -1] 1 = (0, 2) := by decide +kernel
theorem k_n3 : ofR 4 (lz fourl) [0, 0, 0, 4096] 64 = (4352, 0) := by decide +kernel
theorem k_n4 : ofR 4 (lz fourl) [0, 0, 0, 0] 1048577 = (0, 2) := by decide +kernel
theorem k_n5 : ofR 4 (lz fourl) [0, 0, 0, 0] 1048576 = (4194304, 0) := by decide +kernel
theorem k_n6 : useR 4 (lz fourl) [0, 0, 0, 0] 65 = (0, 2) := by decide +kernel
theorem k_n7 : useR 4 (lz fourl) [0, 0, 0, 0] 0 = (0, 2) := by decide +kernel
theorem k_n8 : hyR 0 (lz fourl) 64 = (64, 0) := by decide +kernel
theorem k_n9 : hyR 4 (lz fourl) 0 = (0, 2) := by decide +kernel
theorem k_n10 : chkE 0 (lz fourl) [] = 0 := by decide +kernel
set_option maxRecDepth 100000 in
set_option maxHeartbeats 16000000 in
theorem names_law (w : World) : Calls Try.prog 7 #[] w (TrueB w) := by
  have HL := Lib.hid (lit_tk w [[0, 0, 0, 0, 0, 0, 0, 0], [65, 1, 1, 0, 0, 0, 0, 0], [5, 6, 1, 0, 0, 0, 0, 0], [5, 5, 6, 0, 0, 0, 0, 0], [5, 5, 0, 0, 0, 0, 0, 0], [5, 0, 1, 0, 0, 0, 0, 0]] (by decide) (by decide))
  have HB0 := Lib.hid ((Below.refl _ w).alloc (Nat.le_refl _) (.cells #[.int .i64 0, .int .i64 0, .int .i64 0, .int .i64 0, .int .i64 0, .int .i64 0, .int .i64 0, .int .i64 0, .int .i64 65, .int .i64 1, .int .i64 1, .int .i64 0, .int .i64 0, .int .i64 0, .int .i64 0, .int .i64 0, .int .i64 5, .int .i64 6, .int .i64 1, .int .i64 0, .int .i64 0, .int .i64 0, .int .i64 0, .int .i64 0, .int .i64 5, .int .i64 5, .int .i64 6, .int .i64 0, .int .i64 0, .int .i64 0, .int .i64 0, .int .i64 0, .int .i64 5, .int .i64 5, .int .i64 0, .int .i64 0, .int .i64 0, .int .i64 0, .int .i64 0, .int .i64 0, .int .i64 5, .int .i64 0, .int .i64 1, .int .i64 0, .int .i64 0, .int .i64 0, .int .i64 0, .int .i64 0] 36))
  go_enter Try.func7, Try.ntmps7
  go_wp2_with fail
  go_loopw [2, 3, 4, 5, 6] (fun i _ _ _ _ wr => ∃ j : Nat, j ≤ 6 ∧ i = .int .i64 j ∧ Hid (TK wr (.slice (some ⟨w.heap.size, 0, none⟩) 6 6) 6 (lz badl)) ∧ Hid (Below w.heap.size w wr)) (fun i _ _ _ _ _ => 6 - (intOf i).toNat)
  case atStart => exact ⟨0, by omega, rfl, HL.out, HB0.out⟩
  case round =>
    clear HL HB0
    obtain ⟨j, hj, rfl, HT, HB⟩ := hrel
    by_cases hlt : j < 6
    · have hjd : decide ((j : Int) < 6) = true := by simp; omega
      have hcj : ¬ 6 = j := by omega
      have HO := Lib.hid (of_fit (bad_of j hlt) (TK.alloc (HT.out.one hlt) (.cells #[.int .i64 0] 3)) (lit_is wr [0] (by decide)))
      go_wp2_with fail
      refine HO.out.mono ?_
      rintro e w1 ⟨rfl, hb⟩
      have HB1 := Lib.hid (chn HB.out (below_lit hb))
      have HT1 := Lib.hid (HT.out.below (below_lit hb))
      have HH := Lib.hid (hyper_fit (bad_hy j hlt) (HT1.out.one hlt))
      clear hb HB HT HO
      go_wp2_with fail
      refine HH.out.mono ?_
      rintro e w2 ⟨rfl, hb⟩
      have HB2 := Lib.hid (chn HB1.out hb)
      have HT2 := Lib.hid (HT1.out.below hb)
      have HC := Lib.hid (check_fit (bad_ck j hlt) (TK.alloc (HT2.out.one hlt) (.cells #[.int .i64 0] 3)) (lit_is w2 [0] (by decide)))
      clear hb HB1 HT1 HH
      go_wp2_with fail
      refine HC.out.mono ?_
      rintro e w3 ⟨rfl, hb⟩
      have HB3 := Lib.hid (chn HB2.out (below_lit hb))
      have HT3 := Lib.hid (HT2.out.below (below_lit hb))
      clear hb HB2 HT2 HC
      go_wp2_with fail
      go_roundw
      case rel => exact ⟨j + 1, by omega, by go_num, HT3.out, HB3.out⟩
      case measure => simp [intOf]; omega
    · obtain rfl : j = 6 := by omega
      clear HT
      have hmk5 : ∀ w : World, (Instr.makeSlice 23 (.int .i64 5) (.int .i64 5)).run Try.prog w = .ok (.slice (some ⟨w.heap.size, 0, none⟩) 5 5) (w.alloc (.cells #[.int .i64 0, .int .i64 0, .int .i64 0, .int .i64 0, .int .i64 0] 3)) := fun _ => by kernel_rfl
      have hmk4 : ∀ w : World, (Instr.makeSlice 23 (.int .i64 4) (.int .i64 4)).run Try.prog w = .ok (.slice (some ⟨w.heap.size, 0, none⟩) 4 4) (w.alloc (.cells #[.int .i64 0, .int .i64 0, .int .i64 0, .int .i64 0] 3)) := fun _ => by kernel_rfl
      go_wp2_with fail
      obtain ⟨W2, hW2⟩ : ∃ W2, W2 = ((wr.alloc (.cells #[.int .i64 64, .int .i64 64, .int .i64 64, .int .i64 0, .int .i64 0, .int .i64 0, .int .i64 0, .int .i64 0] 36)).alloc (.cells #[.int .i64 64, .int .i64 64, .int .i64 64, .int .i64 0, .int .i64 0, .int .i64 0, .int .i64 0, .int .i64 0, .int .i64 64, .int .i64 64, .int .i64 64, .int .i64 0, .int .i64 0, .int .i64 0, .int .i64 0, .int .i64 0, .int .i64 64, .int .i64 64, .int .i64 64, .int .i64 0, .int .i64 0, .int .i64 0, .int .i64 0, .int .i64 0, .int .i64 64, .int .i64 64, .int .i64 64, .int .i64 0, .int .i64 0, .int .i64 0, .int .i64 0, .int .i64 0] 36)) := ⟨_, rfl⟩
      rw [← hW2]
      have hT4 : TK W2 (.slice (some ⟨wr.heap.size + 1, 0, none⟩) 4 4) 4 (lz fourl) := by
        have := lit_tk (wr.alloc (.cells #[.int .i64 64, .int .i64 64, .int .i64 64, .int .i64 0, .int .i64 0, .int .i64 0, .int .i64 0, .int .i64 0] 36)) fourl (by decide) (by decide)
        rw [show (wr.alloc (.cells #[.int .i64 64, .int .i64 64, .int .i64 64, .int .i64 0, .int .i64 0, .int .i64 0, .int .i64 0, .int .i64 0] 36)).heap.size = wr.heap.size + 1 by simp] at this
        rw [hW2]
        exact this
      have hSx : S5 W2 W2 wr.heap.size := by
        have key : ∀ k, W2.cell? ⟨wr.heap.size, k, none⟩ = (#[.int .i64 64, .int .i64 64, .int .i64 64, .int .i64 0, .int .i64 0, .int .i64 0, .int .i64 0, .int .i64 0] : Array Value)[k]? := fun k => by
          rw [hW2]
          exact cell_of_row _ _ k _ _ _ ((heap_alloc_old _ _ (by simp)).trans (heap_alloc_new wr _))
        exact ⟨key 0 , key 1 , key 2 , key 3 , key 4 , key 5 , key 6 , key 7, Below.refl _ _⟩
      have HBw : Hid (Below w.heap.size w W2) := by rw [hW2]; exact (HB.out.alloc HB.out.size _).alloc (by have := HB.out.size; simp; omega) _
      clear hW2 HB
      have HT4 := Lib.hid hT4; have HS := Lib.hid hSx
      obtain ⟨c0, c1, c2, c3, c4, c5, c6, c7, _⟩ := hSx
      clear hT4
      have HCa := Lib.hid (cells_eight W2 (.int .i64 64) (.int .i64 64) (.int .i64 64) (.int .i64 0) (.int .i64 0) (.int .i64 0) (.int .i64 0) (.int .i64 0))
      have HCb := Lib.hid (cells_keep HCa.out (.cells #[.int .i64 0, .int .i64 0, .int .i64 0, .int .i64 0, .int .i64 0] 3))
      have hCc := cells_eight (W2.alloc (.cells #[.int .i64 0, .int .i64 0, .int .i64 0, .int .i64 0, .int .i64 0] 3)) (.int .i64 64) (.int .i64 64) (.int .i64 64) (.int .i64 0) (.int .i64 0) (.int .i64 0) (.int .i64 0) (.int .i64 0)
      have hIb := lit_is (W2.alloc (.cells #[.int .i64 64, .int .i64 64, .int .i64 64, .int .i64 0, .int .i64 0, .int .i64 0, .int .i64 0, .int .i64 0] 36)) [0, 0, 0, 0, 0] (by decide)
      rw [show (W2.alloc (.cells #[.int .i64 0, .int .i64 0, .int .i64 0, .int .i64 0, .int .i64 0] 3)).heap.size = W2.heap.size + 1 by simp] at hCc
      rw [show (W2.alloc (.cells #[.int .i64 64, .int .i64 64, .int .i64 64, .int .i64 0, .int .i64 0, .int .i64 0, .int .i64 0, .int .i64 0] 36)).heap.size = W2.heap.size + 1 by simp] at hIb
      have HCc := Lib.hid hCc; have HIb := Lib.hid hIb
      have HIc := Lib.hid (IS.alloc (lit_is W2 [0, 0, 0, 0, 0] (by decide)) (.cells #[.int .i64 64, .int .i64 64, .int .i64 64, .int .i64 0, .int .i64 0, .int .i64 0, .int .i64 0, .int .i64 0] 36))
      clear hCc hIb
      generalize wr.heap.size + 1 = fb at *
      generalize wr.heap.size = ob at *
      go_region_held3 (fun w' => w'.cell? ⟨ob, 0, none⟩ = some (.int .i64 64) ∧ w'.cell? ⟨ob, 1, none⟩ = some (.int .i64 64) ∧ w'.cell? ⟨ob, 2, none⟩ = some (.int .i64 64) ∧ w'.cell? ⟨ob, 3, none⟩ = some (.int .i64 0) ∧ w'.cell? ⟨ob, 4, none⟩ = some (.int .i64 0) ∧ w'.cell? ⟨ob, 5, none⟩ = some (.int .i64 0) ∧ w'.cell? ⟨ob, 6, none⟩ = some (.int .i64 0) ∧ w'.cell? ⟨ob, 7, none⟩ = some (.int .i64 0) ∧ Below W2.heap.size W2 w')
        (first | assumption | exact HS.out | exact S5.drew HS.out | exact S5.alloc (S5.drew HS.out) _ | exact S5.alloc (S5.alloc (S5.drew HS.out) _) _ | exact S5.alloc (by assumption) _ | go_keep)
        (first | (refine step_task (f := fb) (ab := W2.heap.size) rfl (.tmp 84) (.tmp 86) rfl (by simp [Act.eval]) (by simp [Act.eval]) (HT4.out.below (S5.b (W := W2) (o := ob) (by assumption))) (by first | exact HCa.out | exact HCb.out | exact HCc.out) ?_; intro v5 w5 hT5 hb5; have hq5 := S5.below (W := W2) (o := ob) (by assumption) hb5)
               | (refine step_task (f := fb) (ab := W2.heap.size + 1) rfl (.tmp 84) (.tmp 86) rfl (by simp [Act.eval]) (by simp [Act.eval]) (HT4.out.below (S5.b (W := W2) (o := ob) (by assumption))) (by first | exact HCa.out | exact HCb.out | exact HCc.out) ?_; intro v5 w5 hT5 hb5; have hq5 := S5.below (W := W2) (o := ob) (by assumption) hb5)
               | (go_at_call 9; refine (of_S5 k_five (W := W2) (q := ob) (by assumption) (by first | exact hT5 | exact TK.alloc hT5 _) (by first | exact lit_is _ [0, 0, 0, 0, 0] (by decide) | exact IS.below (IS.drew HIb.out) hb5 | exact IS.below (IS.drew HIc.out) hb5 | exact IS.below HIb.out hb5 | exact IS.below HIc.out hb5)).mono ?_; rintro e w' ⟨rfl, hq2⟩))
      all_goals
        rename_i hHeld
        have HT0 := Lib.hid (HT4.out.below hq2.b)
        have HB0 := Lib.hid (chn HBw.out hq2.b)
        clear hHeld hq2 hq5 hT5 hb5 HCa HCb HCc HIb HIc c0 c1 c2 c3 c4 c5 c6 c7 HS HT4 HBw
        have HC0 := Lib.hid (of_fit k_n1 (TK.alloc HT0.out (.cells #[.int .i64 0, .int .i64 0, .int .i64 0, .int .i64 4097] 3)) (lit_is w' [0, 0, 0, 4097] (by decide)))
        go_wp2_with fail
        refine HC0.out.mono ?_
        rintro e x1 ⟨rfl, hb⟩
        have HB1 := Lib.hid (chn HB0.out (below_lit hb)); have HT1 := Lib.hid (HT0.out.below (below_lit hb))
        clear hb HB0 HT0 HC0
        have HC1 := Lib.hid (of_fit k_n2 (TK.alloc HT1.out (.cells #[.int .i64 0, .int .i64 0, .int .i64 0, .int .i64 (-1)] 3)) (lit_is x1 [0, 0, 0, -1] (by decide)))
        go_wp2_with fail
        refine HC1.out.mono ?_
        rintro e x2 ⟨rfl, hb⟩
        have HB2 := Lib.hid (chn HB1.out (below_lit hb)); have HT2 := Lib.hid (HT1.out.below (below_lit hb))
        clear hb HB1 HT1 HC1
        have HC2 := Lib.hid (of_fit k_n3 (TK.alloc HT2.out (.cells #[.int .i64 0, .int .i64 0, .int .i64 0, .int .i64 4096] 3)) (lit_is x2 [0, 0, 0, 4096] (by decide)))
        go_wp2_with fail
        refine HC2.out.mono ?_
        rintro e x3 ⟨rfl, hb⟩
        have HB3 := Lib.hid (chn HB2.out (below_lit hb)); have HT3 := Lib.hid (HT2.out.below (below_lit hb))
        clear hb HB2 HT2 HC2
        have HC3 := Lib.hid (of_fit k_n4 (TK.alloc HT3.out (.cells #[.int .i64 0, .int .i64 0, .int .i64 0, .int .i64 0] 3)) (lit_is x3 [0, 0, 0, 0] (by decide)))
        go_wp2_with fail
        refine HC3.out.mono ?_
        rintro e x4 ⟨rfl, hb⟩
        have HB4 := Lib.hid (chn HB3.out (below_lit hb)); have HT4 := Lib.hid (HT3.out.below (below_lit hb))
        clear hb HB3 HT3 HC3
        have HC4 := Lib.hid (of_fit k_n5 (TK.alloc HT4.out (.cells #[.int .i64 0, .int .i64 0, .int .i64 0, .int .i64 0] 3)) (lit_is x4 [0, 0, 0, 0] (by decide)))
        go_wp2_with fail
        refine HC4.out.mono ?_
        rintro e x5 ⟨rfl, hb⟩
        have HB5 := Lib.hid (chn HB4.out (below_lit hb)); have HT5 := Lib.hid (HT4.out.below (below_lit hb))
        clear hb HB4 HT4 HC4
        have HC5 := Lib.hid (use_fit k_n6 (TK.alloc HT5.out (.cells #[.int .i64 0, .int .i64 0, .int .i64 0, .int .i64 0] 3)) (lit_is x5 [0, 0, 0, 0] (by decide)))
        go_wp2_with fail
        refine HC5.out.mono ?_
        rintro e x6 ⟨rfl, hb⟩
        have HB6 := Lib.hid (chn HB5.out (below_lit hb)); have HT6 := Lib.hid (HT5.out.below (below_lit hb))
        clear hb HB5 HT5 HC5
        have HC6 := Lib.hid (use_fit k_n7 (TK.alloc HT6.out (.cells #[.int .i64 0, .int .i64 0, .int .i64 0, .int .i64 0] 3)) (lit_is x6 [0, 0, 0, 0] (by decide)))
        go_wp2_with fail
        refine HC6.out.mono ?_
        rintro e x7 ⟨rfl, hb⟩
        have HB7 := Lib.hid (chn HB6.out (below_lit hb)); have HT7 := Lib.hid (HT6.out.below (below_lit hb))
        clear hb HB6 HT6 HC6
        have HC7 := Lib.hid (hyper_fit k_n8 (TK.nil x7 (lz fourl)))
        go_wp2_with fail
        refine HC7.out.mono ?_
        rintro e x8 ⟨rfl, hb⟩
        have HB8 := Lib.hid (chn HB7.out hb); have HT8 := Lib.hid (HT7.out.below hb)
        clear hb HB7 HT7 HC7
        have HC8 := Lib.hid (hyper_fit k_n9 HT8.out)
        go_wp2_with fail
        refine HC8.out.mono ?_
        rintro e x9 ⟨rfl, hb⟩
        have HB9 := Lib.hid (chn HB8.out hb)
        clear hb HB8 HT8 HC8
        go_wp2_with fail
        refine (works_any _).mono ?_
        rintro e x10 ⟨rfl, hb⟩
        have HB10 := Lib.hid (chn HB9.out hb)
        clear hb HB9
        have HC10 := Lib.hid (check_fit k_n10 (TK.nil x10 (lz fourl)) (IS.nil x10))
        go_wp2_with fail
        refine HC10.out.mono ?_
        rintro e x11 ⟨rfl, hb⟩
        have HB11 := Lib.hid (chn HB10.out hb)
        clear hb HB10 HC10
        go_wp2_with fail
        go_ret
        exact ⟨rfl, HB11.out⟩
end Go.Proofs.Ytdlhnkjghiphoaa
