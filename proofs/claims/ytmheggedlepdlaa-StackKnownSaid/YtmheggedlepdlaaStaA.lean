/- The document's stack in memory: what can be read; Held, Len, Top, Ceiling. -/
import Derived.Test.YtmheggedlepdlaaLevA
import Derived.Test.YtmheggedlepdlaaStaP
import Derived.OwnWalk
import Derived.ArgAppend
import Derived.Laws.OwnMore
import Derived.Deep.RegionLawGrows
namespace Go.Proofs.Ytmheggedlepdlaa
open Go.RowKit Lv Sk
set_option linter.unusedVariables false

/-- entries that can be read -/
def ES (w : World) (v : Value) (l : List En) : Prop :=
  ∃ a cap, v = .slice a l.length cap ∧ l.length ≤ cap ∧ cap ≤ maxLen ∧ (a = none → cap = 0) ∧
    (0 < l.length → ∃ b off, a = some ⟨b, off, none⟩ ∧ ∀ i, i < l.length → w.cell? ⟨b, off + i * 2, none⟩ = some (.int .i64 (l.getD i e0).1) ∧ w.cell? ⟨b, off + i * 2 + 1, none⟩ = some (.int .i64 (l.getD i e0).2))
theorem ES.slice {w : World} {v : Value} {l : List En} (h : ES w v l) : ∃ a cap, v = .slice a l.length cap ∧ l.length ≤ cap ∧ cap ≤ maxLen := by obtain ⟨a, cap, h1, h2, h3, _⟩ := h; exact ⟨a, cap, h1, h2, h3⟩
theorem ES.nil (w : World) : ES w (.slice none 0 0) [] := ⟨none, 0, rfl, Nat.le_refl _, Nat.zero_le _, fun _ => rfl, fun h => by cases h⟩
theorem ES.below {w w' : World} {v : Value} {l : List En} (h : ES w v l) (q : Below w.heap.size w w') : ES w' v l := by
  obtain ⟨a, cap, h1, h2, h3, h4, h5⟩ := h
  exact ⟨a, cap, h1, h2, h3, h4, fun hn => by obtain ⟨b, off, e, hc⟩ := h5 hn; exact ⟨b, off, e, fun i hi => ⟨(q.cell (lt_of_cell (hc i hi).1)).trans (hc i hi).1, (q.cell (lt_of_cell (hc i hi).2)).trans (hc i hi).2⟩⟩⟩
theorem ES.at {w : World} {n cap : Nat} {a : Option Addr} {l : List En} (h : ES w (.slice a n cap) l) {i : Nat} (hi : i < n) : ∃ b off, a = some ⟨b, off, none⟩ ∧ w.cell? ⟨b, off + i * 2, none⟩ = some (.int .i64 (l.getD i e0).1) ∧ w.cell? ⟨b, off + i * 2 + 1, none⟩ = some (.int .i64 (l.getD i e0).2) := by
  obtain ⟨a', cap', e, h1, h2, h3, h4⟩ := h
  obtain ⟨rfl, rfl, rfl⟩ : a = a' ∧ n = l.length ∧ cap = cap' := by simpa using e
  obtain ⟨b, off, rfl, hc⟩ := h4 (by omega)
  exact ⟨b, off, rfl, hc i hi⟩
/-- the document's stack: its tasks, its entries -/
structure RS (w : World) (mb n : Nat) (z : Nat → Nat → Int) (l : List En) (tv lv : Value) : Prop where
  ob : w.heap[mb]? = some (.cells #[tv, lv] 60 (0, 0))
  tk : TK w tv n z
  es : ES w lv l
theorem lt_of_block {w : World} {b : Nat} {o : Obj} (h : w.heap[b]? = some o) : b < w.heap.size := (Array.getElem?_eq_some_iff.1 h).1
theorem RS.below {w w' : World} {mb n : Nat} {z : Nat → Nat → Int} {l : List En} {tv lv : Value} (h : RS w mb n z l tv lv) (q : Below w.heap.size w w') : RS w' mb n z l tv lv := ⟨(q.block mb (lt_of_block h.ob)).trans h.ob, h.tk.below q, h.es.below q⟩
theorem RS.cells {w : World} {mb n : Nat} {z : Nat → Nat → Int} {l : List En} {tv lv : Value} (h : RS w mb n z l tv lv) : w.cell? ⟨mb, 0, none⟩ = some tv ∧ w.cell? ⟨mb, 0 + 1, none⟩ = some lv := ⟨cell_of_row _ _ 0 _ _ _ h.ob, cell_of_row _ _ 1 _ _ _ h.ob⟩
theorem infoI13 : (Try.prog.info? 3).map (fun i => (i.zero, i.size, i.bytes)) = some (some (.int .i64 0), 1, 8) := by kernel_rfl
def nums (xs : List Int) : List Value := xs.map (Value.int .i64)
/-- numbers in a row of the call's own -/
def NR (w : World) (C : Nat) (v : Value) (xs : List Int) : Prop := w.ownsRow C 3 1 v xs.length (nums xs)
theorem NR.nil (w : World) (C : Nat) : NR w C (.slice none 0 0) [] := World.ownsRow_nil w C 3 1
/-- a number more -/
theorem app_num {w : World} {C : Nat} {v : Value} {xs : List Int} (h : NR w C v xs) (x : Int) {g : Nat} (hg : w.heap[g]? = some (.cells #[.int .i64 x] 3 (0, 0))) (hB : C ≤ w.heap.size) (hn : xs.length ≤ 1000) (ty : TypeId) :
    ∃ v' w', (Builtin.append_ #[40, 40] ty #[v, .slice (some ⟨g, 0, none⟩) 1 1]).run Try.prog w = .ok v' w' ∧ NR w' C v' (xs ++ [x]) ∧ Below C w w' := by
  obtain ⟨i0, hi, hz0, hz1, hz2⟩ := info_parts infoI13
  obtain ⟨v', w', hrun, hown', hgr, _⟩ := run_append_own (P := Try.prog) (w := w) C 40 ty 3 i0 (.int .i64 0) 1 8 Try.underlying40 hi hz0 hz1 hz2 rfl (by decide) v xs.length _ h ⟨g, 0, none⟩ 1 1 [.int .i64 x] rfl
    (fun j u hj => by rw [Addr.add_lit, Nat.zero_add, cell_of_row _ _ j _ _ _ hg, List.getElem?_toArray]; exact hj) (by intro u hu; simp at hu; subst hu; rfl) (by unfold maxLen; omega) (by omega) hB
  refine ⟨v', w', hrun, ?_, (Below.refl C w).grown hgr hB (fun k e => (World.ownsRow.lt h k e).1)⟩
  unfold NR nums at *
  rw [List.length_append, List.map_append]
  exact hown'
theorem NR.is_form {w : World} {C : Nat} {v : Value} {xs : List Int} (h : NR w C v xs) : ∃ a cap, v = .slice a xs.length cap := by
  rcases h.2 with ⟨rfl, h0⟩ | ⟨g, cap, cur, rfl, _⟩
  · exact ⟨none, 0, by rw [h0]⟩
  · exact ⟨_, _, rfl⟩
theorem wpList_append_eq {P : Program} {w : World} {ops : Array Oper} {rest : List Oper} {o : Oper} {a : Act} {Q : Exit → Act → World → Prop} (hgd : o.guard = none) (s x : Operand) (t u : TypeId)
    (ho : o.op = .call { callee := .builtin .append, args := #[s, x], argTypes := #[t, u] })
    (sv xv v' : Value) (w' : World) (hs : a.eval s = sv) (hx : a.eval x = xv) (hrun : (Builtin.append_ #[t, u] o.type #[sv, xv]).run P w = .ok v' w')
    (h : wpList P ops Q rest (a.put o.dst v') w') : wpList P ops Q (o :: rest) a w := by
  refine wpList_plain hgd fun K hK => ?_
  unfold Oper.wp
  simp [execOp, ho, resolve, invoke, builtin, hs, hx, hrun, Result.andThen]
  exact hK _ _ h
def HeldP (w : World) (xs : List Int) (e : Ending) (w' : World) : Prop := ∃ r, e = .returned r ∧ NR w' w.heap.size r xs ∧ Below w.heap.size w w'

set_option maxHeartbeats 2000000 in
theorem rheld_any {w : World} {mb n : Nat} {z : Nat → Nat → Int} {l : List En} {tv lv : Value} (h : RS w mb n z l tv lv) (hl : l.length ≤ 1000) (t : Int) : Calls Try.prog 31 #[.pointer (some ⟨mb, 0, none⟩), .int .i64 t] w (HeldP w (held l t)) := by
  obtain ⟨a, cap, rfl, hn1, hn2⟩ := h.es.slice
  have HP := Lib.hid h
  have HO := Lib.hid (NR.nil w w.heap.size)
  obtain ⟨m, hm⟩ : ∃ m, m = l.length := ⟨_, rfl⟩
  have HM := Lib.hid hm
  rw [← hm] at hl hn1 HP
  clear h hm
  go_enter Try.func31, Try.ntmps31
  go_wp2_with fail
  go_loopw [5, 6] (fun o i wr => ∃ k : Nat, k ≤ m ∧ i = .int .i64 k ∧ Hid (NR wr w.heap.size o (held (l.take k) t)) ∧ Hid (Below w.heap.size w wr)) (fun _ i _ => m - (intOf i).toNat)
  case atStart => exact ⟨0, Nat.zero_le _, rfl, HO.out, Below.refl _ _⟩
  case round =>
    clear HO
    rename_i o _
    obtain ⟨k, hk, rfl, HO, HB⟩ := hrel
    obtain ⟨c0, c1⟩ := (HP.out.below HB.out).cells
    by_cases hlt : k < m
    · obtain ⟨b, off, rfl, d0, d1⟩ := (HP.out.below HB.out).es.at hlt
      have HT := Lib.hid (held_take l t k (by rw [← HM.out]; exact hlt))
      by_cases hx : (l.getD k e0).1 = t
      · rw [hx] at d0
        have HL : (held (l.take k) t).length ≤ 1000 := Nat.le_trans (held_take_len l t k) (by omega)
        have HT2 : Hid (held (l.take (k + 1)) t = held (l.take k) t ++ [(l.getD k e0).2]) := HT.out.trans (if_pos hx)
        generalize (l.getD k e0).2 = x at *
        obtain ⟨v', w1x, hrun, hown2, hb2⟩ := app_num (w := wr.alloc (.cells #[.int .i64 x] 3)) (World.ownsRow.alloc HO.out _) x (g := wr.heap.size) (heap_alloc_new wr _) (Nat.le_trans HB.out.size (by simp)) HL 40
        have HRUN := Lib.hid hrun
        have HO2 := Lib.hid hown2
        have HB2 : Hid (Below w.heap.size w w1x) := (HB.out.alloc HB.out.size _).trans hb2
        clear hrun hown2 hb2 hx HT HL
        go_wp2_with (at_builtin; refine wpList_append_eq rfl _ _ 40 40 rfl _ _ _ _ rfl rfl HRUN.out ?_)
        go_roundw
        case rel => exact ⟨k + 1, by omega, by go_num, by rw [HT2.out]; exact HO2.out, HB2.out⟩
        case measure => simp [intOf]; omega
      · have HT2 : Hid (held (l.take (k + 1)) t = held (l.take k) t) := HT.out.trans (if_neg hx)
        have hx2 : ((l.getD k e0).1 == t) = false := by simpa using hx
        have hx3 : decide ((l.getD k e0).1 = t) = false := by simpa using hx
        generalize (l.getD k e0).1 = y at *
        clear HT
        go_wp2_with fail
        go_roundw
        case rel => exact ⟨k + 1, by omega, by go_num, by rw [HT2.out]; exact HO.out, HB.out⟩
        case measure => simp [intOf]; omega
    · obtain rfl : k = m := by omega
      have HE : Hid (held (l.take k) t = held l t) := by rw [HM.out, List.take_length]; rfl
      go_wp2_with fail
      go_ret
      exact ⟨_, rfl, by rw [← HE.out]; exact HO.out, HB.out⟩
end Go.Proofs.Ytmheggedlepdlaa
