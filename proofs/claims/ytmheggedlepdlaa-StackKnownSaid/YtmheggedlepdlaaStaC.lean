/- The document's stack, written: its own entries; Lock. -/
import Derived.Test.YtmheggedlepdlaaStaB
namespace Go.Proofs.Ytmheggedlepdlaa
open Go.RowKit Lv Sk Go.Sort
set_option linter.unusedVariables false

/-- of what was there nothing has turned but blocks of S -/
structure Only (S : Nat → Prop) (w w' : World) : Prop where
  os : w'.os = w.os
  tape : w'.tape = w.tape
  output : w'.output = w.output
  size : w.heap.size ≤ w'.heap.size
  block : ∀ k, k < w.heap.size → ¬ S k → w'.heap[k]? = w.heap[k]?
theorem Only.trans' {S T : Nat → Prop} {a b c : World} (h : Only S a b) (k : Only T b c) (hs : ∀ j, j < a.heap.size → T j → S j) : Only S a c :=
  ⟨k.os.trans h.os, k.tape.trans h.tape, k.output.trans h.output, Nat.le_trans h.size k.size, fun j hj hS => (k.block j (Nat.lt_of_lt_of_le hj h.size) (fun t => hS (hs j hj t))).trans (h.block j hj hS)⟩
theorem Only.of_below {S : Nat → Prop} {a b : World} (h : Below a.heap.size a b) : Only S a b := ⟨h.os, h.tape, h.output, h.size, fun k hk _ => h.block k hk⟩
theorem Only.below {S : Nat → Prop} {a b : World} {B : Nat} (h : Only S a b) (hB : B ≤ a.heap.size) (hS : ∀ k, k < a.heap.size → S k → B ≤ k) : Below B a b :=
  ⟨h.os, h.tape, h.output, h.size, fun k hk => h.block k (by omega) (fun t => by have := hS k (by omega) t; omega)⟩
/-- entries, by their cells -/
def ecells (l : List En) : List Value := l.flatMap fun e => [.int .i64 e.1, .int .i64 e.2]
theorem ecells_len (l : List En) : (ecells l).length = l.length * 2 := by
  induction l with
  | nil => rfl
  | cons e l ih => simp only [ecells, List.flatMap_cons, List.length_append, List.length_cons, List.length_nil] at *; omega
theorem ecells_at : ∀ (l : List En) (i : Nat), i < l.length → (ecells l)[i * 2]? = some (.int .i64 (l.getD i e0).1) ∧ (ecells l)[i * 2 + 1]? = some (.int .i64 (l.getD i e0).2)
  | e :: l, 0, _ => ⟨rfl, rfl⟩
  | e :: l, i + 1, h => by
    have ih := ecells_at l i (by simpa using h)
    have hc : ecells (e :: l) = .int .i64 e.1 :: .int .i64 e.2 :: ecells l := rfl
    rw [hc, show (i + 1) * 2 = i * 2 + 1 + 1 by omega]
    simp only [List.getElem?_cons_succ, List.getD_cons_succ]
    exact ih
theorem ecells_append (l m : List En) : ecells (l ++ m) = ecells l ++ ecells m := by simp [ecells]
theorem infoEn : (Try.prog.info? 76).map (fun i => (i.zero, i.size, i.bytes)) = some (some (.agg #[.int .i64 0, .int .i64 0]), 2, 16) := by kernel_rfl
/-- an entry more in a row of the call's own: it stays where it was, or lies anew -/
theorem app_ent {w : World} {B n : Nat} {v : Value} {xs : List Value} (ty : TypeId) (x y : Int) {g : Nat} (hown : w.ownsRow B 76 2 v n xs) (hg : w.heap[g]? = some (.cells #[.int .i64 x, .int .i64 y] 76 (0, 0))) (hB : B ≤ w.heap.size) (hn : n ≤ 1000) :
    ∃ v' w', (Builtin.append_ #[58, 58] ty #[v, .slice (some ⟨g, 0, none⟩) 1 1]).run Try.prog w = .ok v' w' ∧ w'.ownsRow B 76 2 v' (n + 1) (xs ++ [.int .i64 x, .int .i64 y]) ∧ w.grownBy w' v.ownBlock ∧ (v'.ownBlock = v.ownBlock ∨ ∀ k, v'.ownBlock = some k → w.heap.size ≤ k) := by
  obtain ⟨i0, hi, hz0, hz1, hz2⟩ := info_parts infoEn
  have hnews : ∀ (j : Nat) (u : Value), ([Value.int .i64 x, .int .i64 y] : List Value)[j]? = some u → w.cell? ((⟨g, 0, none⟩ : Addr).add j) = some u := by
    intro j u hj
    rw [Addr.add_lit, Nat.zero_add, cell_of_row _ _ j _ _ _ hg, List.getElem?_toArray]
    exact hj
  have hone : ∀ u ∈ ([Value.int .i64 x, .int .i64 y] : List Value), u.oneCell' = true := by
    intro u hu
    simp at hu
    rcases hu with rfl | rfl <;> rfl
  have hm1 : n + 1 ≤ maxLen := by unfold maxLen; omega
  rcases hown.2 with ⟨rfl, h0⟩ | ⟨g0, cap, cur, rfl, hg0, hh, hnc, hcm, hcs, htk⟩
  · have hx0 : xs = [] := List.eq_nil_of_length_eq_zero (by have := hown.1; omega)
    subst hx0; subst h0
    obtain ⟨v', w', hrun, hown', hgr, _⟩ := run_append_own (P := Try.prog) w w.heap.size 58 ty 76 i0 _ 2 16 Try.underlying58 hi hz0 hz1 hz2 rfl (by decide) (.slice none 0 0) 0 [] (World.ownsRow_nil w w.heap.size 76 2) ⟨g, 0, none⟩ 1 1 _ rfl hnews hone hm1 (by omega) (Nat.le_refl _)
    refine ⟨v', w', hrun, ⟨hown'.1, ?_⟩, hgr, Or.inr fun k hk => (hown'.lt k hk).1⟩
    rcases hown'.2 with hn | ⟨g', cap', cur, rfl, hb, rest⟩
    · exact Or.inl hn
    · exact Or.inr ⟨g', cap', cur, rfl, by omega, rest⟩
  · by_cases hroom : n + 1 ≤ cap
    · obtain ⟨w', hrun, hown', hgr⟩ := run_append_fits (P := Try.prog) w B 58 ty 76 i0 2 Try.underlying58 hi hz1 g0 n cap xs hown ⟨g, 0, none⟩ 1 1 _ rfl hnews hone hroom
      exact ⟨_, w', hrun, hown', hgr, Or.inl rfl⟩
    · obtain ⟨v', w', hrun, hown', hgr⟩ := run_append_arg_grows (P := Try.prog) w 58 ty 76 i0 _ 2 16 Try.underlying58 hi hz0 hz1 hz2 rfl (by decide) ⟨g0, 0, none⟩ n cap xs hown.1 (fun j u hj => World.ownsRow.cells hown (g := g0) rfl j u hj) ⟨g, 0, none⟩ 1 1 _ rfl hnews (by omega) hm1 (by omega)
      refine ⟨v', w', hrun, ⟨hown'.1, ?_⟩, ⟨hgr.os, hgr.tape, hgr.output, hgr.size, fun k hk _ => hgr.block k hk (by simp)⟩, Or.inr fun k hk => (hown'.lt k hk).1⟩
      rcases hown'.2 with hn | ⟨g', cap', cur, rfl, hb, rest⟩
      · exact Or.inl hn
      · exact Or.inr ⟨g', cap', cur, rfl, by omega, rest⟩
/-- tasks are kept where their block is -/
theorem TK.keep {w w' : World} {v : Value} {n : Nat} {z : Nat → Nat → Int} (h : TK w v n z) (q : ∀ k, v.ownBlock = some k → w'.heap[k]? = w.heap[k]?) : TK w' v n z := by
  obtain ⟨a, cap, rfl, h2, h3, h4, h5⟩ := h
  exact ⟨a, cap, rfl, h2, h3, h4, fun hn => by obtain ⟨b, off, rfl, hc⟩ := h5 hn; exact ⟨b, off, rfl, fun i hi j hj => (World.cell?_of_block (q b rfl)).trans (hc i hi j hj)⟩⟩
/-- the document's stack, whose entries are its own -/
structure RO (w : World) (mb n : Nat) (z : Nat → Nat → Int) (l : List En) (tv lv : Value) : Prop where
  ob : w.heap[mb]? = some (.cells #[tv, lv] 60 (0, 0))
  tk : TK w tv n z
  tb : ∀ k, tv.ownBlock = some k → k ≠ mb ∧ k < w.heap.size
  ow : w.ownsRow (mb + 1) 76 2 lv l.length (ecells l)
  ap : ∀ k, lv.ownBlock = some k → tv.ownBlock ≠ some k
theorem own_es {w : World} {B : Nat} {lv : Value} {l : List En} (h : w.ownsRow B 76 2 lv l.length (ecells l)) : ES w lv l := by
  have hc := fun g => World.ownsRow.cells h (g := g)
  rcases h.2 with ⟨rfl, h0⟩ | ⟨g, cap, cur, rfl, hb, hh, hnc, hcm, _⟩
  · rw [List.eq_nil_of_length_eq_zero h0]; exact ES.nil w
  · refine ⟨_, cap, rfl, hnc, hcm, (fun e => by cases e), fun _ => ⟨g, 0, rfl, fun i hi => ?_⟩⟩
    obtain ⟨h1, h2⟩ := ecells_at l i hi
    have q1 := hc g rfl _ _ h1
    have q2 := hc g rfl _ _ h2
    rw [Addr.add_lit] at q1 q2
    exact ⟨q1, by rw [Nat.add_assoc]; exact q2⟩
theorem RO.rs {w : World} {mb n : Nat} {z : Nat → Nat → Int} {l : List En} {tv lv : Value} (h : RO w mb n z l tv lv) : RS w mb n z l tv lv := ⟨h.ob, h.tk, own_es h.ow⟩
theorem RO.below {w w' : World} {mb n : Nat} {z : Nat → Nat → Int} {l : List En} {tv lv : Value} (h : RO w mb n z l tv lv) (q : Below w.heap.size w w') : RO w' mb n z l tv lv :=
  ⟨(q.block mb (lt_of_block h.ob)).trans h.ob, h.tk.below q, fun k hk => ⟨(h.tb k hk).1, Nat.lt_of_lt_of_le (h.tb k hk).2 q.size⟩,
    h.ow.kept (row := none) ⟨q.os, q.tape, q.output, q.size, fun k hk _ => q.block k hk⟩ (by cases lv.ownBlock <;> simp), h.ap⟩
/-- the blocks that a call may write -/
def SB (mb : Nat) (lv : Value) : Nat → Prop := fun k => k = mb ∨ lv.ownBlock = some k
/-- where the entries lie behind a call: where they were, or anew -/
def Mv (w : World) (lv lv' : Value) : Prop := ∀ k, lv'.ownBlock = some k → lv.ownBlock = some k ∨ w.heap.size ≤ k
theorem Mv.refl (w : World) (lv : Value) : Mv w lv lv := fun k h => Or.inl h
/-- an entry more: the row, and the field -/
theorem RO.put {w wr w1 : World} {mb n : Nat} {z : Nat → Nat → Int} {l : List En} {tv lv v' : Value} {t r : Int} (h : RO w mb n z l tv lv) (q : Below w.heap.size w wr)
    (hown : w1.ownsRow (mb + 1) 76 2 v' (l.length + 1) (ecells l ++ [.int .i64 t, .int .i64 r])) (hgr : wr.grownBy w1 lv.ownBlock) (hb : v'.ownBlock = lv.ownBlock ∨ ∀ k, v'.ownBlock = some k → wr.heap.size ≤ k) :
    RO (w1.setCell ⟨mb, 1, none⟩ v') mb n z (l ++ [(t, r)]) tv v' ∧ Only (SB mb lv) w (w1.setCell ⟨mb, 1, none⟩ v') ∧ Mv w lv v' := by
  have h' := h.below q
  have hmb : some mb ≠ lv.ownBlock := fun e => by have := (h'.ow.lt mb e.symm).1; omega
  have hml := lt_of_block h'.ob
  have hob : w1.heap[mb]? = some (.cells #[tv, lv] 60 (0, 0)) := (hgr.block mb hml hmb).trans h'.ob
  have hvl : ∀ k, v'.ownBlock = some k → mb + 1 ≤ k := fun k hk => (hown.lt k hk).1
  have hMv : Mv w lv v' := fun k hk => by
    rcases hb with e | e
    · exact Or.inl (e ▸ hk)
    · exact Or.inr (Nat.le_trans q.size (e k hk))
  refine ⟨⟨heap_setCell_same w1 mb 1 _ _ v' hob, ?_, ?_, ?_, ?_⟩, ⟨?_, ?_, ?_, ?_, ?_⟩, hMv⟩
  · refine h'.tk.keep fun k hk => (Below.heap_setCell _ _ _ _ (h'.tb k hk).1).trans (hgr.block k (h'.tb k hk).2 fun e => h'.ap k e.symm hk)
  · intro k hk
    exact ⟨(h'.tb k hk).1, by have := (h'.tb k hk).2; have := hgr.size; simp [World.setCell]; omega⟩
  · have e1 : (l ++ [(t, r)]).length = l.length + 1 := by simp
    have e2 : ecells (l ++ [(t, r)]) = ecells l ++ [.int .i64 t, .int .i64 r] := ecells_append _ _
    rw [e1, e2]
    exact hown.kept (row := some mb) ⟨rfl, rfl, rfl, by simp [World.setCell], fun k hk hne => Below.heap_setCell _ _ _ _ (fun e => hne (by rw [e]))⟩ (Or.inr fun e => by have := hvl mb e; omega)
  · intro k hk e
    rcases hb with q' | q'
    · exact h'.ap k (q'.symm.trans hk) e
    · have h1 := q' k hk
      have h2 := (h'.tb k e).2
      omega
  · exact hgr.os.trans q.os
  · exact hgr.tape.trans q.tape
  · exact hgr.output.trans q.output
  · have := q.size; have := hgr.size; simp [World.setCell]; omega
  · intro k hk hS
    have h1 : k ≠ mb := fun e => hS (Or.inl e)
    have h2 : some k ≠ lv.ownBlock := fun e => hS (Or.inr e.symm)
    exact (Below.heap_setCell _ _ _ _ h1).trans ((hgr.block k (Nat.lt_of_lt_of_le hk q.size) h2).trans (q.block k hk))
end Go.Proofs.Ytmheggedlepdlaa
