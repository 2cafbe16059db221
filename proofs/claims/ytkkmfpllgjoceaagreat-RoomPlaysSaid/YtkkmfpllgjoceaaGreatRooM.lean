/- The program's room in memory: its blocks, each with a label that tells which part it belongs to; one part written, the others as they were. -/
import Derived.Test.YtkkmfpllgjoceaaGreatRooQ
import Derived.Test.YtkkmfpllgjoceaaGreatZt
import Derived.Test.YtkkmfpllgjoceaaGreatSpoA
import Derived.Test.YtkkmfpllgjoceaaGreatZq
import Derived.Test.YtkkmfpllgjoceaaGreatZk
namespace Go.Proofs.YtkkmfpllgjoceaaGreat.Ro
open Go.RowKit Ac Jo
set_option linter.unusedVariables false
set_option maxRecDepth 100000

/-- where the parts lie: the stack, its tasks, its entries; the queue; the tasks; the guards; the jobs, of which some are there; the labels -/
structure Mm where
  sb : Nat
  sv : Value
  lv : Value
  qb : Nat
  rk : Nat
  hb : Nat
  g : Nat
  tv : Value
  gv : Value
  gb : Nat
  ga : Nat → Nat
  jv : Nat
  p : Nat → Bool
  ja : Nat → Nat
  jr : Nat → Nat
  jg : Nat → Nat
  lab : Nat → Nat
/-- a row of pointers -/
def jcl (n : Nat) (f : Nat → Value) : Array Value := ((List.range n).map f).toArray
theorem jcl_at (n : Nat) (f : Nat → Value) (i : Nat) (h : i < n) : (jcl n f)[i]? = some (f i) := by
  unfold jcl
  simp [h]
theorem jcl_set (n : Nat) (f : Nat → Value) (i : Nat) (v : Value) : (jcl n f).setIfInBounds i v = jcl n (fun k => if k = i then v else f k) := by
  unfold jcl
  apply Array.ext_getElem?
  intro k
  simp only [Array.getElem?_setIfInBounds, List.getElem?_toArray, List.getElem?_map, List.size_toArray, List.length_map, List.length_range]
  by_cases hk : k < n
  · by_cases e : i = k
    · subst e; simp [hk]
    · have e2 : ¬ k = i := fun y => e y.symm
      simp [hk, e, e2]
  · by_cases e : i = k
    · subst e; simp [hk]
    · simp [hk, e]
theorem jcl_ext {n : Nat} {f g : Nat → Value} (h : ∀ i, i < n → f i = g i) : jcl n f = jcl n g := by
  unfold jcl
  congr 1
  exact List.map_congr_left (fun i hi => h i (List.mem_range.1 hi))
def Mm.jp (m : Mm) (i : Nat) : Value := if m.p i = true then .pointer (some ⟨m.ja i, 0, none⟩) else .pointer none
def FS (sb : Nat) (sv lv : Value) (k : Nat) : Prop := St.SB sb lv k ∨ sv.ownBlock = some k
/-- the room in memory -/
structure PRM (m : Mm) (w : World) (rb : Nat) (s : Rm) : Prop where
  ob : w.heap[rb]? = some (.cells #[.pointer (some ⟨m.sb, 0, none⟩), .pointer (some ⟨m.qb, 0, none⟩), m.tv, m.gv, .slice (some ⟨m.jv, 0, none⟩) s.n s.n] 74 (0, 0))
  so : St.SO w m.sb s.n s.z s.E m.sv m.lv
  qs : Rq.QS w m.qb m.rk m.hb m.g s.L
  tk : St.TK w m.tv s.n s.z
  gf : 0 < s.n → ∃ c, m.gv = .slice (some ⟨m.gb, 0, none⟩) s.n c
  gs : ∀ i, i < s.n → w.cell? ⟨m.gb, i, none⟩ = some (.pointer (some ⟨m.ga i, 0, none⟩))
  jo : w.heap[m.jv]? = some (.cells (jcl s.n m.jp) 106 (0, 0))
  gd : ∀ i, i < s.n → Sg.PG w (m.ga i) (s.z i 0) (s.G i)
  jb : ∀ i, i < s.n → m.p i = true → PJ w (m.ja i) (m.jr i) (m.jg i) (s.J i)
  l1 : m.lab rb = 1
  l2 : ∀ k, FS m.sb m.sv m.lv k → m.lab k = 2
  l3 : m.lab m.qb = 3 ∧ m.lab m.rk = 3 ∧ m.lab m.hb = 3 ∧ m.lab m.g = 3
  l4 : 0 < s.n → ∀ k, m.tv.ownBlock = some k → m.lab k = 4
  l5 : 0 < s.n → m.lab m.gb = 5
  l6 : m.lab m.jv = 6
  l7 : ∀ i, i < s.n → m.lab (m.ga i) = 7 + 2 * i
  l8 : ∀ i, i < s.n → m.p i = true → ∀ k, Tri (m.ja i) (m.jr i) (m.jg i) k → m.lab k = 8 + 2 * i
  lt : ∀ k, m.lab k ≠ 0 → k < w.heap.size
theorem so_keep {w w' : World} {sb n : Nat} {z : Nat → Nat → Int} {l : List St.Sk.En} {tv lv : Value} (h : St.SO w sb n z l tv lv) (q : ∀ k, FS sb tv lv k → w'.heap[k]? = w.heap[k]?) (hs : w.heap.size ≤ w'.heap.size) : St.SO w' sb n z l tv lv := by
  refine ⟨(q sb (Or.inl (Or.inl rfl))).trans h.ob, h.tk.keep (fun k hk => q k (Or.inr hk)), h.nz, fun k hk => ⟨(h.tb k hk).1, Nat.lt_of_lt_of_le (h.tb k hk).2 hs⟩, ?_, h.ap⟩
  rcases h.pe with e | ⟨g, cap, e, h1, h2, h3, h4, h5, h6⟩
  · exact Or.inl e
  · have hb : w'.heap[g]? = w.heap[g]? := q g (Or.inl (Or.inr (by rw [e]; rfl)))
    refine Or.inr ⟨g, cap, e, h1, Nat.lt_of_lt_of_le h2 hs, h3, h4, fun j u hj => ?_, ?_⟩
    · have := h5 j u hj
      rw [Addr.add_lit] at this ⊢
      exact (World.cell?_of_block hb).trans this
    · rcases h6 with e' | e'
      · exact Or.inl e'
      · exact Or.inr (row_keep' e' (fun k hk => by rw [e] at hk; cases hk; exact hb))
where
  row_keep' {w w' : World} {C e size n : Nat} {v : Value} {xs : List Value} (h : w.ownsRow C e size v n xs) (q : ∀ k, v.ownBlock = some k → w'.heap[k]? = w.heap[k]?) : w'.ownsRow C e size v n xs := by
    refine ⟨h.1, ?_⟩
    rcases h.2 with hn | ⟨g, cap, cur, rfl, hb, hgg, rest⟩
    · exact Or.inl hn
    · refine Or.inr ⟨g, cap, cur, rfl, hb, ?_, rest⟩
      rw [q g rfl]
      exact hgg
theorem tk_keep {w w' : World} {v : Value} {n : Nat} {z : Nat → Nat → Int} (h : St.TK w v n z) (q : 0 < n → ∀ k, v.ownBlock = some k → w'.heap[k]? = w.heap[k]?) : St.TK w' v n z := by
  obtain ⟨a, cap, rfl, h2, h3, h4, h5⟩ := h
  exact ⟨a, cap, rfl, h2, h3, h4, fun hn => by obtain ⟨b, off, rfl, hc⟩ := h5 hn; exact ⟨b, off, rfl, fun i hi j hj => (World.cell?_of_block (q hn b rfl)).trans (hc i hi j hj)⟩⟩
theorem pj_keep {w w' : World} {jb rb g : Nat} {s : Jb} (h : PJ w jb rb g s) (q : ∀ k, Tri jb rb g k → w'.heap[k]? = w.heap[k]?) (hs : w.heap.size ≤ w'.heap.size) : PJ w' jb rb g s :=
  ⟨(q jb (Or.inl rfl)).trans h.ob, h.rw.keep (q rb (Or.inr (Or.inl rfl))) (fun _ => q g (Or.inr (Or.inr rfl))), Nat.lt_of_lt_of_le h.gl hs, h.n1, h.n2⟩
section
variable {m : Mm} {w w' : World} {rb : Nat} {s : Rm}
theorem PRM.size (h : PRM m w rb s) {t : Nat} (o : Only (fun k => m.lab k = t) w w') : w.heap.size ≤ w'.heap.size := o.size
/-- what has a label stays as it is -/
theorem PRM.keep (h : PRM m w rb s) (q : ∀ k, m.lab k ≠ 0 → w'.heap[k]? = w.heap[k]?) : PRM m w' rb s := by
  have hlt : ∀ k, m.lab k ≠ 0 → k < w'.heap.size := fun k hk => by
    have h1 := h.lt k hk
    have h2 := q k hk
    rw [Array.getElem?_eq_getElem h1] at h2
    exact (Array.getElem?_eq_some_iff.1 h2).1
  have kS : ∀ k, FS m.sb m.sv m.lv k → w'.heap[k]? = w.heap[k]? := fun k hk => q k (by rw [h.l2 k hk]; decide)
  have kJ : ∀ i, i < s.n → m.p i = true → ∀ k, Tri (m.ja i) (m.jr i) (m.jg i) k → w'.heap[k]? = w.heap[k]? := fun i hi hp k hk => q k (by rw [h.l8 i hi hp k hk]; omega)
  obtain ⟨q1, q2, q3, q4⟩ := h.l3
  refine ⟨(q rb (by rw [h.l1]; decide)).trans h.ob, ?_, h.qs.keep (q _ (by rw [q1]; decide)) (q _ (by rw [q2]; decide)) (q _ (by rw [q3]; decide)) (q _ (by rw [q4]; decide)),
    tk_keep h.tk (fun hn k hk => q k (by rw [h.l4 hn k hk]; decide)), h.gf, fun i hi => (World.cell?_of_block (q m.gb (by rw [h.l5 (by omega)]; decide))).trans (h.gs i hi), (q m.jv (by rw [h.l6]; decide)).trans h.jo,
    fun i hi => (h.gd i hi).keep (q _ (by rw [h.l7 i hi]; omega)), fun i hi hp => ?_, h.l1, h.l2, h.l3, h.l4, h.l5, h.l6, h.l7, h.l8, hlt⟩
  · refine ⟨(kS m.sb (Or.inl (Or.inl rfl))).trans h.so.ob, h.so.tk.keep (fun k hk => kS k (Or.inr hk)), h.so.nz, fun k hk => ⟨(h.so.tb k hk).1, hlt k (by rw [h.l2 k (Or.inr hk)]; decide)⟩, ?_, h.so.ap⟩
    rcases h.so.pe with e | ⟨g, cap, e, h1, h2, h3, h4, h5, h6⟩
    · exact Or.inl e
    · have hl2 := h.l2 g (Or.inl (Or.inr (by rw [e]; rfl)))
      have hb : w'.heap[g]? = w.heap[g]? := q g (by rw [hl2]; decide)
      refine Or.inr ⟨g, cap, e, h1, hlt g (by rw [hl2]; decide), h3, h4, fun j u hj => ?_, ?_⟩
      · have := h5 j u hj
        rw [Addr.add_lit] at this ⊢
        exact (World.cell?_of_block hb).trans this
      · rcases h6 with e' | e'
        · exact Or.inl e'
        · exact Or.inr (so_keep.row_keep' e' (fun k hk => by rw [e] at hk; cases hk; exact hb))
  · have hj := h.jb i hi hp
    exact ⟨(kJ i hi hp _ (Or.inl rfl)).trans hj.ob, hj.rw.keep (kJ i hi hp _ (Or.inr (Or.inl rfl))) (fun _ => kJ i hi hp _ (Or.inr (Or.inr rfl))), hlt _ (by rw [h.l8 i hi hp _ (Or.inr (Or.inr rfl))]; omega), hj.n1, hj.n2⟩
theorem PRM.below (h : PRM m w rb s) (q : Below w.heap.size w w') : PRM m w' rb s := h.keep fun k hk => q.block k (h.lt k hk)
/-- of the labels: what is new and of F has the label t -/
def relab (lab : Nat → Nat) (c t : Nat) (F : Nat → Prop) [DecidablePred F] : Nat → Nat := fun k => if k < c then lab k else if F k then t else 0
theorem relab_old {lab : Nat → Nat} {c t : Nat} {F : Nat → Prop} [DecidablePred F] {k : Nat} (h : k < c) : relab lab c t F k = lab k := if_pos h
theorem relab_new {lab : Nat → Nat} {c t : Nat} {F : Nat → Prop} [DecidablePred F] {k : Nat} (h : c ≤ k) (hF : F k) : relab lab c t F k = t := by unfold relab; rw [if_neg (by omega), if_pos hF]
theorem relab_or {lab : Nat → Nat} {c t : Nat} {F : Nat → Prop} [DecidablePred F] {k : Nat} (h : relab lab c t F k ≠ 0) : (k < c ∧ lab k ≠ 0) ∨ (c ≤ k ∧ F k) := by
  unfold relab at h
  split at h
  · exact Or.inl ⟨by assumption, h⟩
  · split at h
    · exact Or.inr ⟨by omega, by assumption⟩
    · exact absurd rfl h
/-- all labels but t keep their blocks -/
theorem only_keep {t : Nat} (h : PRM m w rb s) (o : Only (fun k => m.lab k = t) w w') : ∀ k, m.lab k ≠ 0 → m.lab k ≠ t → w'.heap[k]? = w.heap[k]? := fun k h0 h1 => o.block k (h.lt k h0) h1
end
end Go.Proofs.YtkkmfpllgjoceaaGreat.Ro
