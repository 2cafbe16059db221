/- The program's room in memory: one part is written. -/
import Derived.Test.YtkkmfpllgjoceaaGreatRooM
namespace Go.Proofs.YtkkmfpllgjoceaaGreat.Ro
open Go.RowKit Ac Jo
set_option linter.unusedVariables false
set_option maxRecDepth 100000

section
variable {m : Mm} {w w' : World} {rb : Nat} {s : Rm} {t : Nat}
theorem k_ob (h : PRM m w rb s) (q : ∀ k, m.lab k ≠ 0 → m.lab k ≠ t → w'.heap[k]? = w.heap[k]?) (ht : t ≠ 1) : w'.heap[rb]? = some (.cells #[.pointer (some ⟨m.sb, 0, none⟩), .pointer (some ⟨m.qb, 0, none⟩), m.tv, m.gv, .slice (some ⟨m.jv, 0, none⟩) s.n s.n] 74 (0, 0)) :=
  (q rb (by rw [h.l1]; decide) (by rw [h.l1]; omega)).trans h.ob
theorem k_so (h : PRM m w rb s) (q : ∀ k, m.lab k ≠ 0 → m.lab k ≠ t → w'.heap[k]? = w.heap[k]?) (ht : t ≠ 2) (hs : w.heap.size ≤ w'.heap.size) : St.SO w' m.sb s.n s.z s.E m.sv m.lv := by
  have kS : ∀ k, FS m.sb m.sv m.lv k → w'.heap[k]? = w.heap[k]? := fun k hk => q k (by rw [h.l2 k hk]; decide) (by rw [h.l2 k hk]; omega)
  refine ⟨(kS m.sb (Or.inl (Or.inl rfl))).trans h.so.ob, h.so.tk.keep (fun k hk => kS k (Or.inr hk)), h.so.nz, fun k hk => ⟨(h.so.tb k hk).1, Nat.lt_of_lt_of_le (h.so.tb k hk).2 hs⟩, ?_, h.so.ap⟩
  rcases h.so.pe with e | ⟨g, cap, e, h1, h2, h3, h4, h5, h6⟩
  · exact Or.inl e
  · have hb : w'.heap[g]? = w.heap[g]? := kS g (Or.inl (Or.inr (by rw [e]; rfl)))
    refine Or.inr ⟨g, cap, e, h1, Nat.lt_of_lt_of_le h2 hs, h3, h4, fun j u hj => ?_, ?_⟩
    · have := h5 j u hj
      rw [Addr.add_lit] at this ⊢
      exact (World.cell?_of_block hb).trans this
    · rcases h6 with e' | e'
      · exact Or.inl e'
      · exact Or.inr (so_keep.row_keep' e' (fun k hk => by rw [e] at hk; cases hk; exact hb))
theorem k_qs (h : PRM m w rb s) (q : ∀ k, m.lab k ≠ 0 → m.lab k ≠ t → w'.heap[k]? = w.heap[k]?) (ht : t ≠ 3) : Rq.QS w' m.qb m.rk m.hb m.g s.L := by
  obtain ⟨q1, q2, q3, q4⟩ := h.l3
  exact h.qs.keep (q _ (by rw [q1]; decide) (by rw [q1]; omega)) (q _ (by rw [q2]; decide) (by rw [q2]; omega)) (q _ (by rw [q3]; decide) (by rw [q3]; omega)) (q _ (by rw [q4]; decide) (by rw [q4]; omega))
theorem k_tk (h : PRM m w rb s) (q : ∀ k, m.lab k ≠ 0 → m.lab k ≠ t → w'.heap[k]? = w.heap[k]?) (ht : t ≠ 4) : St.TK w' m.tv s.n s.z :=
  tk_keep h.tk (fun hn k hk => q k (by rw [h.l4 hn k hk]; decide) (by rw [h.l4 hn k hk]; omega))
theorem k_gs (h : PRM m w rb s) (q : ∀ k, m.lab k ≠ 0 → m.lab k ≠ t → w'.heap[k]? = w.heap[k]?) (ht : t ≠ 5) : ∀ i, i < s.n → w'.cell? ⟨m.gb, i, none⟩ = some (.pointer (some ⟨m.ga i, 0, none⟩)) :=
  fun i hi => (World.cell?_of_block (q m.gb (by rw [h.l5 (by omega)]; decide) (by rw [h.l5 (by omega)]; omega))).trans (h.gs i hi)
theorem k_jo (h : PRM m w rb s) (q : ∀ k, m.lab k ≠ 0 → m.lab k ≠ t → w'.heap[k]? = w.heap[k]?) (ht : t ≠ 6) : w'.heap[m.jv]? = some (.cells (jcl s.n m.jp) 106 (0, 0)) :=
  (q m.jv (by rw [h.l6]; decide) (by rw [h.l6]; omega)).trans h.jo
theorem k_gd (h : PRM m w rb s) (q : ∀ k, m.lab k ≠ 0 → m.lab k ≠ t → w'.heap[k]? = w.heap[k]?) : ∀ i, i < s.n → t ≠ 7 + 2 * i → Sg.PG w' (m.ga i) (s.z i 0) (s.G i) :=
  fun i hi ht => (h.gd i hi).keep (q _ (by rw [h.l7 i hi]; omega) (by rw [h.l7 i hi]; omega))
theorem k_jb (h : PRM m w rb s) (q : ∀ k, m.lab k ≠ 0 → m.lab k ≠ t → w'.heap[k]? = w.heap[k]?) (hs : w.heap.size ≤ w'.heap.size) : ∀ i, i < s.n → m.p i = true → t ≠ 8 + 2 * i → PJ w' (m.ja i) (m.jr i) (m.jg i) (s.J i) :=
  fun i hi hp ht => pj_keep (h.jb i hi hp) (fun k hk => q k (by rw [h.l8 i hi hp k hk]; omega) (by rw [h.l8 i hi hp k hk]; omega)) hs
theorem k_lt (h : PRM m w rb s) (hs : w.heap.size ≤ w'.heap.size) : ∀ k, m.lab k ≠ 0 → k < w'.heap.size := fun k hk => Nat.lt_of_lt_of_le (h.lt k hk) hs
theorem o_st {S : Nat → Prop} (o : St.Only S w w') : Only S w w' := ⟨o.os, o.tape, o.output, o.size, o.block⟩
theorem o_rq {S : Nat → Prop} (o : Rq.Only S w w') : Only S w w' := ⟨o.os, o.tape, o.output, o.size, o.block⟩
theorem o_sg {b : Nat} (o : Sg.Only b w w') : Only (fun k => k = b) w w' := ⟨o.os, o.tape, o.output, o.size, o.block⟩
theorem only_mono {S T : Nat → Prop} (o : Only S w w') (h : ∀ k, S k → T k) : Only T w w' := ⟨o.os, o.tape, o.output, o.size, fun k hk hT => o.block k hk (fun y => hT (h k y))⟩
theorem only_old {S : Nat → Prop} (o : Only (fun k => S k ∨ w.heap.size ≤ k) w w') : Only S w w' := ⟨o.os, o.tape, o.output, o.size, fun k hk hS => o.block k hk (by rintro (y | y); exact hS y; omega)⟩
/-- of which blocks the room is made behind a step -/
def Lb (m m' : Mm) (w : World) : Prop := ∀ k, m'.lab k ≠ 0 → m.lab k ≠ 0 ∨ w.heap.size ≤ k
/-- the stack has turned -/
theorem PRM.stack (h : PRM m w rb s) {lv' : Value} {E' : List St.Sk.En} (so : St.SO w' m.sb s.n s.z E' m.sv lv') (o : St.Only (St.SB m.sb m.lv) w w') (mv : St.Mv w m.lv lv') :
    (∃ m', PRM m' w' rb { s with E := E' } ∧ m'.p = m.p ∧ m'.ja = m.ja ∧ m'.jr = m.jr ∧ m'.jg = m.jg ∧ Lb m m' w) ∧ Only (fun k => m.lab k ≠ 0) w w' := by
  have hS : ∀ k, St.SB m.sb m.lv k → m.lab k = 2 := fun k hk => h.l2 k (Or.inl hk)
  have q : ∀ k, m.lab k ≠ 0 → m.lab k ≠ 2 → w'.heap[k]? = w.heap[k]? := fun k h0 h2 => o.block k (h.lt k h0) (fun y => h2 (hS k y))
  have hs := o.size
  obtain ⟨L, hL⟩ : ∃ L, L = relab m.lab w.heap.size 2 (fun k => lv'.ownBlock = some k) := ⟨_, rfl⟩
  have hold : ∀ k, m.lab k ≠ 0 → L k = m.lab k := fun k hk => by rw [hL]; exact relab_old (h.lt k hk)
  have hn0 : ∀ {k n : Nat}, m.lab k = n → n ≠ 0 → L k = n := fun {k n} e hn => (hold k (by rw [e]; exact hn)).trans e
  have eob := k_ob h q (by decide)
  have eqs := k_qs h q (by decide)
  have etk := k_tk h q (by decide)
  have egs := k_gs h q (by decide)
  have ejo := k_jo h q (by decide)
  refine ⟨⟨{ m with lv := lv', lab := L }, ⟨eob, so, eqs, etk, h.gf, egs, ejo, fun i hi => k_gd h q i hi (by omega), fun i hi hp => k_jb h q hs i hi hp (by omega),
    hn0 h.l1 (by decide), ?_, ⟨hn0 h.l3.1 (by decide), hn0 h.l3.2.1 (by decide), hn0 h.l3.2.2.1 (by decide), hn0 h.l3.2.2.2 (by decide)⟩, fun hn k hk => hn0 (h.l4 hn k hk) (by decide), fun hn => hn0 (h.l5 hn) (by decide), hn0 h.l6 (by decide),
    fun i hi => hn0 (h.l7 i hi) (by omega), fun i hi hp k hk => hn0 (h.l8 i hi hp k hk) (by omega), ?_⟩, rfl, rfl, rfl, rfl, ?_⟩, only_mono (o_st o) (fun k hk => by rw [hS k hk]; decide)⟩
  · intro k hk
    have hcase : (St.SB m.sb m.lv k ∨ m.sv.ownBlock = some k) ∨ (w.heap.size ≤ k ∧ lv'.ownBlock = some k) := by
      rcases hk with (e | e) | e
      · exact Or.inl (Or.inl (Or.inl e))
      · rcases mv k e with y | y
        · exact Or.inl (Or.inl (Or.inr y))
        · exact Or.inr ⟨y, e⟩
      · exact Or.inl (Or.inr e)
    rcases hcase with y | ⟨y, z⟩
    · exact hn0 (h.l2 k y) (by decide)
    · show L k = 2
      rw [hL]; exact relab_new y z
  · intro k hk
    have hk' : L k ≠ 0 := hk
    rw [hL] at hk'
    rcases relab_or hk' with y | y
    · exact Nat.lt_of_lt_of_le y.1 hs
    · exact (so.pe.lt k y.2).2
  · intro k hk
    have hk' : L k ≠ 0 := hk
    rw [hL] at hk'
    rcases relab_or hk' with y | y
    · exact Or.inl y.2
    · exact Or.inr y.1
/-- the queue has turned -/
theorem PRM.queue (h : PRM m w rb s) {L' : List Int} {g' : Nat} (qs : Rq.QS w' m.qb m.rk m.hb g' L') (hg : g' = m.g ∨ w.heap.size ≤ g') (o : Rq.Only (Rq.Two m.hb m.g) w w') :
    (∃ m', PRM m' w' rb { s with L := L' } ∧ m'.p = m.p ∧ Lb m m' w) ∧ Only (fun k => m.lab k ≠ 0) w w' := by
  obtain ⟨q1, q2, q3, q4⟩ := h.l3
  have hS : ∀ k, Rq.Two m.hb m.g k → m.lab k = 3 := fun k hk => by rcases hk with rfl | rfl <;> assumption
  have q : ∀ k, m.lab k ≠ 0 → m.lab k ≠ 3 → w'.heap[k]? = w.heap[k]? := fun k h0 h2 => o.block k (h.lt k h0) (fun y => h2 (hS k y))
  have hs := o.size
  obtain ⟨L, hL⟩ : ∃ L, L = relab m.lab w.heap.size 3 (fun k => k = g') := ⟨_, rfl⟩
  have hold : ∀ k, m.lab k ≠ 0 → L k = m.lab k := fun k hk => by rw [hL]; exact relab_old (h.lt k hk)
  have hn0 : ∀ {k n : Nat}, m.lab k = n → n ≠ 0 → L k = n := fun {k n} e hn => (hold k (by rw [e]; exact hn)).trans e
  have eob := k_ob h q (by decide)
  have eso := k_so h q (by decide) hs
  have etk := k_tk h q (by decide)
  have egs := k_gs h q (by decide)
  have ejo := k_jo h q (by decide)
  refine ⟨⟨{ m with g := g', lab := L }, ⟨eob, eso, qs, etk, h.gf, egs, ejo, fun i hi => k_gd h q i hi (by omega), fun i hi hp => k_jb h q hs i hi hp (by omega),
    hn0 h.l1 (by decide), fun k hk => hn0 (h.l2 k hk) (by decide), ⟨hn0 q1 (by decide), hn0 q2 (by decide), hn0 q3 (by decide), ?_⟩, fun hn k hk => hn0 (h.l4 hn k hk) (by decide), fun hn => hn0 (h.l5 hn) (by decide), hn0 h.l6 (by decide),
    fun i hi => hn0 (h.l7 i hi) (by omega), fun i hi hp k hk => hn0 (h.l8 i hi hp k hk) (by omega), ?_⟩, rfl, ?_⟩, only_mono (o_rq o) (fun k hk => by rw [hS k hk]; decide)⟩
  · show L g' = 3
    rcases hg with e | e
    · rw [e]; exact hn0 q4 (by decide)
    · rw [hL]; exact relab_new e rfl
  · intro k hk
    have hk' : L k ≠ 0 := hk
    rw [hL] at hk'
    rcases relab_or hk' with y | y
    · exact Nat.lt_of_lt_of_le y.1 hs
    · rw [y.2]; exact qs.k.lt2
  · intro k hk
    have hk' : L k ≠ 0 := hk
    rw [hL] at hk'
    rcases relab_or hk' with y | y
    · exact Or.inl y.2
    · exact Or.inr y.1
/-- a job has turned -/
theorem PRM.job (h : PRM m w rb s) (hi : t < s.n) (hp : m.p t = true) {j : Jb} (pj : PJ w' (m.ja t) (m.jr t) (m.jg t) j) (o : Only (Tri (m.ja t) (m.jr t) (m.jg t)) w w') :
    PRM m w' rb { s with J := fun i => if i = t then j else s.J i } ∧ Only (fun k => m.lab k ≠ 0) w w' := by
  have hS : ∀ k, Tri (m.ja t) (m.jr t) (m.jg t) k → m.lab k = 8 + 2 * t := fun k hk => h.l8 t hi hp k hk
  have q : ∀ k, m.lab k ≠ 0 → m.lab k ≠ 8 + 2 * t → w'.heap[k]? = w.heap[k]? := fun k h0 h2 => o.block k (h.lt k h0) (fun y => h2 (hS k y))
  have hs := o.size
  have eob := k_ob h q (by omega)
  have eso := k_so h q (by omega) hs
  have eqs := k_qs h q (by omega)
  have etk := k_tk h q (by omega)
  have egs := k_gs h q (by omega)
  have ejo := k_jo h q (by omega)
  refine ⟨⟨eob, eso, eqs, etk, h.gf, egs, ejo, fun i hi => k_gd h q i hi (by omega), fun i hi' hp' => ?_,
    h.l1, h.l2, h.l3, h.l4, h.l5, h.l6, h.l7, h.l8, k_lt h hs⟩, only_mono o (fun k hk => by rw [hS k hk]; omega)⟩
  show PJ w' (m.ja i) (m.jr i) (m.jg i) (if i = t then j else s.J i)
  by_cases e : i = t
  · subst e; rw [if_pos rfl]; exact pj
  · rw [if_neg e]; exact k_jb h q hs i hi' hp' (by omega)
/-- a guard has turned -/
theorem PRM.guard (h : PRM m w rb s) (hi : t < s.n) {x : Int} (g : Sg.PG w' (m.ga t) (s.z t 0) x) (o : Sg.Only (m.ga t) w w') :
    PRM m w' rb { s with G := fun i => if i = t then x else s.G i } ∧ Only (fun k => m.lab k ≠ 0) w w' := by
  have q : ∀ k, m.lab k ≠ 0 → m.lab k ≠ 7 + 2 * t → w'.heap[k]? = w.heap[k]? := fun k h0 h2 => o.block k (h.lt k h0) (fun y => h2 (by rw [y]; exact h.l7 t hi))
  have hs := o.size
  have eob := k_ob h q (by omega)
  have eso := k_so h q (by omega) hs
  have eqs := k_qs h q (by omega)
  have etk := k_tk h q (by omega)
  have egs := k_gs h q (by omega)
  have ejo := k_jo h q (by omega)
  refine ⟨⟨eob, eso, eqs, etk, h.gf, egs, ejo, fun i hi' => ?_, fun i hi hp => k_jb h q hs i hi hp (by omega),
    h.l1, h.l2, h.l3, h.l4, h.l5, h.l6, h.l7, h.l8, k_lt h hs⟩, only_mono (o_sg o) (fun k hk => by rw [hk, h.l7 t hi]; omega)⟩
  show Sg.PG w' (m.ga i) (s.z i 0) (if i = t then x else s.G i)
  by_cases e : i = t
  · subst e; rw [if_pos rfl]; exact g
  · rw [if_neg e]; exact k_gd h q i hi' (by omega)
theorem set_jv (h : PRM m w rb s) (v : Value) : ∀ k, m.lab k ≠ 0 → m.lab k ≠ 6 → (w.setCell ⟨m.jv, t, none⟩ v).heap[k]? = w.heap[k]? := fun k h0 h6 => Below.heap_setCell _ _ _ _ (fun e => h6 (by rw [e]; exact h.l6))
theorem set_size (w : World) (p : Addr) (v : Value) : (w.setCell p v).heap.size = w.heap.size := by simp [World.setCell]
/-- a job is put in -/
theorem PRM.put (h : PRM m w rb s) (hi : t < s.n) {jb rg g : Nat} {j : Jb} (pj : PJ w jb rg g j) (hl : ∀ k, Tri jb rg g k → m.lab k = 0) :
    (∃ m', PRM m' (w.setCell ⟨m.jv, t, none⟩ (.pointer (some ⟨jb, 0, none⟩))) rb { s with J := fun i => if i = t then j else s.J i } ∧ m'.p = (fun i => if i = t then true else m.p i) ∧ m'.qb = m.qb ∧ (∀ k, m'.lab k ≠ 0 → m.lab k ≠ 0 ∨ Tri jb rg g k))
      ∧ Only (fun k => m.lab k ≠ 0) w (w.setCell ⟨m.jv, t, none⟩ (.pointer (some ⟨jb, 0, none⟩))) := by
  have q := set_jv (t := t) h (.pointer (some ⟨jb, 0, none⟩))
  have hs : w.heap.size ≤ (w.setCell ⟨m.jv, t, none⟩ (.pointer (some ⟨jb, 0, none⟩))).heap.size := by rw [set_size]; exact Nat.le_refl _
  have hjn : ∀ k, Tri jb rg g k → k ≠ m.jv := fun k hk e => by have := hl k hk; rw [e, h.l6] at this; cases this
  haveI : DecidablePred (Tri jb rg g) := fun k => by unfold Tri; exact inferInstance
  obtain ⟨L, hL⟩ : ∃ L : Nat → Nat, L = fun k => if Tri jb rg g k then 8 + 2 * t else m.lab k := ⟨_, rfl⟩
  have hold : ∀ k, m.lab k ≠ 0 → L k = m.lab k := fun k hk => by rw [hL]; exact if_neg (fun y => hk (hl k y))
  have hn0 : ∀ {k n : Nat}, m.lab k = n → n ≠ 0 → L k = n := fun {k n} e hn => (hold k (by rw [e]; exact hn)).trans e
  have hor : ∀ k, L k ≠ 0 → m.lab k ≠ 0 ∨ Tri jb rg g k := fun k hk => by
    rw [hL] at hk
    by_cases y : Tri jb rg g k
    · exact Or.inr y
    · exact Or.inl (by simpa [y] using hk)
  have eob := k_ob h q (by decide)
  have eso := k_so h q (by decide) hs
  have eqs := k_qs h q (by decide)
  have etk := k_tk h q (by decide)
  have egs := k_gs h q (by decide)
  refine ⟨⟨{ m with p := fun i => if i = t then true else m.p i, ja := fun i => if i = t then jb else m.ja i, jr := fun i => if i = t then rg else m.jr i, jg := fun i => if i = t then g else m.jg i, lab := L },
    ⟨eob, eso, eqs, etk, h.gf, egs, ?_, fun i hi => k_gd h q i hi (by omega), fun i hi' hp' => ?_,
    hn0 h.l1 (by decide), fun k hk => hn0 (h.l2 k hk) (by decide), ⟨hn0 h.l3.1 (by decide), hn0 h.l3.2.1 (by decide), hn0 h.l3.2.2.1 (by decide), hn0 h.l3.2.2.2 (by decide)⟩, fun hn k hk => hn0 (h.l4 hn k hk) (by decide), fun hn => hn0 (h.l5 hn) (by decide), hn0 h.l6 (by decide),
    fun i hi => hn0 (h.l7 i hi) (by omega), fun i hi' hp' k hk => ?_, fun k hk => ?_⟩, rfl, rfl, hor⟩, Only.set w t _ (by show m.lab m.jv ≠ 0; rw [h.l6]; decide)⟩
  · rw [heap_setCell_same w m.jv t _ _ _ h.jo, jcl_set]
    congr 2
    refine jcl_ext fun i _ => ?_
    unfold Mm.jp
    by_cases e : i = t
    · subst e; simp
    · simp [e]
  · have hp2 : (if i = t then true else m.p i) = true := hp'
    show PJ _ (if i = t then jb else m.ja i) (if i = t then rg else m.jr i) (if i = t then g else m.jg i) (if i = t then j else s.J i)
    by_cases e : i = t
    · rw [if_pos e, if_pos e, if_pos e, if_pos e]
      exact pj_keep pj (fun k hk => Below.heap_setCell _ _ _ _ (hjn k hk)) hs
    · rw [if_neg e] at hp2
      rw [if_neg e, if_neg e, if_neg e, if_neg e]
      exact k_jb h q hs i hi' hp2 (by omega)
  · have hp2 : (if i = t then true else m.p i) = true := hp'
    have hk2 : Tri (if i = t then jb else m.ja i) (if i = t then rg else m.jr i) (if i = t then g else m.jg i) k := hk
    by_cases e : i = t
    · rw [if_pos e, if_pos e, if_pos e] at hk2
      show L k = 8 + 2 * i
      rw [hL, e]; exact if_pos hk2
    · rw [if_neg e] at hp2
      rw [if_neg e, if_neg e, if_neg e] at hk2
      exact hn0 (h.l8 i hi' hp2 k hk2) (by omega)
  · rw [set_size]
    rcases hor k hk with y | y
    · exact h.lt k y
    · rcases y with y | y | y
      · rw [y]; exact pj.lt
      · rw [y]; exact pj.rw.lt
      · rw [y]; exact pj.gl
/-- a job is no more -/
theorem PRM.drop (h : PRM m w rb s) (hi : t < s.n) :
    (∃ m', PRM m' (w.setCell ⟨m.jv, t, none⟩ (.pointer none)) rb s ∧ m'.p = (fun i => if i = t then false else m.p i) ∧ m'.lab = m.lab) ∧ Only (fun k => m.lab k ≠ 0) w (w.setCell ⟨m.jv, t, none⟩ (.pointer none)) := by
  have q := set_jv (t := t) h (.pointer none)
  have hs : w.heap.size ≤ (w.setCell ⟨m.jv, t, none⟩ (.pointer none)).heap.size := by rw [set_size]; exact Nat.le_refl _
  have hpf : ∀ i, (if i = t then false else m.p i) = true → i ≠ t ∧ m.p i = true := fun i hp => by
    by_cases e : i = t
    · rw [if_pos e] at hp; cases hp
    · rw [if_neg e] at hp; exact ⟨e, hp⟩
  have eob := k_ob h q (by decide)
  have eso := k_so h q (by decide) hs
  have eqs := k_qs h q (by decide)
  have etk := k_tk h q (by decide)
  have egs := k_gs h q (by decide)
  have elt := k_lt h hs
  refine ⟨⟨{ m with p := fun i => if i = t then false else m.p i },
    ⟨eob, eso, eqs, etk, h.gf, egs, ?_, fun i hi => k_gd h q i hi (by omega), fun i hi' hp' => k_jb h q hs i hi' (hpf i hp').2 (by omega),
    h.l1, h.l2, h.l3, h.l4, h.l5, h.l6, h.l7, fun i hi' hp' => h.l8 i hi' (hpf i hp').2, elt⟩, rfl, rfl⟩, Only.set w t _ (by show m.lab m.jv ≠ 0; rw [h.l6]; decide)⟩
  rw [heap_setCell_same w m.jv t _ _ _ h.jo, jcl_set]
  congr 2
  refine jcl_ext fun i _ => ?_
  unfold Mm.jp
  by_cases e : i = t
  · subst e; simp
  · simp [e]
end
/-- the program's room -/
def JJ (w : World) (rb : Nat) (S : Nat → Prop) (s : Rm) : Prop := ∃ m, PRM m w rb s ∧ (∀ i, i < s.n → m.p i = decide (0 ≤ s.dl i)) ∧ ∀ k, S k ↔ m.lab k ≠ 0
/-- a call of it, of what it is made -/
theorem RP.of {m m' : Mm} {w w' : World} {rb : Nat} {s' : Rm} {S : Nat → Prop} {v : Value} (hS : ∀ k, S k ↔ m.lab k ≠ 0) (h : PRM m' w' rb s') (hp : ∀ i, i < s'.n → m'.p i = decide (0 ≤ s'.dl i)) (hl : Lb m m' w) (o : Only (fun k => m.lab k ≠ 0) w w') : RP JJ v rb S s' w (.returned v) w' :=
  ⟨rfl, fun k => m'.lab k ≠ 0, ⟨m', h, hp, fun _ => Iff.rfl⟩, fun k hk => (hl k hk).imp (hS k).2 id, only_mono o (fun k hk => (hS k).2 hk)⟩
end Go.Proofs.YtkkmfpllgjoceaaGreat.Ro
