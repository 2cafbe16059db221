/- The document's room in memory: its blocks, each with a label that tells which part it belongs to; one part written, the others as they were. -/
import Derived.Test.YtkkmfpllgjoceaaGreatRooN
import Derived.Test.YtkkmfpllgjoceaaGreatSpoB
import Derived.Test.YtkkmfpllgjoceaaGreatJobT
namespace Go.Proofs.YtkkmfpllgjoceaaGreat.Ro.Dr
open Go.RowKit Ac Jo Ro
set_option linter.unusedVariables false
set_option maxRecDepth 100000

/-- where the parts lie: the stack, its tasks, its entries; the queue, its row; the tasks; the guards; the jobs, of which some are there; the labels -/
structure Mm where
  sb : Nat
  sv : Value
  lv : Value
  qb : Nat
  qC : Nat
  qv : Value
  tv : Value
  gv : Value
  gb : Nat
  ga : Nat → Nat
  jv : Nat
  p : Nat → Bool
  ja : Nat → Nat
  jr : Nat → Nat
  jg : Nat → Nat
  lab : Nat → Nat
def Mm.jp (m : Mm) (i : Nat) : Value := if m.p i = true then .pointer (some ⟨m.ja i, 0, none⟩) else .pointer none
/-- the room in memory -/
structure PRM (m : Mm) (w : World) (rb : Nat) (s : Rm) : Prop where
  ob : w.heap[rb]? = some (.cells #[m.tv, m.gv, .pointer (some ⟨m.qb, 0, none⟩), .pointer (some ⟨m.sb, 0, none⟩), .slice (some ⟨m.jv, 0, none⟩) s.n s.n] 86 (0, 0))
  so : St.RO w m.sb s.n s.z s.E m.sv m.lv
  qs : Rq.DQ w m.qb m.qC s.L m.qv
  tk : St.TK w m.tv s.n s.z
  gf : 0 < s.n → ∃ c, m.gv = .slice (some ⟨m.gb, 0, none⟩) s.n c
  gs : ∀ i, i < s.n → w.cell? ⟨m.gb, i, none⟩ = some (.pointer (some ⟨m.ga i, 0, none⟩))
  jo : w.heap[m.jv]? = some (.cells (jcl s.n m.jp) 97 (0, 0))
  gd : ∀ i, i < s.n → Sg.DG w (m.ga i) (s.z i 0) (s.G i)
  jb : ∀ i, i < s.n → m.p i = true → DJ w (m.ja i) (m.jr i) (m.jg i) (s.J i)
  l1 : m.lab rb = 1
  l2 : ∀ k, FS m.sb m.sv m.lv k → m.lab k = 2
  l3 : m.lab m.qb = 3 ∧ ∀ k, m.qv.ownBlock = some k → m.lab k = 3
  l4 : 0 < s.n → ∀ k, m.tv.ownBlock = some k → m.lab k = 4
  l5 : 0 < s.n → m.lab m.gb = 5
  l6 : m.lab m.jv = 6
  l7 : ∀ i, i < s.n → m.lab (m.ga i) = 7 + 2 * i
  l8 : ∀ i, i < s.n → m.p i = true → ∀ k, Tri (m.ja i) (m.jr i) (m.jg i) k → m.lab k = 8 + 2 * i
  lt : ∀ k, m.lab k ≠ 0 → k < w.heap.size
theorem row_keep' {w w' : World} {C e size n : Nat} {v : Value} {xs : List Value} (h : w.ownsRow C e size v n xs) (q : ∀ k, v.ownBlock = some k → w'.heap[k]? = w.heap[k]?) : w'.ownsRow C e size v n xs := by
  refine ⟨h.1, ?_⟩
  rcases h.2 with hn | ⟨g, cap, cur, rfl, hb, hgg, rest⟩
  · exact Or.inl hn
  · refine Or.inr ⟨g, cap, cur, rfl, hb, ?_, rest⟩
    rw [q g rfl]
    exact hgg
theorem ro_keep {w w' : World} {sb n : Nat} {z : Nat → Nat → Int} {l : List St.Sk.En} {tv lv : Value} (h : St.RO w sb n z l tv lv) (q : ∀ k, FS sb tv lv k → w'.heap[k]? = w.heap[k]?) (hl : ∀ k, tv.ownBlock = some k → k < w'.heap.size) : St.RO w' sb n z l tv lv :=
  ⟨(q sb (Or.inl (Or.inl rfl))).trans h.ob, h.tk.keep (fun k hk => q k (Or.inr hk)), fun k hk => ⟨(h.tb k hk).1, hl k hk⟩, row_keep' h.ow (fun k hk => q k (Or.inl (Or.inr hk))), h.ap⟩
theorem dq_keep {w w' : World} {mb C : Nat} {L : List Int} {lv : Value} (h : Rq.DQ w mb C L lv) (q0 : w'.heap[mb]? = w.heap[mb]?) (q : ∀ k, lv.ownBlock = some k → w'.heap[k]? = w.heap[k]?) : Rq.DQ w' mb C L lv :=
  ⟨q0.trans h.ob, row_keep' h.ow q, h.ne⟩
theorem dj_keep {w w' : World} {jb rb g : Nat} {s : Jb} (h : DJ w jb rb g s) (q : ∀ k, Tri jb rb g k → w'.heap[k]? = w.heap[k]?) (hl : g < w'.heap.size) : DJ w' jb rb g s :=
  ⟨(q jb (Or.inl rfl)).trans h.ob, h.rw.keep (q rb (Or.inr (Or.inl rfl))) (fun _ => q g (Or.inr (Or.inr rfl))), hl, h.n1, h.n2⟩
section
variable {m : Mm} {w w' : World} {rb : Nat} {s : Rm}
/-- what has a label stays as it is -/
theorem PRM.keep (h : PRM m w rb s) (q : ∀ k, m.lab k ≠ 0 → w'.heap[k]? = w.heap[k]?) : PRM m w' rb s := by
  have hlt : ∀ k, m.lab k ≠ 0 → k < w'.heap.size := fun k hk => by
    have h1 := h.lt k hk
    have h2 := q k hk
    rw [Array.getElem?_eq_getElem h1] at h2
    exact (Array.getElem?_eq_some_iff.1 h2).1
  have kS : ∀ k, FS m.sb m.sv m.lv k → w'.heap[k]? = w.heap[k]? := fun k hk => q k (by rw [h.l2 k hk]; decide)
  have kJ : ∀ i, i < s.n → m.p i = true → ∀ k, Tri (m.ja i) (m.jr i) (m.jg i) k → w'.heap[k]? = w.heap[k]? := fun i hi hp k hk => q k (by rw [h.l8 i hi hp k hk]; omega)
  obtain ⟨q1, q2⟩ := h.l3
  exact ⟨(q rb (by rw [h.l1]; decide)).trans h.ob, ro_keep h.so kS (fun k hk => hlt k (by rw [h.l2 k (Or.inr hk)]; decide)), dq_keep h.qs (q _ (by rw [q1]; decide)) (fun k hk => q _ (by rw [q2 k hk]; decide)),
    tk_keep h.tk (fun hn k hk => q k (by rw [h.l4 hn k hk]; decide)), h.gf, fun i hi => (World.cell?_of_block (q m.gb (by rw [h.l5 (by omega)]; decide))).trans (h.gs i hi), (q m.jv (by rw [h.l6]; decide)).trans h.jo,
    fun i hi => (h.gd i hi).keep (q _ (by rw [h.l7 i hi]; omega)), fun i hi hp => dj_keep (h.jb i hi hp) (kJ i hi hp) (hlt _ (by rw [h.l8 i hi hp _ (Or.inr (Or.inr rfl))]; omega)), h.l1, h.l2, h.l3, h.l4, h.l5, h.l6, h.l7, h.l8, hlt⟩
theorem PRM.below (h : PRM m w rb s) (q : Below w.heap.size w w') : PRM m w' rb s := h.keep fun k hk => q.block k (h.lt k hk)
end
section
variable {m : Mm} {w w' : World} {rb : Nat} {s : Rm} {t : Nat}
theorem k_ob (h : PRM m w rb s) (q : ∀ k, m.lab k ≠ 0 → m.lab k ≠ t → w'.heap[k]? = w.heap[k]?) (ht : t ≠ 1) : w'.heap[rb]? = some (.cells #[m.tv, m.gv, .pointer (some ⟨m.qb, 0, none⟩), .pointer (some ⟨m.sb, 0, none⟩), .slice (some ⟨m.jv, 0, none⟩) s.n s.n] 86 (0, 0)) :=
  (q rb (by rw [h.l1]; decide) (by rw [h.l1]; omega)).trans h.ob
theorem k_so (h : PRM m w rb s) (q : ∀ k, m.lab k ≠ 0 → m.lab k ≠ t → w'.heap[k]? = w.heap[k]?) (ht : t ≠ 2) (hs : w.heap.size ≤ w'.heap.size) : St.RO w' m.sb s.n s.z s.E m.sv m.lv :=
  ro_keep h.so (fun k hk => q k (by rw [h.l2 k hk]; decide) (by rw [h.l2 k hk]; omega)) (fun k hk => Nat.lt_of_lt_of_le (h.so.tb k hk).2 hs)
theorem k_qs (h : PRM m w rb s) (q : ∀ k, m.lab k ≠ 0 → m.lab k ≠ t → w'.heap[k]? = w.heap[k]?) (ht : t ≠ 3) : Rq.DQ w' m.qb m.qC s.L m.qv := by
  obtain ⟨q1, q2⟩ := h.l3
  exact dq_keep h.qs (q _ (by rw [q1]; decide) (by rw [q1]; omega)) (fun k hk => q _ (by rw [q2 k hk]; decide) (by rw [q2 k hk]; omega))
theorem k_tk (h : PRM m w rb s) (q : ∀ k, m.lab k ≠ 0 → m.lab k ≠ t → w'.heap[k]? = w.heap[k]?) (ht : t ≠ 4) : St.TK w' m.tv s.n s.z :=
  tk_keep h.tk (fun hn k hk => q k (by rw [h.l4 hn k hk]; decide) (by rw [h.l4 hn k hk]; omega))
theorem k_gs (h : PRM m w rb s) (q : ∀ k, m.lab k ≠ 0 → m.lab k ≠ t → w'.heap[k]? = w.heap[k]?) (ht : t ≠ 5) : ∀ i, i < s.n → w'.cell? ⟨m.gb, i, none⟩ = some (.pointer (some ⟨m.ga i, 0, none⟩)) :=
  fun i hi => (World.cell?_of_block (q m.gb (by rw [h.l5 (by omega)]; decide) (by rw [h.l5 (by omega)]; omega))).trans (h.gs i hi)
theorem k_jo (h : PRM m w rb s) (q : ∀ k, m.lab k ≠ 0 → m.lab k ≠ t → w'.heap[k]? = w.heap[k]?) (ht : t ≠ 6) : w'.heap[m.jv]? = some (.cells (jcl s.n m.jp) 97 (0, 0)) :=
  (q m.jv (by rw [h.l6]; decide) (by rw [h.l6]; omega)).trans h.jo
theorem k_gd (h : PRM m w rb s) (q : ∀ k, m.lab k ≠ 0 → m.lab k ≠ t → w'.heap[k]? = w.heap[k]?) : ∀ i, i < s.n → t ≠ 7 + 2 * i → Sg.DG w' (m.ga i) (s.z i 0) (s.G i) :=
  fun i hi ht => (h.gd i hi).keep (q _ (by rw [h.l7 i hi]; omega) (by rw [h.l7 i hi]; omega))
theorem k_jb (h : PRM m w rb s) (q : ∀ k, m.lab k ≠ 0 → m.lab k ≠ t → w'.heap[k]? = w.heap[k]?) (hs : w.heap.size ≤ w'.heap.size) : ∀ i, i < s.n → m.p i = true → t ≠ 8 + 2 * i → DJ w' (m.ja i) (m.jr i) (m.jg i) (s.J i) :=
  fun i hi hp ht => dj_keep (h.jb i hi hp) (fun k hk => q k (by rw [h.l8 i hi hp k hk]; omega) (by rw [h.l8 i hi hp k hk]; omega)) (Nat.lt_of_lt_of_le (h.jb i hi hp).gl hs)
theorem k_lt (h : PRM m w rb s) (hs : w.heap.size ≤ w'.heap.size) : ∀ k, m.lab k ≠ 0 → k < w'.heap.size := fun k hk => Nat.lt_of_lt_of_le (h.lt k hk) hs
/-- of which blocks the room is made behind a step -/
def Lb (m m' : Mm) (w : World) : Prop := ∀ k, m'.lab k ≠ 0 → m.lab k ≠ 0 ∨ w.heap.size ≤ k
/-- the stack has turned -/
theorem PRM.stack (h : PRM m w rb s) {lv' : Value} {E' : List St.Sk.En} (so : St.RO w' m.sb s.n s.z E' m.sv lv') (o : St.Only (St.SB m.sb m.lv) w w') (mv : St.Mv w m.lv lv') :
    (∃ m', PRM m' w' rb { s with E := E' } ∧ m'.p = m.p ∧ m'.ja = m.ja ∧ m'.jr = m.jr ∧ m'.jg = m.jg ∧ Lb m m' w) ∧ Only (fun k => m.lab k ≠ 0) w w' := by
  have hS : ∀ k, St.SB m.sb m.lv k → m.lab k = 2 := fun k hk => h.l2 k (Or.inl hk)
  have q : ∀ k, m.lab k ≠ 0 → m.lab k ≠ 2 → w'.heap[k]? = w.heap[k]? := fun k h0 h2 => o.block k (h.lt k h0) (fun y => h2 (hS k y))
  have hs := o.size
  obtain ⟨L, hL⟩ : ∃ L, L = relab m.lab w.heap.size 2 (fun k => lv'.ownBlock = some k) := ⟨_, rfl⟩
  have hold : ∀ k, m.lab k ≠ 0 → L k = m.lab k := fun k hk => by rw [hL]; exact relab_old (h.lt k hk)
  have hn0 : ∀ {k n : Nat}, m.lab k = n → n ≠ 0 → L k = n := fun {k n} e hn => (hold k (by rw [e]; exact hn)).trans e
  have eob := k_ob h q (by decide)
  have eqs := k_qs h q (by decide)
  have etk := k_tk h q (by decide)
  have egs := k_gs h q (by decide)
  have ejo := k_jo h q (by decide)
  refine ⟨⟨{ m with lv := lv', lab := L }, ⟨eob, so, eqs, etk, h.gf, egs, ejo, fun i hi => k_gd h q i hi (by omega), fun i hi hp => k_jb h q hs i hi hp (by omega),
    hn0 h.l1 (by decide), ?_, ⟨hn0 h.l3.1 (by decide), fun k hk => hn0 (h.l3.2 k hk) (by decide)⟩, fun hn k hk => hn0 (h.l4 hn k hk) (by decide), fun hn => hn0 (h.l5 hn) (by decide), hn0 h.l6 (by decide),
    fun i hi => hn0 (h.l7 i hi) (by omega), fun i hi hp k hk => hn0 (h.l8 i hi hp k hk) (by omega), ?_⟩, rfl, rfl, rfl, rfl, ?_⟩, only_mono (o_st o) (fun k hk => by rw [hS k hk]; decide)⟩
  · intro k hk
    have hcase : (St.SB m.sb m.lv k ∨ m.sv.ownBlock = some k) ∨ (w.heap.size ≤ k ∧ lv'.ownBlock = some k) := by
      rcases hk with (e | e) | e
      · exact Or.inl (Or.inl (Or.inl e))
      · rcases mv k e with y | y
        · exact Or.inl (Or.inl (Or.inr y))
        · exact Or.inr ⟨y, e⟩
      · exact Or.inl (Or.inr e)
    rcases hcase with y | ⟨y, z⟩
    · exact hn0 (h.l2 k y) (by decide)
    · show L k = 2
      rw [hL]; exact relab_new y z
  · intro k hk
    have hk' : L k ≠ 0 := hk
    rw [hL] at hk'
    rcases relab_or hk' with y | y
    · exact Nat.lt_of_lt_of_le y.1 hs
    · exact (so.ow.lt k y.2).2
  · intro k hk
    have hk' : L k ≠ 0 := hk
    rw [hL] at hk'
    rcases relab_or hk' with y | y
    · exact Or.inl y.2
    · exact Or.inr y.1
/-- the queue has turned -/
theorem PRM.queue (h : PRM m w rb s) {L' : List Int} (qs : Rq.DQ w' m.qb m.qC L' m.qv) (o : Rq.Only (fun k => m.qv.ownBlock = some k) w w') :
    PRM m w' rb { s with L := L' } ∧ Only (fun k => m.lab k ≠ 0) w w' := by
  obtain ⟨q1, q2⟩ := h.l3
  have q : ∀ k, m.lab k ≠ 0 → m.lab k ≠ 3 → w'.heap[k]? = w.heap[k]? := fun k h0 h2 => o.block k (h.lt k h0) (fun y => h2 (q2 k y))
  have hs := o.size
  have eob := k_ob h q (by decide)
  have eso := k_so h q (by decide) hs
  have etk := k_tk h q (by decide)
  have egs := k_gs h q (by decide)
  have ejo := k_jo h q (by decide)
  exact ⟨⟨eob, eso, qs, etk, h.gf, egs, ejo, fun i hi => k_gd h q i hi (by omega), fun i hi hp => k_jb h q hs i hi hp (by omega),
    h.l1, h.l2, h.l3, h.l4, h.l5, h.l6, h.l7, h.l8, k_lt h hs⟩, only_mono (o_rq o) (fun k hk => by rw [q2 k hk]; decide)⟩
/-- a job has turned -/
theorem PRM.job (h : PRM m w rb s) (hi : t < s.n) (hp : m.p t = true) {j : Jb} (pj : DJ w' (m.ja t) (m.jr t) (m.jg t) j) (o : Only (Tri (m.ja t) (m.jr t) (m.jg t)) w w') :
    PRM m w' rb { s with J := fun i => if i = t then j else s.J i } ∧ Only (fun k => m.lab k ≠ 0) w w' := by
  have hS : ∀ k, Tri (m.ja t) (m.jr t) (m.jg t) k → m.lab k = 8 + 2 * t := fun k hk => h.l8 t hi hp k hk
  have q : ∀ k, m.lab k ≠ 0 → m.lab k ≠ 8 + 2 * t → w'.heap[k]? = w.heap[k]? := fun k h0 h2 => o.block k (h.lt k h0) (fun y => h2 (hS k y))
  have hs := o.size
  have eob := k_ob h q (by omega)
  have eso := k_so h q (by omega) hs
  have eqs := k_qs h q (by omega)
  have etk := k_tk h q (by omega)
  have egs := k_gs h q (by omega)
  have ejo := k_jo h q (by omega)
  refine ⟨⟨eob, eso, eqs, etk, h.gf, egs, ejo, fun i hi => k_gd h q i hi (by omega), fun i hi' hp' => ?_,
    h.l1, h.l2, h.l3, h.l4, h.l5, h.l6, h.l7, h.l8, k_lt h hs⟩, only_mono o (fun k hk => by rw [hS k hk]; omega)⟩
  show DJ w' (m.ja i) (m.jr i) (m.jg i) (if i = t then j else s.J i)
  by_cases e : i = t
  · subst e; rw [if_pos rfl]; exact pj
  · rw [if_neg e]; exact k_jb h q hs i hi' hp' (by omega)
/-- a guard has turned -/
theorem PRM.guard (h : PRM m w rb s) (hi : t < s.n) {x : Int} (g : Sg.DG w' (m.ga t) (s.z t 0) x) (o : Sg.Only (m.ga t) w w') :
    PRM m w' rb { s with G := fun i => if i = t then x else s.G i } ∧ Only (fun k => m.lab k ≠ 0) w w' := by
  have q : ∀ k, m.lab k ≠ 0 → m.lab k ≠ 7 + 2 * t → w'.heap[k]? = w.heap[k]? := fun k h0 h2 => o.block k (h.lt k h0) (fun y => h2 (by rw [y]; exact h.l7 t hi))
  have hs := o.size
  have eob := k_ob h q (by omega)
  have eso := k_so h q (by omega) hs
  have eqs := k_qs h q (by omega)
  have etk := k_tk h q (by omega)
  have egs := k_gs h q (by omega)
  have ejo := k_jo h q (by omega)
  refine ⟨⟨eob, eso, eqs, etk, h.gf, egs, ejo, fun i hi' => ?_, fun i hi hp => k_jb h q hs i hi hp (by omega),
    h.l1, h.l2, h.l3, h.l4, h.l5, h.l6, h.l7, h.l8, k_lt h hs⟩, only_mono (o_sg o) (fun k hk => by rw [hk, h.l7 t hi]; omega)⟩
  show Sg.DG w' (m.ga i) (s.z i 0) (if i = t then x else s.G i)
  by_cases e : i = t
  · subst e; rw [if_pos rfl]; exact g
  · rw [if_neg e]; exact k_gd h q i hi' (by omega)
theorem set_jv (h : PRM m w rb s) (v : Value) : ∀ k, m.lab k ≠ 0 → m.lab k ≠ 6 → (w.setCell ⟨m.jv, t, none⟩ v).heap[k]? = w.heap[k]? := fun k h0 h6 => Below.heap_setCell _ _ _ _ (fun e => h6 (by rw [e]; exact h.l6))
/-- a job is put in -/
theorem PRM.put (h : PRM m w rb s) (hi : t < s.n) {jb rg g : Nat} {j : Jb} (pj : DJ w jb rg g j) (hl : ∀ k, Tri jb rg g k → m.lab k = 0) :
    (∃ m', PRM m' (w.setCell ⟨m.jv, t, none⟩ (.pointer (some ⟨jb, 0, none⟩))) rb { s with J := fun i => if i = t then j else s.J i } ∧ m'.p = (fun i => if i = t then true else m.p i) ∧ m'.qb = m.qb ∧ (∀ k, m'.lab k ≠ 0 → m.lab k ≠ 0 ∨ Tri jb rg g k))
      ∧ Only (fun k => m.lab k ≠ 0) w (w.setCell ⟨m.jv, t, none⟩ (.pointer (some ⟨jb, 0, none⟩))) := by
  have q := set_jv (t := t) h (.pointer (some ⟨jb, 0, none⟩))
  have hs : w.heap.size ≤ (w.setCell ⟨m.jv, t, none⟩ (.pointer (some ⟨jb, 0, none⟩))).heap.size := by rw [set_size]; exact Nat.le_refl _
  have hjn : ∀ k, Tri jb rg g k → k ≠ m.jv := fun k hk e => by have := hl k hk; rw [e, h.l6] at this; cases this
  haveI : DecidablePred (Tri jb rg g) := fun k => by unfold Tri; exact inferInstance
  obtain ⟨L, hL⟩ : ∃ L : Nat → Nat, L = fun k => if Tri jb rg g k then 8 + 2 * t else m.lab k := ⟨_, rfl⟩
  have hold : ∀ k, m.lab k ≠ 0 → L k = m.lab k := fun k hk => by rw [hL]; exact if_neg (fun y => hk (hl k y))
  have hn0 : ∀ {k n : Nat}, m.lab k = n → n ≠ 0 → L k = n := fun {k n} e hn => (hold k (by rw [e]; exact hn)).trans e
  have hor : ∀ k, L k ≠ 0 → m.lab k ≠ 0 ∨ Tri jb rg g k := fun k hk => by
    rw [hL] at hk
    by_cases y : Tri jb rg g k
    · exact Or.inr y
    · exact Or.inl (by simpa [y] using hk)
  have eob := k_ob h q (by decide)
  have eso := k_so h q (by decide) hs
  have eqs := k_qs h q (by decide)
  have etk := k_tk h q (by decide)
  have egs := k_gs h q (by decide)
  refine ⟨⟨{ m with p := fun i => if i = t then true else m.p i, ja := fun i => if i = t then jb else m.ja i, jr := fun i => if i = t then rg else m.jr i, jg := fun i => if i = t then g else m.jg i, lab := L },
    ⟨eob, eso, eqs, etk, h.gf, egs, ?_, fun i hi => k_gd h q i hi (by omega), fun i hi' hp' => ?_,
    hn0 h.l1 (by decide), fun k hk => hn0 (h.l2 k hk) (by decide), ⟨hn0 h.l3.1 (by decide), fun k hk => hn0 (h.l3.2 k hk) (by decide)⟩, fun hn k hk => hn0 (h.l4 hn k hk) (by decide), fun hn => hn0 (h.l5 hn) (by decide), hn0 h.l6 (by decide),
    fun i hi => hn0 (h.l7 i hi) (by omega), fun i hi' hp' k hk => ?_, fun k hk => ?_⟩, rfl, rfl, hor⟩, Only.set w t _ (by show m.lab m.jv ≠ 0; rw [h.l6]; decide)⟩
  · rw [heap_setCell_same w m.jv t _ _ _ h.jo, jcl_set]
    congr 2
    refine jcl_ext fun i _ => ?_
    unfold Mm.jp
    by_cases e : i = t
    · subst e; simp
    · simp [e]
  · have hp2 : (if i = t then true else m.p i) = true := hp'
    show DJ _ (if i = t then jb else m.ja i) (if i = t then rg else m.jr i) (if i = t then g else m.jg i) (if i = t then j else s.J i)
    by_cases e : i = t
    · rw [if_pos e, if_pos e, if_pos e, if_pos e]
      exact dj_keep pj (fun k hk => Below.heap_setCell _ _ _ _ (hjn k hk)) (Nat.lt_of_lt_of_le pj.gl hs)
    · rw [if_neg e] at hp2
      rw [if_neg e, if_neg e, if_neg e, if_neg e]
      exact k_jb h q hs i hi' hp2 (by omega)
  · have hp2 : (if i = t then true else m.p i) = true := hp'
    have hk2 : Tri (if i = t then jb else m.ja i) (if i = t then rg else m.jr i) (if i = t then g else m.jg i) k := hk
    by_cases e : i = t
    · rw [if_pos e, if_pos e, if_pos e] at hk2
      show L k = 8 + 2 * i
      rw [hL, e]; exact if_pos hk2
    · rw [if_neg e] at hp2
      rw [if_neg e, if_neg e, if_neg e] at hk2
      exact hn0 (h.l8 i hi' hp2 k hk2) (by omega)
  · rw [set_size]
    rcases hor k hk with y | y
    · exact h.lt k y
    · rcases y with y | y | y
      · rw [y]; exact pj.lt
      · rw [y]; exact pj.rw.lt
      · rw [y]; exact pj.gl
/-- a job is no more -/
theorem PRM.drop (h : PRM m w rb s) (hi : t < s.n) :
    (∃ m', PRM m' (w.setCell ⟨m.jv, t, none⟩ (.pointer none)) rb s ∧ m'.p = (fun i => if i = t then false else m.p i) ∧ m'.lab = m.lab) ∧ Only (fun k => m.lab k ≠ 0) w (w.setCell ⟨m.jv, t, none⟩ (.pointer none)) := by
  have q := set_jv (t := t) h (.pointer none)
  have hs : w.heap.size ≤ (w.setCell ⟨m.jv, t, none⟩ (.pointer none)).heap.size := by rw [set_size]; exact Nat.le_refl _
  have hpf : ∀ i, (if i = t then false else m.p i) = true → i ≠ t ∧ m.p i = true := fun i hp => by
    by_cases e : i = t
    · rw [if_pos e] at hp; cases hp
    · rw [if_neg e] at hp; exact ⟨e, hp⟩
  have eob := k_ob h q (by decide)
  have eso := k_so h q (by decide) hs
  have eqs := k_qs h q (by decide)
  have etk := k_tk h q (by decide)
  have egs := k_gs h q (by decide)
  have elt := k_lt h hs
  refine ⟨⟨{ m with p := fun i => if i = t then false else m.p i },
    ⟨eob, eso, eqs, etk, h.gf, egs, ?_, fun i hi => k_gd h q i hi (by omega), fun i hi' hp' => k_jb h q hs i hi' (hpf i hp').2 (by omega),
    h.l1, h.l2, h.l3, h.l4, h.l5, h.l6, h.l7, fun i hi' hp' => h.l8 i hi' (hpf i hp').2, elt⟩, rfl, rfl⟩, Only.set w t _ (by show m.lab m.jv ≠ 0; rw [h.l6]; decide)⟩
  rw [heap_setCell_same w m.jv t _ _ _ h.jo, jcl_set]
  congr 2
  refine jcl_ext fun i _ => ?_
  unfold Mm.jp
  by_cases e : i = t
  · subst e; simp
  · simp [e]
end
/-- the document's room -/
def JJ (w : World) (rb : Nat) (S : Nat → Prop) (s : Rm) : Prop := ∃ m, PRM m w rb s ∧ (∀ i, i < s.n → m.p i = decide (0 ≤ s.dl i)) ∧ ∀ k, S k ↔ m.lab k ≠ 0
/-- a call of it, of what it is made -/
theorem RP.of {m m' : Mm} {w w' : World} {rb : Nat} {s' : Rm} {S : Nat → Prop} {v : Value} (hS : ∀ k, S k ↔ m.lab k ≠ 0) (h : PRM m' w' rb s') (hp : ∀ i, i < s'.n → m'.p i = decide (0 ≤ s'.dl i)) (hl : Lb m m' w) (o : Only (fun k => m.lab k ≠ 0) w w') : RP JJ v rb S s' w (.returned v) w' :=
  ⟨rfl, fun k => m'.lab k ≠ 0, ⟨m', h, hp, fun _ => Iff.rfl⟩, fun k hk => (hl k hk).imp (hS k).2 id, only_mono o (fun k hk => (hS k).2 hk)⟩
end Go.Proofs.YtkkmfpllgjoceaaGreat.Ro.Dr
