/- TurnWho: both kinds of purses, in rows of the call's own. -/
import Derived.Test.YtfjeoefnpcgnnaaTurV
import Derived.Test.YtfjeoefnpcgnnaaTurT
import Derived.Deep.RegionHeld3
namespace Go.Proofs.Ytfjeoefnpcgnnaa.Pw
open Go.RowKit Go.Sort Pu
set_option linter.unusedVariables false
set_option maxRecDepth 100000

/-- rows of four numbers and a bool that came in -/
def OS (w : World) (v : Value) (n : Nat) (d : Nat → Nat → Int) (nb : Nat → Bool) : Prop :=
  ∃ a cap, v = .slice a n cap ∧ n ≤ cap ∧ cap ≤ maxLen ∧
    (0 < n → ∃ b off, a = some ⟨b, off, none⟩ ∧ ∀ i, i < n → (∀ j, j < 4 → w.cell? ⟨b, off + i * 5 + j, none⟩ = some (.int .i64 (d i j))) ∧ w.cell? ⟨b, off + i * 5 + 4, none⟩ = some (.bool (nb i)))
theorem OS.nil (w : World) (d : Nat → Nat → Int) (nb : Nat → Bool) : OS w (.slice none 0 0) 0 d nb := ⟨none, 0, rfl, Nat.le_refl _, Nat.zero_le _, fun h => by cases h⟩
theorem OS.slice {w : World} {v : Value} {n : Nat} {d : Nat → Nat → Int} {nb : Nat → Bool} (h : OS w v n d nb) : ∃ a cap, v = .slice a n cap ∧ n ≤ cap ∧ cap ≤ maxLen := by obtain ⟨a, cap, h1, h2, h3, _⟩ := h; exact ⟨a, cap, h1, h2, h3⟩
theorem OS.below {w w' : World} {v : Value} {n : Nat} {d : Nat → Nat → Int} {nb : Nat → Bool} (h : OS w v n d nb) (q : Below w.heap.size w w') : OS w' v n d nb := by
  obtain ⟨a, cap, h1, h2, h3, h5⟩ := h
  exact ⟨a, cap, h1, h2, h3, fun hn => by obtain ⟨b, off, e, hc⟩ := h5 hn; exact ⟨b, off, e, fun i hi => ⟨fun j hj => (q.cell (lt_of_cell ((hc i hi).1 j hj))).trans ((hc i hi).1 j hj), (q.cell (lt_of_cell (hc i hi).2)).trans (hc i hi).2⟩⟩⟩
theorem OS.at {w : World} {n cap : Nat} {a : Option Addr} {m : Nat} {d : Nat → Nat → Int} {nb : Nat → Bool} (h : OS w (.slice a n cap) m d nb) {i : Nat} (hi : i < n) : ∃ b off, a = some ⟨b, off, none⟩ ∧ w.cell? ⟨b, off + i * 5, none⟩ = some (.int .i64 (d i 0)) ∧ w.cell? ⟨b, off + i * 5 + 1, none⟩ = some (.int .i64 (d i 1)) ∧ w.cell? ⟨b, off + i * 5 + 2, none⟩ = some (.int .i64 (d i 2)) ∧ w.cell? ⟨b, off + i * 5 + 3, none⟩ = some (.int .i64 (d i 3)) ∧ w.cell? ⟨b, off + i * 5 + 4, none⟩ = some (.bool (nb i)) := by
  obtain ⟨a', cap', e, h1, h2, h4⟩ := h
  obtain ⟨rfl, rfl, rfl⟩ : a = a' ∧ n = m ∧ cap = cap' := by simpa using e
  obtain ⟨b, off, rfl, hc⟩ := h4 (by omega)
  obtain ⟨h5, h6⟩ := hc i hi
  exact ⟨b, off, rfl, h5 0 (by decide), h5 1 (by decide), h5 2 (by decide), h5 3 (by decide), h6⟩
/-- a row's pointers -/
def ptrs (c : Nat → Nat) (s : Nat → Option St) (m : Nat) : List Value := (List.range m).map (ptr c s)
theorem ptrs_len (c : Nat → Nat) (s : Nat → Option St) (m : Nat) : (ptrs c s m).length = m := by simp [ptrs]
theorem ptrs_at (c : Nat → Nat) (s : Nat → Option St) {m i : Nat} (h : i < m) : (ptrs c s m)[i]? = some (ptr c s i) := by simp [ptrs, h]
theorem ptrs_succ (c : Nat → Nat) (s : Nat → Option St) (m b : Nat) (o : Option St) : ptrs (setS c m b) (setS s m o) (m + 1) = ptrs c s m ++ [.pointer (o.map fun _ => (⟨b, 0, none⟩ : Addr))] := by
  unfold ptrs
  rw [List.range_succ, List.map_append]
  congr 1
  · apply List.map_congr_left
    intro i hi
    have hi' : i < m := List.mem_range.1 hi
    unfold ptr
    rw [setS_ne _ _ (by omega), setS_ne _ _ (by omega)]
  · simp [ptr, setS_at]
theorem infoA : (Try.prog.info? 34).map (fun i => (i.zero, i.size, i.bytes)) = some (some (.pointer none), 1, 8) := by kernel_rfl
theorem infoB : (Try.prog.info? 39).map (fun i => (i.zero, i.size, i.bytes)) = some (some (.pointer none), 1, 8) := by kernel_rfl
/-- a pointer more -/
theorem app_ptr {w : World} {C m : Nat} {v : Value} {xs : List Value} {t e : TypeId} (ht : Try.prog.underlying t = some (.slice e)) (hinfo : (Try.prog.info? e).map (fun i => (i.zero, i.size, i.bytes)) = some (some (.pointer none), 1, 8)) (h : w.ownsRow C e 1 v m xs) (x : Option Addr) {g : Nat} (hg : w.heap[g]? = some (.cells #[.pointer x] e (0, 0))) (hB : C ≤ w.heap.size) (hm : m ≤ 1000) :
    ∃ a cap w', (Builtin.append_ #[t, t] t #[v, .slice (some ⟨g, 0, none⟩) 1 1]).run Try.prog w = .ok (.slice a (m + 1) cap) w' ∧ w'.ownsRow C e 1 (.slice a (m + 1) cap) (m + 1) (xs ++ [.pointer x]) ∧ w.grownBy w' v.ownBlock := by
  obtain ⟨i0, hi, hz0, hz1, hz2⟩ := info_parts hinfo
  obtain ⟨v', w', hrun, hown', hgr, _⟩ := run_append_own (P := Try.prog) (w := w) C t t e i0 (.pointer none) 1 8 ht hi hz0 hz1 hz2 rfl (by decide) v m _ h ⟨g, 0, none⟩ 1 1 [.pointer x] rfl
    (fun j u hj => by rw [Addr.add_lit, Nat.zero_add, cell_of_row _ _ j _ _ _ hg, List.getElem?_toArray]; exact hj) (by intro u hu; simp at hu; subst hu; rfl) (by unfold maxLen; omega) (by omega) hB
  obtain ⟨a, cap, rfl⟩ : ∃ a cap, v' = .slice a (m + 1) cap := by
    rcases hown'.2 with ⟨_, h0⟩ | ⟨g, cap, cur, e, _⟩
    · omega
    · exact ⟨_, _, e⟩
  exact ⟨a, cap, w', hrun, hown', hgr⟩
theorem own_keep {w w' : World} {C m : Nat} {v : Value} {xs : List Value} {e : TypeId} (h : w.ownsRow C e 1 v m xs) (hk : ∀ (j : Nat) (cur : Array Value) (fr : Nat × Nat), w.heap[j]? = some (Obj.cells cur e fr) → w'.heap[j]? = w.heap[j]?) : w'.ownsRow C e 1 v m xs := by
  refine ⟨h.1, ?_⟩
  rcases h.2 with hn | ⟨g, cap, cur, rfl, hb, hgg, rest⟩
  · exact Or.inl hn
  · exact Or.inr ⟨g, cap, cur, rfl, hb, (hk g cur _ hgg).trans hgg, rest⟩
theorem own_blk {w : World} {C m : Nat} {v : Value} {xs : List Value} {e : TypeId} (h : w.ownsRow C e 1 v m xs) {k : Nat} (e' : v.ownBlock = some k) : ∃ cur fr, w.heap[k]? = some (.cells cur e fr) := by
  rcases h.2 with ⟨rfl, _⟩ | ⟨g, cap, cur, rfl, hb, hgg, rest⟩
  · simp [Value.ownBlock] at e'
  · simp [Value.ownBlock] at e'; subst e'; exact ⟨cur, _, hgg⟩
theorem DW.of_own {PD : World → Nat → St → Prop} {w : World} {C m : Nat} {v : Value} {c : Nat → Nat} {s : Nat → Option St} {e : TypeId} (h : w.ownsRow C e 1 v m (ptrs c s m)) (hp : ∀ i x, i < m → s i = some x → PD w (c i) x) : DW PD w v m s := by
  have hc := fun g => World.ownsRow.cells h (g := g)
  rcases h.2 with ⟨rfl, h0⟩ | ⟨g, cap, cur, rfl, hb, hh, hnc, hcm, _⟩
  · subst h0; exact DW.nil _ _ _
  · refine ⟨_, cap, rfl, hnc, hcm, fun _ => ⟨g, 0, rfl, fun i hi => ?_⟩⟩
    have q1 := hc g rfl i _ (ptrs_at c s hi)
    rw [Addr.add_lit] at q1
    unfold ptr at q1
    cases hs : s i with
    | none => rw [hs] at q1; exact q1
    | some x => rw [hs] at q1; exact ⟨c i, q1, hp i x hi hs⟩
/-- both rows -/
structure WM (B0 : Nat) (W w : World) (va vb : Value) (m : Nat) (ca cb : Nat → Nat) (s : Nat → Option St) : Prop where
  ra : w.ownsRow B0 34 1 va m (ptrs ca s m)
  rb : w.ownsRow B0 39 1 vb m (ptrs cb s m)
  pa : ∀ i x, i < m → s i = some x → PP w (ca i) x
  pb : ∀ i x, i < m → s i = some x → DP w (cb i) x
  ok : OkS m s
  bel : Below B0 W w
  le : B0 ≤ W.heap.size
section
variable {B0 : Nat} {W w w' : World} {va vb : Value} {m : Nat} {ca cb : Nat → Nat} {s : Nat → Option St} {b : Nat} {x y : St}
theorem WM.B0le (h : WM B0 W w va vb m ca cb s) : B0 ≤ w.heap.size := Nat.le_trans h.le h.bel.size
theorem WM.below (h : WM B0 W w va vb m ca cb s) (q : Below w.heap.size w w') : WM B0 W w' va vb m ca cb s :=
  ⟨own_keep h.ra fun j cur fr e => q.block j (lt_of_block e), own_keep h.rb fun j cur fr e => q.block j (lt_of_block e), fun i x hi hs => (h.pa i x hi hs).below q, fun i x hi hs => (h.pb i x hi hs).keep (q.block _ (h.pb i x hi hs).lt), h.ok, h.bel.trans (q.mono h.B0le), h.le⟩
theorem pp_ne {g : Nat} {cur : Array Value} {T' : TypeId} {fr : Nat × Nat} (h : PP w b x) (hg : w.heap[g]? = some (.cells cur T' fr)) (ht : T' = 34 ∨ T' = 39) : b ≠ g := by
  obtain ⟨y, r, _⟩ := h
  rintro rfl; have := r.symm.trans hg; simp at this; rcases ht with e | e <;> rw [e] at this <;> exact absurd this.2.1 (by decide)
theorem pr_ne {g : Nat} {p q : Int} {cur : Array Value} {T' : TypeId} {fr : Nat × Nat} (h : RT w b p q) (hg : w.heap[g]? = some (.cells cur T' fr)) (ht : T' = 34 ∨ T' = 39) : b ≠ g := by
  rintro rfl; have := h.symm.trans hg; simp at this; rcases ht with e | e <;> rw [e] at this <;> exact absurd this.2.1 (by decide)
theorem dp_ne {g : Nat} {cur : Array Value} {T' : TypeId} {fr : Nat × Nat} (h : DP w b x) (hg : w.heap[g]? = some (.cells cur T' fr)) (ht : T' = 34 ∨ T' = 39) : b ≠ g := by
  rintro rfl; have := h.symm.trans hg; simp at this; rcases ht with e | e <;> rw [e] at this <;> exact absurd this.2.1 (by decide)
theorem pp_off {g : Nat} {cur : Array Value} {T' : TypeId} {fr : Nat × Nat} (h : PP w b x) (hg : w.heap[g]? = some (.cells cur T' fr)) (ht : T' = 34 ∨ T' = 39) (o : Only g w w') : PP w' b x := by
  have hn := pp_ne h hg ht
  obtain ⟨y, r, px⟩ := h
  exact ⟨y, (o.block _ r.lt hn).trans r, px.keep fun nb p q t => (o.block nb t.lt (pr_ne t hg ht)).trans t⟩
theorem dp_off {g : Nat} {cur : Array Value} {T' : TypeId} {fr : Nat × Nat} (h : DP w b x) (hg : w.heap[g]? = some (.cells cur T' fr)) (ht : T' = 34 ∨ T' = 39) (o : Only g w w') : DP w' b x := (o.block _ h.lt (dp_ne h hg ht)).trans h
/-- a new purse of the program's is asked -/
theorem WM.keepP (h : WM B0 W w va vb m ca cb s) (hp : PP w b x) (hf : ∀ i y, i < m → s i = some y → ca i ≠ b) (hB : B0 ≤ b) (o : Only b w w') : WM B0 W w' va vb m ca cb s :=
  ⟨own_keep h.ra fun j cur fr e => o.block j (lt_of_block e) (Ne.symm (pp_ne hp e (Or.inl rfl))), own_keep h.rb fun j cur fr e => o.block j (lt_of_block e) (Ne.symm (pp_ne hp e (Or.inr rfl))), fun i y hi hs => pk_prog.other (h.pa i y hi hs) hp (hf i y hi hs) o, fun i y hi hs => (h.pb i y hi hs).other hp o, h.ok, h.bel.trans (o.below h.B0le hB), h.le⟩
/-- a new purse of the document's is asked -/
theorem WM.keepD (h : WM B0 W w va vb m ca cb s) (hp : DP w b x) (hf : ∀ i y, i < m → s i = some y → cb i ≠ b) (hB : B0 ≤ b) (o : Only b w w') : WM B0 W w' va vb m ca cb s :=
  ⟨own_keep h.ra fun j cur fr e => o.block j (lt_of_block e) (Ne.symm (dp_ne hp e (Or.inl rfl))), own_keep h.rb fun j cur fr e => o.block j (lt_of_block e) (Ne.symm (dp_ne hp e (Or.inr rfl))), fun i y hi hs => (h.pa i y hi hs).other hp o, fun i y hi hs => (o.block _ (h.pb i y hi hs).lt (hf i y hi hs)).trans (h.pb i y hi hs), h.ok, h.bel.trans (o.below h.B0le hB), h.le⟩
theorem only_of_grown {v : Value} {k : Nat} (q : w.grownBy w' v.ownBlock) (e : v.ownBlock = some k) : Only k w w' := ⟨q.os, q.tape, q.output, q.size, fun j hj hne => q.block j hj (by rw [e]; simpa using hne)⟩
theorem below_of_grown {v : Value} (q : w.grownBy w' v.ownBlock) (e : v.ownBlock = none) : Below w.heap.size w w' := ⟨q.os, q.tape, q.output, q.size, fun j hj => q.block j hj (by rw [e]; simp)⟩
/-- what is kept when a row of pointers grows -/
theorem grown_keep {v : Value} {C n : Nat} {ys : List Value} {e : TypeId} (he : e = 34 ∨ e = 39) (hv : w.ownsRow C e 1 v n ys) (q : w.grownBy w' v.ownBlock) (hC : C ≤ w.heap.size) :
    (∀ b x, PP w b x → PP w' b x) ∧ (∀ b x, DP w b x → DP w' b x) ∧ Below C w w' ∧ (∀ e', e' ≠ e → ∀ (j : Nat) (cur : Array Value) (fr : Nat × Nat), w.heap[j]? = some (Obj.cells cur e' fr) → w'.heap[j]? = w.heap[j]?) := by
  cases hk : v.ownBlock with
  | none =>
    have q2 := below_of_grown q hk
    exact ⟨fun b x h => h.below q2, fun b x h => h.keep (q2.block b h.lt), q2.mono hC, fun e' _ j cur fr hj => q2.block j (lt_of_block hj)⟩
  | some k =>
    have q2 := only_of_grown q hk
    obtain ⟨cur, fr, hg⟩ := own_blk hv hk
    have hB := (World.ownsRow.lt hv k hk).1
    exact ⟨fun b x h => pp_off h hg he q2, fun b x h => dp_off h hg he q2, q2.below hC hB, fun e' hne j cur' fr' hj => q2.block j (lt_of_block hj) (by rintro rfl; have := hj.symm.trans hg; simp at this; exact hne this.2.1)⟩
end
/-- one more in both rows: the appends -/
theorem WM.app {B0 : Nat} {W w : World} {va vb : Value} {m : Nat} {ca cb : Nat → Nat} {s : Nat → Option St} (h : WM B0 W w va vb m ca cb s) (hm : m ≤ 100) (o : Option St) (a b : Nat) (ha : ∀ x, o = some x → PP w a x) (hb : ∀ x, o = some x → DP w b x) (hok : ∀ x, o = some x → 0 ≤ x.n ∧ 0 ≤ x.e ∧ (x.ov = true → x.n = 0)) :
    ∃ a1 c1 w1 a2 c2 w2, (Builtin.append_ #[32, 32] 32 #[va, .slice (some ⟨w.heap.size, 0, none⟩) 1 1]).run Try.prog (w.alloc (.cells #[.pointer (o.map fun _ => (⟨a, 0, none⟩ : Addr))] 34)) = .ok (.slice a1 (m + 1) c1) w1 ∧
      (Builtin.append_ #[33, 33] 33 #[vb, .slice (some ⟨w1.heap.size, 0, none⟩) 1 1]).run Try.prog (w1.alloc (.cells #[.pointer (o.map fun _ => (⟨b, 0, none⟩ : Addr))] 39)) = .ok (.slice a2 (m + 1) c2) w2 ∧
      WM B0 W w2 (.slice a1 (m + 1) c1) (.slice a2 (m + 1) c2) (m + 1) (setS ca m a) (setS cb m b) (setS s m o) := by
  have q0 := below_al w (.cells #[.pointer (o.map fun _ => (⟨a, 0, none⟩ : Addr))] 34)
  have h0 := h.below q0
  obtain ⟨a1, c1, w1, hr1, ho1, hg1⟩ := app_ptr Try.underlying32 infoA h0.ra (o.map fun _ => (⟨a, 0, none⟩ : Addr)) (g := w.heap.size) (heap_alloc_new w _) h0.B0le (by omega)
  obtain ⟨k1, k2, k3, k4⟩ := grown_keep (Or.inl rfl) h0.ra hg1 h0.B0le
  have q1 := below_al w1 (.cells #[.pointer (o.map fun _ => (⟨b, 0, none⟩ : Addr))] 39)
  have hrb1 : w1.ownsRow B0 39 1 vb m (ptrs cb s m) := own_keep h0.rb (k4 _ (by decide))
  have hrb := own_keep (w' := w1.alloc (.cells #[.pointer (o.map fun _ => (⟨b, 0, none⟩ : Addr))] 39)) hrb1 fun j cur fr e => q1.block j (lt_of_block e)
  have hB1 : B0 ≤ w1.heap.size := Nat.le_trans h0.B0le k3.size
  have hB2 : B0 ≤ (w1.alloc (.cells #[.pointer (o.map fun _ => (⟨b, 0, none⟩ : Addr))] 39)).heap.size := Nat.le_trans hB1 q1.size
  obtain ⟨a2, c2, w2, hr2, ho2, hg2⟩ := app_ptr Try.underlying33 infoB hrb (o.map fun _ => (⟨b, 0, none⟩ : Addr)) (g := w1.heap.size) (heap_alloc_new w1 _) hB2 (by omega)
  obtain ⟨l1, l2, l3, l4⟩ := grown_keep (Or.inr rfl) hrb hg2 hB2
  have kp : ∀ b x, PP w b x → PP w2 b x := fun b x hx => l1 b x ((k1 b x (hx.below q0)).below q1)
  have kd : ∀ b x, DP w b x → DP w2 b x := fun b x hx => l2 b x (by have := k2 b x (hx.keep (q0.block b hx.lt)); exact this.keep (q1.block b this.lt))
  have ho1' := own_keep (own_keep (w' := w1.alloc (.cells #[.pointer (o.map fun _ => (⟨b, 0, none⟩ : Addr))] 39)) ho1 fun j cur fr e => q1.block j (lt_of_block e)) (l4 _ (by decide))
  refine ⟨a1, c1, w1, a2, c2, w2, hr1, hr2, ?_, ?_, fun i x hi hs => ?_, fun i x hi hs => ?_, fun i x hi hs => ?_, ((h0.bel.trans k3).trans (q1.mono hB1)).trans l3, h.le⟩
  · rw [ptrs_succ]; exact ho1'
  · rw [ptrs_succ]; exact ho2
  · by_cases e : i = m
    · rw [e, setS_at] at hs; rw [e, setS_at]; exact kp _ _ (ha x hs)
    · rw [setS_ne _ _ e] at hs ⊢; exact kp _ _ (h.pa i x (by omega) hs)
  · by_cases e : i = m
    · rw [e, setS_at] at hs; rw [e, setS_at]; exact kd _ _ (hb x hs)
    · rw [setS_ne _ _ e] at hs ⊢; exact kd _ _ (h.pb i x (by omega) hs)
  · by_cases e : i = m
    · rw [e, setS_at] at hs; exact hok x hs
    · rw [setS_ne _ _ e] at hs; exact h.ok i x (by omega) hs
end Go.Proofs.Ytfjeoefnpcgnnaa.Pw
