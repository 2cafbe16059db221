/- The calls of bells: Due. How rows of bells lie in memory. -/
import Derived.Test.YtdfolbnnhglpeaaBellB
import Derived.SizedLaws
import Derived.Laws.AppendOwnNone
namespace Go.Proofs.Ytdfolbnnhglpeaa
open Go.RowKit Rk
set_option linter.unusedVariables false

theorem infoBell : (Try.prog.info? 44).map (fun i => (i.zero, i.size, i.bytes)) = some (some (.agg #[.int .i64 0, .int .i64 0, .int .i64 0]), 3, 24) := by kernel_rfl
/-- cells of a list of bells -/
def bcells : List En → List Value
  | [] => []
  | x :: l => .int .i64 x.2 :: .int .i64 (x.1 / 16) :: .int .i64 (x.1 % 16) :: bcells l
theorem len_bcells (l : List En) : (bcells l).length = l.length * 3 := by
  induction l with
  | nil => rfl
  | cons x l ih => simp only [bcells, List.length_cons, ih]; omega
theorem bcells_append (l k : List En) : bcells (l ++ k) = bcells l ++ bcells k := by
  induction l with
  | nil => rfl
  | cons x l ih => simp only [List.cons_append, bcells, ih]
theorem get_bcells : ∀ (l : List En) (i : Nat) (h : i < l.length), (bcells l)[i * 3]? = some (.int .i64 (l[i]).2) ∧ (bcells l)[i * 3 + 1]? = some (.int .i64 ((l[i]).1 / 16)) ∧ (bcells l)[i * 3 + 2]? = some (.int .i64 ((l[i]).1 % 16))
  | x :: l, 0, _ => ⟨rfl, rfl, rfl⟩
  | x :: l, i + 1, h => by
    have := get_bcells l i (by simpa using h)
    have e1 : (i + 1) * 3 = i * 3 + 1 + 1 + 1 := by omega
    have e2 : (i + 1) * 3 + 1 = i * 3 + 1 + 1 + 1 + 1 := by omega
    have e3 : (i + 1) * 3 + 2 = i * 3 + 2 + 1 + 1 + 1 := by omega
    rw [e2, e3, e1]
    simp only [bcells, List.getElem?_cons_succ, List.getElem_cons_succ]
    exact this
theorem one_bcells (l : List En) : ∀ u ∈ bcells l, u.oneCell' = true := by
  induction l with
  | nil => intro u hu; cases hu
  | cons x l ih =>
    intro u hu
    simp only [bcells, List.mem_cons] at hu
    rcases hu with rfl | rfl | rfl | h
    · rfl
    · rfl
    · rfl
    · exact ih u h
/-- a row of bells of the call's own -/
def BR (w : World) (B : Nat) (v : Value) (l : List En) : Prop := w.ownsRow B 44 3 v l.length (bcells l)
theorem BR.nil (w : World) (B : Nat) : BR w B (.slice none 0 0) [] := World.ownsRow_nil w B 44 3
theorem BR.more {w : World} {B n : Nat} {v : Value} {l k : List En} {xs : List Value} (h : w.ownsRow B 44 3 v (l.length + n) (bcells l ++ xs)) (hn : n = k.length) (hx : xs = bcells k) : BR w B v (l ++ k) := by
  subst hn hx
  unfold BR
  rw [bcells_append, List.length_append]
  exact h
section
variable {w w' : World} {B : Nat} {v : Value} {l : List En}
theorem BR.slice (h : BR w B v l) : ∃ a cap, v = .slice a l.length cap := by
  rcases h.2 with ⟨h1, h2⟩ | ⟨g, cap, cur, hv, _⟩
  · exact ⟨none, 0, by rw [h1, h2]⟩
  · exact ⟨_, _, hv⟩
theorem BR.own (h : BR w B v l) : ∀ k, v.ownBlock = some k → B ≤ k := fun k hk => (h.lt k hk).1
theorem BR.keep (h : BR w B v l) (e : ∀ k, k < w.heap.size → v.ownBlock = some k → w'.heap[k]? = w.heap[k]?) : BR w' B v l := by
  refine ⟨h.1, ?_⟩
  rcases h.2 with hn | ⟨g, cap, cur, hv, hb, hg, r⟩
  · exact Or.inl hn
  · exact Or.inr ⟨g, cap, cur, hv, hb, (e g (lt_of_heap hg) (by rw [hv]; rfl)).trans hg, r⟩
theorem BR.below (h : BR w B v l) (b : Below w.heap.size w w') : BR w' B v l := h.keep fun k hk _ => b.block k hk
theorem BR.only {S : Nat → Prop} (h : BR w B v l) (o : Only S w w') (hS : ∀ k, v.ownBlock = some k → ¬ S k) : BR w' B v l := h.keep fun k hk hv => o.block k hk (hS k hv)
theorem BR.mono {B' : Nat} (h : BR w B v l) (hB : B' ≤ B) : BR w B' v l := by
  refine ⟨h.1, ?_⟩
  rcases h.2 with hn | ⟨g, cap, cur, hv, hb, r⟩
  · exact Or.inl hn
  · exact Or.inr ⟨g, cap, cur, hv, by omega, r⟩
theorem BR.form (h : BR w B v l) (hl : 0 < l.length) : ∃ g cap, v = .slice (some ⟨g, 0, none⟩) l.length cap ∧ B ≤ g ∧ g < w.heap.size ∧ l.length ≤ cap ∧ cap ≤ maxLen := by
  rcases h.2 with ⟨h1, h2⟩ | ⟨g, cap, cur, hv, hb, hg, h3, h4, _⟩
  · omega
  · exact ⟨g, cap, hv, hb, lt_of_heap hg, h3, h4⟩
theorem BR.cells {g cap : Nat} (h : BR w B v l) (hv : v = .slice (some ⟨g, 0, none⟩) l.length cap) (i : Nat) (hi : i < l.length) : w.cell? ⟨g, i * 3, none⟩ = some (.int .i64 (l[i]).2) ∧ w.cell? ⟨g, i * 3 + 1, none⟩ = some (.int .i64 ((l[i]).1 / 16)) ∧ w.cell? ⟨g, i * 3 + 2, none⟩ = some (.int .i64 ((l[i]).1 % 16)) := by
  subst hv
  have ho : w.ownsRow B 44 3 _ _ _ := h
  rw [ho.cellAt _ (by omega), ho.cellAt _ (by omega), ho.cellAt _ (by omega)]
  exact get_bcells l i hi
/-- a row's block is none of the bells' -/
theorem BR.apart {bb rb hb g k : Nat} {P : List En} (h : BR w B v l) (b : BK w bb rb hb g P) (hk : v.ownBlock = some k) : k ≠ bb ∧ k ≠ rb ∧ k ≠ hb ∧ k ≠ g := by
  rcases h.2 with ⟨h1, h2⟩ | ⟨g', cap, cur, hv, hB, hg, _⟩
  · rw [h1] at hk; cases hk
  · rw [hv] at hk
    obtain rfl : g' = k := by injection hk
    obtain ⟨f, pl, u, hn, _, _⟩ := b.R.S
    obtain ⟨c, hc, _⟩ := hn.P
    refine ⟨fun e => ?_, fun e => ?_, fun e => ?_, fun e => ?_⟩
    · subst e; have := b.C; rw [hg] at this; simp at this
    · subst e; have := b.R.R; rw [hg] at this; simp at this
    · subst e; rw [hg] at hc; simp at hc
    · subst e
      rcases hn with ⟨c2, _, hm⟩ | ⟨_, e2, _, _⟩
      · obtain ⟨c3, h3, _⟩ := hm.E; rw [hg] at h3; simp at h3
      · subst e2; rw [hg] at hc; simp at hc
end
theorem bell_new (w : World) (x : En) (t : TypeId) : ∀ (j : Nat) (u : Value), [Value.int .i64 x.2, .int .i64 (x.1 / 16), .int .i64 (x.1 % 16)][j]? = some u → (w.alloc (.cells #[.int .i64 x.2, .int .i64 (x.1 / 16), .int .i64 (x.1 % 16)] t)).cell? ((⟨w.heap.size, 0, none⟩ : Addr).add j) = some u := by
  intro j u hj
  rw [Addr.add_lit, Nat.zero_add, cell_of_row _ _ _ _ _ _ (heap_alloc_new w _)]
  match j, hj with
  | 0, hj => exact hj
  | 1, hj => exact hj
  | 2, hj => exact hj
  | j + 3, hj => simp at hj
theorem one3 (x y z : Int) : ∀ u ∈ [Value.int .i64 x, .int .i64 y, .int .i64 z], u.oneCell' = true := by
  intro u hu; simp only [List.mem_cons, List.not_mem_nil, or_false] at hu; rcases hu with rfl | rfl | rfl <;> rfl
def lenOf : Value → Nat
  | .slice _ n _ => n
  | _ => 0

/-- what Due comes to -/
def DueP (P : List En) (now : Int) (bb rb hb g : Nat) (w : World) (e : Ending) (w' : World) : Prop :=
  ∃ (v : Value) (a b : List En) (g1 : Nat), e = .returned v ∧ Hid (Cut P now a b ∧ BR w' w.heap.size v a ∧ BK w' bb rb hb g1 b ∧ (g1 = g ∨ w.heap.size ≤ g1) ∧ Only (Two hb g) w w')

set_option maxHeartbeats 4000000 in
theorem bdue_any (w : World) (bb rb hb g : Nat) (P : List En) (now : Int) (h : BK w bb rb hb g P) :
    Calls Try.prog 15 #[.pointer (some ⟨bb, 0, none⟩), .int .i64 now] w (DueP P now bb rb hb g w) := by
  obtain ⟨i0, hi, hz0, hz1, hz2⟩ := info_parts infoBell
  have HInfo := Lib.hid (⟨hi, hz0, hz1, hz2⟩ : _ ∧ _ ∧ _ ∧ _)
  clear hi hz0 hz1 hz2
  have H := Lib.hid h
  have HL := Lib.hid h.W.len
  clear h
  go_enter Try.func15, Try.ntmps15
  go_wp2_with fail
  go_loopw [5] (fun o wr => ∃ (a b : List En) (g1 : Nat), Hid (P = a ++ b ∧ ∀ x ∈ a, x.2 ≤ now) ∧ Hid (BR wr w.heap.size o a) ∧ Hid (BK wr bb rb hb g1 b) ∧ Hid (g1 = g ∨ w.heap.size ≤ g1) ∧ Hid (Only (Two hb g) w wr)) (fun o _ => P.length - lenOf o)
  case atStart => exact ⟨[], P, g, ⟨rfl, fun x hx => by cases hx⟩, BR.nil _ _, H.out, Or.inl rfl, Only.refl _ _⟩
  case round =>
    obtain ⟨a, b, g1, HP, HR, HK, HG, HO⟩ := hrel
    cases b with
    | nil =>
      go_wp2_with fail
      refine (bnext0_any wr bb rb hb g1 HK.out).mono ?_
      rintro e w1 ⟨rfl, hb1⟩
      have HF : Hid (DueP P now bb rb hb g w (.returned u5) w1) := ⟨u5, a, [], g1, rfl, Cut.stop HK.out.W HP.out.1 HP.out.2 (Or.inl rfl), HR.out.below hb1, HK.out.below hb1, HG.out, HO.out.trans (Only.of_below hb1)⟩
      clear hb1
      go_wp2_with fail
      go_ret
      exact HF.out
    | cons x b =>
      by_cases hx : now < x.2
      · have hd : decide (now < x.2) = true := by simpa using hx
        have HX := Lib.hid hx
        clear hx
        go_wp2_with fail
        refine (bnext_any wr bb rb hb g1 x b HK.out).mono ?_
        rintro e w1 ⟨rfl, hb1⟩
        have HF : Hid (DueP P now bb rb hb g w (.returned u5) w1) := ⟨u5, a, x :: b, g1, rfl, Cut.stop HK.out.W HP.out.1 HP.out.2 (Or.inr ⟨x, b, rfl, HX.out⟩), HR.out.below hb1, HK.out.below hb1, HG.out, HO.out.trans (Only.of_below hb1)⟩
        clear hb1
        go_wp2_with fail
        go_ret
        exact HF.out
      · have hd : decide (now < x.2) = false := by simpa using hx
        have HX := Lib.hid hx
        clear hx
        go_wp2_with fail
        refine (bnext_any wr bb rb hb g1 x b HK.out).mono ?_
        rintro e w1 ⟨rfl, hb1⟩
        have HK1 := Lib.hid (HK.out.below hb1)
        have HR1 := Lib.hid (HR.out.below hb1)
        have HO1 : Hid (Only (Two hb g) w w1) := HO.out.trans (Only.of_below hb1)
        have b0 := HK1.out.cell
        clear hb1 HK HR HO
        go_wp2_with fail
        refine HK1.out.pop.mono ?_
        rintro e w2 ⟨rfl, ⟨g2, h2, hg2⟩, o2⟩
        have HK2 := Lib.hid h2
        have HR2 : Hid (BR w2 w.heap.size u5 a) := HR1.out.only o2 (fun k hk => by have := HR1.out.apart HK1.out hk; rintro (e | e) <;> omega)
        have HG2 : Hid (g2 = g ∨ w.heap.size ≤ g2) := by have := HG.out; have := HO1.out.size; unfold Hid; omega
        have HO2 : Hid (Only (Two hb g) w w2) := HO1.out.trans' o2 (fun j hj hT => by
          rcases hT with e | e
          · exact Or.inl e
          · rcases HG.out with e1 | e1
            · exact Or.inr (by omega)
            · omega)
        have hn : 0 ≤ x.1 ∧ x.1 < 64 := HK1.out.W.dom x (by simp)
        have hsz := HO2.out.size
        clear h2 hg2 o2 HK1 HR1 HO1 HG b0
        go_wp2_with fail
        refine (numbered_any x.1 x.2 w2 hn).mono ?_
        rintro e w3 ⟨rfl, hb3⟩
        have hs3 := hb3.size
        have HK3 := Lib.hid (HK2.out.below hb3)
        have HR3 := Lib.hid (HR2.out.below hb3)
        have HO3 : Hid (Only (Two hb g) w w3) := HO2.out.trans (Only.of_below hb3)
        have HPl : Hid (a.length + 1 ≤ P.length) := by have := HP.out.1; unfold Hid; rw [this]; simp
        have Hm1 : Hid (a.length + 1 ≤ maxLen) := by have := HL.out; have := HPl.out; unfold Hid maxLen; omega
        have Hm2 : Hid ((a.length + 1) * 24 ≤ 140737488355328) := by have := HL.out; have := HPl.out; unfold Hid; omega
        have Hm3 : ∀ o, Hid (w.heap.size ≤ (w3.alloc o).heap.size) := fun o => by unfold Hid; simp; omega
        clear hb3 HK2 HR2 HO2
        go_wp2_with (at_builtin; refine wpList_append_own _ rfl _ _ 34 rfl w.heap.size 44 i0 _ 3 24 Try.underlying34 HInfo.out.1 HInfo.out.2.1 HInfo.out.2.2.1 HInfo.out.2.2.2 rfl (by decide) _ _ _ rfl (World.ownsRow.alloc HR3.out _) ⟨w3.heap.size, 0, none⟩ 1 1 [.int .i64 x.2, .int .i64 (x.1 / 16), .int .i64 (x.1 % 16)] rfl rfl (bell_new _ _ _) (one3 _ _ _) Hm1.out Hm2.out (Hm3 _).out ?_)
        intro v' w4 hown hgrow _
        have HR4 : Hid (BR w4 w.heap.size v' (a ++ [x])) := BR.more (k := [x]) hown rfl rfl
        have HOg : Hid (Only (fun k => u5.ownBlock = some k) w3 w4) := by
          refine ⟨hgrow.os, hgrow.tape, hgrow.output, ?_, fun k hk hS => ?_⟩
          · have := hgrow.size; simp at this; omega
          · exact (hgrow.block k (by simp; omega) (fun e => hS e.symm)).trans (Below.heap_alloc _ _ _ hk)
        have HK4 : Hid (BK w4 bb rb hb g2 b) := HK3.out.only HOg.out (fun hk => (HR3.out.apart HK3.out hk).1 rfl) (fun hk => (HR3.out.apart HK3.out hk).2.1 rfl) (fun hk => (HR3.out.apart HK3.out hk).2.2.1 rfl) (fun hk => (HR3.out.apart HK3.out hk).2.2.2 rfl)
        have HO4 : Hid (Only (Two hb g) w w4) := HO3.out.trans' HOg.out (fun j hj hT => by have := HR3.out.own j hT; omega)
        have HP4 : Hid (P = (a ++ [x]) ++ b ∧ ∀ y ∈ a ++ [x], y.2 ≤ now) := ⟨by rw [HP.out.1]; simp, fun y hy => by
          rcases List.mem_append.1 hy with hy | hy
          · exact HP.out.2 y hy
          · simp only [List.mem_cons, List.not_mem_nil, or_false] at hy; rw [hy]; have := HX.out; omega⟩
        have HLen : Hid (lenOf u5 = a.length) := by obtain ⟨_, _, e⟩ := HR3.out.slice; rw [e]; rfl
        have HLen' : Hid (lenOf v' = a.length + 1) := by obtain ⟨_, _, e⟩ := HR4.out.slice; rw [e]; simp [lenOf, Hid]
        clear hown hgrow Hm1 Hm2 Hm3 HK3 HR3 HO3 HOg HP
        go_wp2_with fail
        go_roundw
        case rel => exact ⟨a ++ [x], b, g2, HP4, HR4, HK4, HG2, HO4⟩
        case measure => have e1 := HLen.out; have e2 := HLen'.out; have e3 := HPl.out; rw [e1, e2]; omega

end Go.Proofs.Ytdfolbnnhglpeaa
