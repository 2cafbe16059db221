/- slices.Clone and slices.SortFunc of the entries. -/
import Derived.Test.YtmdckfekjbhcfaaWalksE
import Derived.Test.YtmdckfekjbhcfaaPlainB
import Derived.Test.YtmdckfekjbhcfaaLay
namespace Go.Proofs.Ytmdckfekjbhcfaa
open Go.RowKit Rk
set_option linter.unusedVariables false

/-- n entries' cells -/
def cellsOf (f : Nat → En) : Nat → List Value
  | 0 => []
  | n + 1 => cellsOf f n ++ [.int .i64 (f n).1, .int .i64 (f n).2]
theorem len_cellsOf (f : Nat → En) (n : Nat) : (cellsOf f n).length = n * 2 := by
  induction n with
  | zero => rfl
  | succ n ih => simp only [cellsOf, List.length_append, ih, List.length_cons, List.length_nil]; omega
theorem get_cellsOf (f : Nat → En) (n : Nat) : ∀ i, i < n → (cellsOf f n)[i * 2]? = some (.int .i64 (f i).1) ∧ (cellsOf f n)[i * 2 + 1]? = some (.int .i64 (f i).2) := by
  induction n with
  | zero => intro i hi; omega
  | succ n ih =>
    intro i hi
    have := getE (xs := cellsOf f n) (f := f) (x := f n) (len_cellsOf f n) ih i hi
    have e : up f n (f n) = f := by funext j; unfold up; split
                                    · rename_i h; rw [h]
                                    · rfl
    rw [e] at this
    exact this
theorem one_cellsOf (f : Nat → En) (n : Nat) : ∀ u ∈ cellsOf f n, u.oneCell' = true := by
  induction n with
  | zero => intro u hu; cases hu
  | succ n ih =>
    intro u hu
    rcases List.mem_append.1 hu with h | h
    · exact ih u h
    · simp only [List.mem_cons, List.not_mem_nil, or_false] at h
      rcases h with rfl | rfl <;> rfl
theorem EN.all {w : World} {g cap n : Nat} {f : Nat → En} (h : EN w g cap n f) : ∀ j u, (cellsOf f n)[j]? = some u → w.cell? ⟨g, 0 + j, none⟩ = some u := by
  intro j u hj
  have hl : j < n * 2 := by
    have := (List.getElem?_eq_some_iff.1 hj).1
    rwa [len_cellsOf] at this
  rw [Nat.zero_add]
  rcases Nat.mod_two_eq_zero_or_one j with e | e
  · have e2 : j = (j / 2) * 2 := by omega
    have h1 := (get_cellsOf f n (j / 2) (by omega)).1
    rw [← e2, hj] at h1
    rw [h1, e2]
    have e3 : (j / 2 * 2) / 2 = j / 2 := by omega
    rw [e3]
    exact h.cell1 (by omega)
  · have e2 : j = (j / 2) * 2 + 1 := by omega
    have h1 := (get_cellsOf f n (j / 2) (by omega)).2
    rw [← e2, hj] at h1
    rw [h1, e2]
    have e3 : (j / 2 * 2 + 1) / 2 = j / 2 := by omega
    rw [e3]
    exact h.cell2 (by omega)

/-- a copy of n entries -/
def CloP (n : Nat) (f : Nat → En) (w : World) (e : Ending) (w' : World) : Prop :=
  ∃ a cap, e = .returned (.slice a n cap) ∧ Below w.heap.size w w' ∧ (0 < n → ∃ g, a = some ⟨g, 0, none⟩ ∧ w.heap.size ≤ g ∧ EN w' g cap n f)
theorem clone_any (w : World) (hb g n : Nat) (f : Nat → En) (pl : Int → Int) (v : Value) (h : HN w hb g n f pl v) (hN : n ≤ 100000) : Calls Try.prog 39 #[v] w (CloP n f w) := by
  rcases h with ⟨cap, rfl, hm⟩ | ⟨rfl, rfl, rfl, hp⟩
  · obtain ⟨i0, hi, hz0, hz1, hz2⟩ := info_parts info59
    have hcon := AnyE.slices_Clone cloneE i0 _ 2 16 hi hz0 hz1 hz2 rfl (by decide) Try.sizeOf65 g 0 n cap (cellsOf f n) w (len_cellsOf f n) (by unfold maxLen; omega) (by omega) hm.E.all (one_cellsOf f n)
    change Calls Try.prog 39 _ _ _ at hcon
    refine hcon.mono fun e w' ⟨v', he, ho, _, hb⟩ => ?_
    rcases ho.2 with ⟨h1, h2⟩ | ⟨g', cap', cur, h1, h2, _⟩
    · exact ⟨none, 0, by rw [he, h1, h2], hb, fun h => by omega⟩
    · subst h1
      have ho' : w'.ownsRow w.heap.size 65 2 (.slice (some ⟨g', 0, none⟩) n cap') n (cellsOf f n) := ho
      exact ⟨some ⟨g', 0, none⟩, cap', he, hb, fun _ => ⟨g', rfl, h2, (en_of_own ho' (get_cellsOf f n)).1⟩⟩
  · have hcon := AnyE.slices_Clone_nil cloneE 0 0 w
    change Calls Try.prog 39 _ _ _ at hcon
    exact hcon.mono fun e w' ⟨he, hw⟩ => ⟨none, 0, he, by rw [hw]; exact Below.refl _ _, fun h => by omega⟩

def enc (x : En) : List Value := [.int .i64 x.1, .int .i64 x.2]
theorem ltOf_cf (x y : En) : Go.Proofs.ltOf cf x y = decide (lt x y) := by unfold Go.Proofs.ltOf; exact cf_lt x y
theorem swo : Sort.SWO (Go.Proofs.ltOf cf) where
  irrefl x := by rw [ltOf_cf]; exact decide_eq_false (lt_irrefl x)
  trans x y z h1 h2 := by rw [ltOf_cf] at *; exact decide_eq_true (lt_trans (of_decide_eq_true h1) (of_decide_eq_true h2))
  ntrans x y z h1 h2 := by
    rw [ltOf_cf] at *
    have a : Rk.le y x := of_decide_eq_false h1
    have b : Rk.le z y := of_decide_eq_false h2
    exact decide_eq_false (le_trans b a)
/-- the entries, sorted -/
def SrtP (g n : Nat) (f : Nat → En) (w : World) (e : Ending) (w' : World) : Prop :=
  e = .returned (.tuple #[]) ∧ (∃ P : List En, P.Perm ((List.range n).map f) ∧ P.Pairwise Rk.le ∧ ∀ i, i < n → w'.cell? ⟨g, i * 2, none⟩ = some (.int .i64 (P.getD i (0, 0)).1) ∧ w'.cell? ⟨g, i * 2 + 1, none⟩ = some (.int .i64 (P.getD i (0, 0)).2)) ∧ Only (fun k => k = g) w w'
theorem only_sort (w : World) (g n' : Nat) (d : Array En) (os : Array Obj) : Only (fun k => k = g) w (Go.Proofs.sortWorldK enc 2 w g 0 n' d os) := by
  unfold Go.Proofs.sortWorldK Sort.putRowK Sort.putRow Sort.mapBlock
  refine ⟨rfl, rfl, rfl, ?_, fun k hk hS => ?_⟩
  · rw [Sort.size_grow]
    simp only [Array.size_modify]
    exact Nat.le_add_right _ _
  · rw [Sort.heap_grow_old _ _ (by simpa using hk)]
    simp only [Array.getElem?_modify]
    rw [if_neg (fun e => hS e.symm)]
    rfl

set_option maxHeartbeats 1000000 in
theorem sort_any (w : World) (g cap n : Nat) (f : Nat → En) (h : EN w g cap n f) (hN : n ≤ 100000) (hn : 0 < n) : Calls Try.prog 40 #[.slice (some ⟨g, 0, none⟩) n cap, .func (.func 41) #[] #[]] w (SrtP g n f w) := by
  obtain ⟨d, hd⟩ : ∃ d : Array En, d = ((List.range n).map f).toArray := ⟨_, rfl⟩
  have hds : d.size = n := by rw [hd]; simp
  have hdl : d.toList = (List.range n).map f := by rw [hd]
  have hdi : ∀ i, i < n → d[i]! = f i := by
    intro i hi
    rw [getElem!_pos d i (by omega)]
    subst hd
    simp
  have hH : Sort.HoldsK enc 2 w g 0 d := by
    intro t ht
    rw [Sort.size_flatK, hds] at ht
    rw [Sort.get_flatK _ _ _ _ (by rw [hds]; exact ht), hdi _ (by omega), Nat.zero_add]
    refine ⟨?_, h.free t⟩
    rcases Nat.mod_two_eq_zero_or_one t with e | e
    · rw [e]
      have := h.cell1 (i := t / 2) (by omega)
      have e2 : t / 2 * 2 = t := by omega
      rw [e2] at this
      exact this
    · rw [e]
      have := h.cell2 (i := t / 2) (by omega)
      have e2 : t / 2 * 2 + 1 = t := by omega
      rw [e2] at this
      exact this
  have eg : ∀ args w, (callFunc 41 args).run Try.prog w = .ok (.enter 41 args) w := enters_of Try.func41 (by kernel_rfl) rfl
  have hcmp : CmpLays Try.prog 41 #[] enc 2 cf g 0 d.size w := fun _ _ _ _ x y => cmp_any x y _
  have hT : ∀ x y : En, Go.Proofs.ltOf cf x y = false → Go.Proofs.ltOf cf y x = false → x = y := fun x y h1 h2 => by
    rw [ltOf_cf] at h1 h2
    exact le_antisymm (of_decide_eq_false h2) (of_decide_eq_false h1)
  have hcon := AnyQ.slices_SortFunc_total sortE 2 Try.isAgg65 Try.sizeOf65 enc (fun _ => rfl) (fun x v hv => by simp [enc] at hv; rcases hv with rfl | rfl <;> rfl) cf swo 41 #[] g 0 cap d w eg hcmp hH h.lt (by omega) hT
  change Calls Try.prog 40 _ _ _ at hcon
  rw [hds] at hcon
  refine hcon.mono fun e w' ⟨he, n', os, hw⟩ => ?_
  rw [hdl] at hw
  have hperm := List.mergeSort_perm ((List.range n).map f) (fun x y => !Go.Proofs.ltOf cf y x)
  generalize hP : ((List.range n).map f).mergeSort (fun x y => !Go.Proofs.ltOf cf y x) = P at hw hperm
  have hlen : P.length = n := by rw [hperm.length_eq]; simp
  have hpw : P.Pairwise Rk.le := by
    have := List.pairwise_mergeSort (le := fun x y => !Go.Proofs.ltOf cf y x) (fun a b c h1 h2 => by
      rw [ltOf_cf] at *
      simp only [Bool.not_eq_true', decide_eq_false_iff_not] at *
      exact le_trans h1 h2) (fun a b => by
      rw [ltOf_cf, ltOf_cf]
      simp only [Bool.or_eq_true, Bool.not_eq_true', decide_eq_false_iff_not]
      unfold lt; omega) ((List.range n).map f)
    rw [hP] at this
    refine this.imp fun {a b} h => ?_
    rw [ltOf_cf] at h
    simp only [Bool.not_eq_true', decide_eq_false_iff_not] at h
    exact h
  have hK : Sort.HoldsK enc 2 w' g 0 P.toArray := by
    rw [hw]
    unfold Go.Proofs.sortWorldK
    exact Sort.holdsK_grow enc 2 _ _ _ _ _ (by show g < ((w.heap).modify g _).size; simpa using h.lt) (Sort.holdsK_putRowK enc 2 _ _ _ d _ (Sort.holdsK_ahead enc 2 w n' g 0 d hH) (by simp [hlen, hds]))
  refine ⟨he, ⟨P, hperm, hpw, fun i hi => ?_⟩, by rw [hw]; exact only_sort w g n' _ os⟩
  have hi' : i < P.toArray.size := by simpa [hlen] using hi
  have c1 := (hK.cell hi' (c := 0) (by decide)).1
  have c2 := (hK.cell hi' (c := 1) (by decide)).1
  have hg : P.toArray[i]! = P.getD i (0, 0) := by
    rw [getElem!_pos _ i hi', List.getD_eq_getElem?_getD, List.getElem?_eq_getElem (by omega)]
    simp
  rw [hg, Nat.zero_add] at c1 c2
  exact ⟨c1, c2⟩

theorem sort_none (w : World) (a : Option Addr) (cap : Nat) (fv : Value) : Calls Try.prog 40 #[.slice a 0 cap, fv] w (fun e w' => e = .returned (.tuple #[]) ∧ w = w') := by
  have hcon := AnyF.slices_SortFunc_none sortE a cap fv w
  change Calls Try.prog 40 _ _ _ at hcon
  exact hcon.mono fun _ _ ⟨h, k⟩ => ⟨h, k.symm⟩

end Go.Proofs.Ytmdckfekjbhcfaa
