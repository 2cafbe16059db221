/- slices.Clone and slices.SortFunc of the entries. -/
import Derived.Test.YtkkmfpllgjoceaaGreatZq
import Derived.Test.YtkkmfpllgjoceaaGreatZp
import Derived.Test.YtkkmfpllgjoceaaGreatLay
namespace Go.Proofs.YtkkmfpllgjoceaaGreat.Rq
open Go.RowKit Rk
set_option linter.unusedVariables false
set_option maxRecDepth 100000

/-- n entries' cells -/
def cellsOf (f : Nat → En) : Nat → List Value
  | 0 => []
  | n + 1 => cellsOf f n ++ [.int .i64 (f n).1, .int .i64 (f n).2]
theorem len_cellsOf (f : Nat → En) (n : Nat) : (cellsOf f n).length = n * 2 := by
  induction n with
  | zero => rfl
  | succ n ih => simp only [cellsOf, List.length_append, ih, List.length_cons, List.length_nil]; omega
theorem get_cellsOf (f : Nat → En) (n : Nat) : ∀ i, i < n → (cellsOf f n)[i * 2]? = some (.int .i64 (f i).1) ∧ (cellsOf f n)[i * 2 + 1]? = some (.int .i64 (f i).2) := by
  induction n with
  | zero => intro i hi; omega
  | succ n ih =>
    intro i hi
    have := getE (xs := cellsOf f n) (f := f) (x := f n) (len_cellsOf f n) ih i hi
    have e : up f n (f n) = f := by funext j; unfold up; split
                                    · rename_i h; rw [h]
                                    · rfl
    rw [e] at this
    exact this
theorem one_cellsOf (f : Nat → En) (n : Nat) : ∀ u ∈ cellsOf f n, u.oneCell' = true := by
  induction n with
  | zero => intro u hu; cases hu
  | succ n ih =>
    intro u hu
    rcases List.mem_append.1 hu with h | h
    · exact ih u h
    · simp only [List.mem_cons, List.not_mem_nil, or_false] at h
      rcases h with rfl | rfl <;> rfl
theorem EN.all {w : World} {g cap n : Nat} {f : Nat → En} (h : EN w g cap n f) : ∀ j u, (cellsOf f n)[j]? = some u → w.cell? ⟨g, 0 + j, none⟩ = some u := by
  intro j u hj
  have hl : j < n * 2 := by
    have := (List.getElem?_eq_some_iff.1 hj).1
    rwa [len_cellsOf] at this
  rw [Nat.zero_add]
  rcases Nat.mod_two_eq_zero_or_one j with e | e
  · have e2 : j = (j / 2) * 2 := by omega
    have h1 := (get_cellsOf f n (j / 2) (by omega)).1
    rw [← e2, hj] at h1
    rw [h1, e2]
    have e3 : (j / 2 * 2) / 2 = j / 2 := by omega
    rw [e3]
    exact h.cell1 (by omega)
  · have e2 : j = (j / 2) * 2 + 1 := by omega
    have h1 := (get_cellsOf f n (j / 2) (by omega)).2
    rw [← e2, hj] at h1
    rw [h1, e2]
    have e3 : (j / 2 * 2 + 1) / 2 = j / 2 := by omega
    rw [e3]
    exact h.cell2 (by omega)

/-- a copy of n entries -/
def CloP (n : Nat) (f : Nat → En) (w : World) (e : Ending) (w' : World) : Prop :=
  ∃ a cap, e = .returned (.slice a n cap) ∧ Below w.heap.size w w' ∧ (0 < n → ∃ g, a = some ⟨g, 0, none⟩ ∧ w.heap.size ≤ g ∧ EN w' g cap n f)
theorem clone_any (w : World) (hb g n : Nat) (f : Nat → En) (pl : Int → Int) (v : Value) (h : HN w hb g n f pl v) (hN : n ≤ 100000) : Calls Tryz.prog 195 #[v] w (CloP n f w) := by
  rcases h with ⟨cap, rfl, hm⟩ | ⟨rfl, rfl, rfl, hp⟩
  · obtain ⟨i0, hi, hz0, hz1, hz2⟩ := info_parts info59
    have hcon := AnyE.slices_Clone cloneE i0 _ 2 16 hi hz0 hz1 hz2 rfl (by decide) Tryz.sizeOf196 g 0 n cap (cellsOf f n) w (len_cellsOf f n) (by unfold maxLen; omega) (by omega) hm.E.all (one_cellsOf f n)
    change Calls Tryz.prog 195 _ _ _ at hcon
    refine hcon.mono fun e w' ⟨v', he, ho, _, hb⟩ => ?_
    rcases ho.2 with ⟨h1, h2⟩ | ⟨g', cap', cur, h1, h2, _⟩
    · exact ⟨none, 0, by rw [he, h1, h2], hb, fun h => by omega⟩
    · subst h1
      have ho' : w'.ownsRow w.heap.size 196 2 (.slice (some ⟨g', 0, none⟩) n cap') n (cellsOf f n) := ho
      exact ⟨some ⟨g', 0, none⟩, cap', he, hb, fun _ => ⟨g', rfl, h2, (en_of_own ho' (get_cellsOf f n)).1⟩⟩
  · have hcon := AnyE.slices_Clone_nil cloneE 0 0 w
    change Calls Tryz.prog 195 _ _ _ at hcon
    exact hcon.mono fun e w' ⟨he, hw⟩ => ⟨none, 0, he, by rw [hw]; exact Below.refl _ _, fun h => by omega⟩

def enc (x : En) : List Value := [.int .i64 x.1, .int .i64 x.2]
theorem ltOf_cf (x y : En) : Go.Proofs.ltOf cf x y = decide (lt x y) := by unfold Go.Proofs.ltOf; exact cf_lt x y
theorem swo : Sort.SWO (Go.Proofs.ltOf cf) where
  irrefl x := by rw [ltOf_cf]; exact decide_eq_false (lt_irrefl x)
  trans x y z h1 h2 := by rw [ltOf_cf] at *; exact decide_eq_true (lt_trans (of_decide_eq_true h1) (of_decide_eq_true h2))
  ntrans x y z h1 h2 := by
    rw [ltOf_cf] at *
    have a : Rk.le y x := of_decide_eq_false h1
    have b : Rk.le z y := of_decide_eq_false h2
    exact decide_eq_false (le_trans b a)
/-- the entries, sorted -/
def SrtP (g n : Nat) (f : Nat → En) (w : World) (e : Ending) (w' : World) : Prop :=
  e = .returned (.tuple #[]) ∧ (∃ P : List En, P.Perm ((List.range n).map f) ∧ P.Pairwise Rk.le ∧ ∀ i, i < n → w'.cell? ⟨g, i * 2, none⟩ = some (.int .i64 (P.getD i (0, 0)).1) ∧ w'.cell? ⟨g, i * 2 + 1, none⟩ = some (.int .i64 (P.getD i (0, 0)).2)) ∧ Only (fun k => k = g) w w'
theorem only_sort (w : World) (g n' : Nat) (d : Array En) (os : Array Obj) : Only (fun k => k = g) w (Go.Proofs.sortWorldK enc 2 w g 0 n' d os) := by
  unfold Go.Proofs.sortWorldK Sort.putRowK Sort.putRow Sort.mapBlock
  refine ⟨rfl, rfl, rfl, ?_, fun k hk hS => ?_⟩
  · rw [Sort.size_grow]
    simp only [Array.size_modify]
    exact Nat.le_add_right _ _
  · rw [Sort.heap_grow_old _ _ (by simpa using hk)]
    simp only [Array.getElem?_modify]
    rw [if_neg (fun e => hS e.symm)]
    rfl

set_option maxHeartbeats 1000000 in
theorem sort_any (w : World) (g cap n : Nat) (f : Nat → En) (h : EN w g cap n f) (hN : n ≤ 100000) (hn : 0 < n) : Calls Tryz.prog 196 #[.slice (some ⟨g, 0, none⟩) n cap, .func (.func 197) #[] #[]] w (SrtP g n f w) := by
  obtain ⟨d, hd⟩ : ∃ d : Array En, d = ((List.range n).map f).toArray := ⟨_, rfl⟩
  have hds : d.size = n := by rw [hd]; simp
  have hdl : d.toList = (List.range n).map f := by rw [hd]
  have hdi : ∀ i, i < n → d[i]! = f i := by
    intro i hi
    rw [getElem!_pos d i (by omega)]
    subst hd
    simp
  have hH : Sort.HoldsK enc 2 w g 0 d := by
    intro t ht
    rw [Sort.size_flatK, hds] at ht
    rw [Sort.get_flatK _ _ _ _ (by rw [hds]; exact ht), hdi _ (by omega), Nat.zero_add]
    refine ⟨?_, h.free t⟩
    rcases Nat.mod_two_eq_zero_or_one t with e | e
    · rw [e]
      have := h.cell1 (i := t / 2) (by omega)
      have e2 : t / 2 * 2 = t := by omega
      rw [e2] at this
      exact this
    · rw [e]
      have := h.cell2 (i := t / 2) (by omega)
      have e2 : t / 2 * 2 + 1 = t := by omega
      rw [e2] at this
      exact this
  have eg : ∀ args w, (callFunc 197 args).run Tryz.prog w = .ok (.enter 197 args) w := enters_of Tryz.func197 (by kernel_rfl) rfl
  have hcmp : CmpLays Tryz.prog 197 #[] enc 2 cf g 0 d.size w := fun _ _ _ _ x y => cmp_any x y _
  have hT : ∀ x y : En, Go.Proofs.ltOf cf x y = false → Go.Proofs.ltOf cf y x = false → x = y := fun x y h1 h2 => by
    rw [ltOf_cf] at h1 h2
    exact le_antisymm (of_decide_eq_false h2) (of_decide_eq_false h1)
  have hcon := AnyQ.slices_SortFunc_total sortE 2 Tryz.isAgg196 Tryz.sizeOf196 enc (fun _ => rfl) (fun x v hv => by simp [enc] at hv; rcases hv with rfl | rfl <;> rfl) cf swo 197 #[] g 0 cap d w eg hcmp hH h.lt (by omega) hT
  change Calls Tryz.prog 196 _ _ _ at hcon
  rw [hds] at hcon
  refine hcon.mono fun e w' ⟨he, n', os, hw⟩ => ?_
  rw [hdl] at hw
  have hperm := List.mergeSort_perm ((List.range n).map f) (fun x y => !Go.Proofs.ltOf cf y x)
  generalize hP : ((List.range n).map f).mergeSort (fun x y => !Go.Proofs.ltOf cf y x) = P at hw hperm
  have hlen : P.length = n := by rw [hperm.length_eq]; simp
  have hpw : P.Pairwise Rk.le := by
    have := List.pairwise_mergeSort (le := fun x y => !Go.Proofs.ltOf cf y x) (fun a b c h1 h2 => by
      rw [ltOf_cf] at *
      simp only [Bool.not_eq_true', decide_eq_false_iff_not] at *
      exact le_trans h1 h2) (fun a b => by
      rw [ltOf_cf, ltOf_cf]
      simp only [Bool.or_eq_true, Bool.not_eq_true', decide_eq_false_iff_not]
      unfold lt; omega) ((List.range n).map f)
    rw [hP] at this
    refine this.imp fun {a b} h => ?_
    rw [ltOf_cf] at h
    simp only [Bool.not_eq_true', decide_eq_false_iff_not] at h
    exact h
  have hK : Sort.HoldsK enc 2 w' g 0 P.toArray := by
    rw [hw]
    unfold Go.Proofs.sortWorldK
    exact Sort.holdsK_grow enc 2 _ _ _ _ _ (by show g < ((w.heap).modify g _).size; simpa using h.lt) (Sort.holdsK_putRowK enc 2 _ _ _ d _ (Sort.holdsK_ahead enc 2 w n' g 0 d hH) (by simp [hlen, hds]))
  refine ⟨he, ⟨P, hperm, hpw, fun i hi => ?_⟩, by rw [hw]; exact only_sort w g n' _ os⟩
  have hi' : i < P.toArray.size := by simpa [hlen] using hi
  have c1 := (hK.cell hi' (c := 0) (by decide)).1
  have c2 := (hK.cell hi' (c := 1) (by decide)).1
  have hg : P.toArray[i]! = P.getD i (0, 0) := by
    rw [getElem!_pos _ i hi', List.getD_eq_getElem?_getD, List.getElem?_eq_getElem (by omega)]
    simp
  rw [hg, Nat.zero_add] at c1 c2
  exact ⟨c1, c2⟩

theorem sort_none (w : World) (a : Option Addr) (cap : Nat) (fv : Value) : Calls Tryz.prog 196 #[.slice a 0 cap, fv] w (fun e w' => e = .returned (.tuple #[]) ∧ w = w') := by
  have hcon := AnyF.slices_SortFunc_none sortE a cap fv w
  change Calls Tryz.prog 196 _ _ _ at hcon
  exact hcon.mono fun _ _ ⟨h, k⟩ => ⟨h, k.symm⟩

end Go.Proofs.YtkkmfpllgjoceaaGreat.Rq

namespace Go.Proofs.YtkkmfpllgjoceaaGreat.Rq
open Go.RowKit Rk
set_option linter.unusedVariables false
set_option maxRecDepth 100000

theorem info3 : (Tryz.prog.info? 3).map (fun i => (i.zero, i.size, i.bytes)) = some (some (.int .i64 0), 1, 8) := by kernel_rfl
/-- ids' values -/
def idv (P : List En) : List Value := P.map fun x => .int .i64 x.1
/-- a new row of all ids in order -/
def IdsP (n : Nat) (m : Mp) (w : World) (e : Ending) (w' : World) : Prop :=
  ∃ g P, e = .returned (.slice (some ⟨g, 0, none⟩) n n) ∧ Ord m P ∧ P.length = n ∧ w'.ownsRow w.heap.size 3 1 (.slice (some ⟨g, 0, none⟩) n n) n (idv P) ∧ Below w.heap.size w w'
/-- the ids so far -/
def IdsI (B gi n k : Nat) (P : List En) (wr : World) : Prop :=
  ∃ xs, wr.ownsRow B 3 1 (.slice (some ⟨gi, 0, none⟩) n n) n xs ∧ ∀ i, i < k → xs[i]? = some (.int .i64 (P.getD i (0, 0)).1)
theorem IdsI.done {B gi n : Nat} {P : List En} {wr : World} (h : IdsI B gi n n P wr) (hl : P.length = n) : wr.ownsRow B 3 1 (.slice (some ⟨gi, 0, none⟩) n n) n (idv P) := by
  obtain ⟨xs, h1, h2⟩ := h
  have e : xs = idv P := by
    apply List.ext_getElem?
    intro i
    by_cases hi : i < n
    · rw [h2 i hi, idv, List.getElem?_map, List.getD_eq_getElem?_getD, List.getElem?_eq_getElem (by omega)]
      rfl
    · rw [List.getElem?_eq_none (by have := h1.1; omega), List.getElem?_eq_none (by simp [idv, hl]; omega)]
  rw [← e]; exact h1
theorem IdsI.step {B gi n k : Nat} {P : List En} {wr : World} (h : IdsI B gi n k P wr) (hk : k < n) : IdsI B gi n (k + 1) P (wr.setCell ⟨gi, k, none⟩ (.int .i64 (P.getD k (0, 0)).1)) := by
  obtain ⟨xs, h1, h2⟩ := h
  refine ⟨_, (h1.stored k _).1, fun i hi => ?_⟩
  by_cases e : i = k
  · subst e; rw [List.getElem?_set_self (by have := h1.1; omega)]
  · rw [List.getElem?_set_ne (by omega)]; exact h2 i (by omega)
theorem IdsI.alloc {B gi n k : Nat} {P : List En} {wr : World} (h : IdsI B gi n k P wr) (o : Obj) : IdsI B gi n k P (wr.alloc o) := by obtain ⟨xs, h1, h2⟩ := h; exact ⟨xs, h1.alloc o, h2⟩
theorem IdsI.cell {B gi n k : Nat} {P : List En} {wr : World} (h : IdsI B gi n k P wr) {i : Nat} (hi : i < n) : ∃ u, wr.cell? ⟨gi, i, none⟩ = some u := by
  obtain ⟨xs, h1, h2⟩ := h
  rw [h1.cellAt i (by omega), List.getElem?_eq_getElem (by have := h1.1; omega)]
  exact ⟨_, rfl⟩
theorem IdsI.free {B gi n k : Nat} {P : List En} {wr : World} (h : IdsI B gi n k P wr) (o : Nat) : wr.frozen? ⟨gi, o, none⟩ = false := by obtain ⟨xs, h1, h2⟩ := h; exact h1.frozenAt o
theorem IdsI.lt {B gi n k : Nat} {P : List En} {wr : World} (h : IdsI B gi n k P wr) : B ≤ gi ∧ gi < wr.heap.size := by obtain ⟨xs, h1, h2⟩ := h; exact h1.lt gi rfl

set_option maxHeartbeats 2000000 in
theorem ids_any (w : World) (rb hb g n : Nat) (m : Mp) (h : RK w rb hb g n m) (hN : n ≤ 100000) : Calls Tryz.prog 159 #[.pointer (some ⟨rb, 0, none⟩)] w (IdsP n m w) := by
  have c0 := h.cell
  obtain ⟨f, pl, v, hn, hr, hh⟩ := h.S
  have c1 := hn.P.cell0
  have HNone := Lib.hid (isNone_any w rb hb c0)
  have HC := Lib.hid (clone_any w hb g n f pl v hn hN)
  have HR := Lib.hid hr
  clear h hn hr hh
  obtain ⟨i0, hi, hz0, hz1, hz2⟩ := info_parts info3
  by_cases hpos : 0 < n
  · go_enter Tryz.func159, Tryz.ntmps159
    go_wp2_with fail
    refine HNone.out.mono ?_
    rintro e w' ⟨rfl, rfl⟩
    go_wp2_with fail
    refine HC.out.mono ?_
    rintro e w1 ⟨a, cap, rfl, hb1, hE⟩
    obtain ⟨g1, rfl, hg1, hE1⟩ := hE hpos
    have HB1 := Lib.hid hb1
    have HE1 := Lib.hid hE1
    clear hb1 hE1 hE c0 c1
    go_wp2_with fail
    refine (sort_any w1 g1 cap n f HE1.out hN hpos).mono ?_
    rintro e w2 ⟨rfl, ⟨P, hP1, hP2, hcells⟩, ho2⟩
    obtain ⟨hOrd, hPl⟩ := ord_of_sort HR.out hP1 hP2
    have hs2 : w.heap.size ≤ w2.heap.size := Nat.le_trans HB1.out.size ho2.size
    have hg2 : g1 < w2.heap.size := Nat.lt_of_lt_of_le HE1.out.lt ho2.size
    have HB2 : Hid (Below w.heap.size w w2) := HB1.out.trans (ho2.below HB1.out.size (fun k hk e => by rw [e]; exact hg1))
    obtain ⟨w3, hmk, hown, hgr⟩ := run_make_full (P := Tryz.prog) w2 w.heap.size 41 3 i0 _ 1 Tryz.underlying41 hi hz0 hz1 .i64 .i64 n (by rw [hz2]; omega) (by unfold maxLen; omega) hs2
    have HB3 : Hid (Below w.heap.size w w3) := HB2.out.grown hgr hs2 (fun k hk => by cases hk)
    have HI : Hid (IdsI w.heap.size w2.heap.size n 0 P w3) := ⟨_, hown, fun i hi => by omega⟩
    have HCl : Hid (∀ i, i < n → w3.cell? ⟨g1, i * 2, none⟩ = some (.int .i64 (P.getD i (0, 0)).1) ∧ w3.cell? ⟨g1, i * 2 + 1, none⟩ = some (.int .i64 (P.getD i (0, 0)).2)) :=
      fun i hi => ⟨hgr.cell (hcells i hi).1 (by simp), hgr.cell (hcells i hi).2 (by simp)⟩
    have HOrd := Lib.hid hOrd
    have HPl := Lib.hid hPl
    have hgne : g1 ≠ w2.heap.size := by omega
    clear hP1 hP2 hcells ho2 hOrd hPl hown hgr hi hz0 hz1 hz2
    generalize hgi : w2.heap.size = gi at *
    go_wp2_with fail
    clear hmk
    have HGI := Lib.hid hgi
    clear hgi
    go_loopw [24] (fun i wr => ∃ k : Nat, i = .int .i64 k ∧ k ≤ n ∧ Hid (IdsI w.heap.size gi n k P wr) ∧ Hid (∀ i, i < n → wr.cell? ⟨g1, i * 2, none⟩ = some (.int .i64 (P.getD i (0, 0)).1) ∧ wr.cell? ⟨g1, i * 2 + 1, none⟩ = some (.int .i64 (P.getD i (0, 0)).2)) ∧ Hid (Below w.heap.size w wr)) (fun i _ => n - (intOf i).toNat)
    case atStart => exact ⟨0, rfl, Nat.zero_le _, HI, HCl, HB3⟩
    case round =>
      clear HI HCl HB3
      obtain ⟨k, rfl, hk, HI, HCl, HB⟩ := hrel
      by_cases hlt : k < n
      · obtain ⟨e1, e2⟩ := HCl.out k hlt
        obtain ⟨u, hu⟩ := HI.out.cell hlt
        have hfz := HI.out.free k
        have hgil := HI.out.lt.2
        have hg1l := World.block_lt_of_cell? wr _ e1
        dsimp only at hg1l
        have HI2 : ∀ o, Hid (IdsI w.heap.size gi n (k + 1) P ((wr.setCell ⟨gi, k, none⟩ (.int .i64 (P.getD k (0, 0)).1)).alloc o)) := fun o => (HI.out.step hlt).alloc o
        have HB2' : ∀ o, Hid (Below w.heap.size w ((wr.setCell ⟨gi, k, none⟩ (.int .i64 (P.getD k (0, 0)).1)).alloc o)) := fun o => (HB.out.setCell hs2 _).alloc (by have := HB.out.size; simpa using this) _
        have HCl2 : ∀ o, Hid (∀ i, i < n → ((wr.setCell ⟨gi, k, none⟩ (.int .i64 (P.getD k (0, 0)).1)).alloc o).cell? ⟨g1, i * 2, none⟩ = some (.int .i64 (P.getD i (0, 0)).1) ∧ ((wr.setCell ⟨gi, k, none⟩ (.int .i64 (P.getD k (0, 0)).1)).alloc o).cell? ⟨g1, i * 2 + 1, none⟩ = some (.int .i64 (P.getD i (0, 0)).2)) := fun o i hi => by
          obtain ⟨d1, d2⟩ := HCl.out i hi
          have hh : ((wr.setCell ⟨gi, k, none⟩ (.int .i64 (P.getD k (0, 0)).1)).alloc o).heap[g1]? = wr.heap[g1]? := (Below.heap_alloc _ _ _ (by simpa using hg1l)).trans (heap_set_other hgne)
          exact ⟨(World.cell?_of_block (a := ⟨g1, i * 2, none⟩) hh).trans d1, (World.cell?_of_block (a := ⟨g1, i * 2 + 1, none⟩) hh).trans d2⟩
        clear HI HCl HB
        have HX2 := Lib.hid (And.intro HI2 (And.intro HB2' HCl2))
        clear HI2 HB2' HCl2
        generalize hz : P.getD k (0, 0) = z at *
        obtain ⟨z1, z2⟩ := z
        dsimp only at e1 e2 HX2
        have HZ := Lib.hid hz
        clear hz
        go_wp2_with fail
        go_roundw
        case rel => exact ⟨k + 1, by go_num, by omega, HX2.out.1 _, HX2.out.2.2 _, HX2.out.2.1 _⟩
        case measure => simp [intOf]; omega
      · obtain rfl : k = n := by omega
        have HF : Hid (IdsP k m w (.returned (.slice (some ⟨gi, 0, none⟩) k k)) wr) := ⟨gi, P, rfl, HOrd.out, HPl.out, HI.out.done HPl.out, HB.out⟩
        clear HI HCl HB
        go_wp2_with fail
        go_ret
        exact HF
  · obtain rfl : n = 0 := by omega
    go_enter Tryz.func159, Tryz.ntmps159
    go_wp2_with fail
    refine HNone.out.mono ?_
    rintro e w' ⟨rfl, rfl⟩
    go_wp2_with fail
    refine HC.out.mono ?_
    rintro e w1 ⟨a, cap, rfl, hb1, _⟩
    have HB1 := Lib.hid hb1
    clear hb1 c0 c1
    go_wp2_with fail
    refine (sort_none w1 a cap _).mono ?_
    rintro e w2 ⟨rfl, rfl⟩
    obtain ⟨hOrd, hPl⟩ := ord_of_sort HR.out (P := []) (by simp) List.Pairwise.nil
    have hs2 : w.heap.size ≤ w1.heap.size := HB1.out.size
    obtain ⟨w3, hmk, hown, hgr⟩ := run_make_full (P := Tryz.prog) w1 w.heap.size 41 3 i0 _ 1 Tryz.underlying41 hi hz0 hz1 .i64 .i64 0 (by omega) (by unfold maxLen; omega) hs2
    have HB3 : Hid (Below w.heap.size w w3) := HB1.out.grown hgr hs2 (fun k hk => by cases hk)
    have HF : Hid (IdsP 0 m w (.returned (.slice (some ⟨w1.heap.size, 0, none⟩) 0 0)) w3) := ⟨_, [], rfl, hOrd, rfl, IdsI.done (P := []) ⟨_, hown, fun i hi => by omega⟩ rfl, HB3.out⟩
    clear hOrd hPl hown hgr hi hz0 hz1 hz2 HB3
    generalize hgi : w1.heap.size = gi at *
    simp only [Int.natCast_zero] at hmk
    go_wp2_with fail
    go_loop [24] (fun i => i = .int .i64 0) (fun _ => 0)
    case atStart => rfl
    case round =>
      subst hrel
      go_wp2_with fail
      go_ret
      exact HF

end Go.Proofs.YtkkmfpllgjoceaaGreat.Rq

namespace Go.Proofs.YtkkmfpllgjoceaaGreat.Rq
open Go.RowKit Rk Rd Go.Sort
set_option linter.unusedVariables false
set_option maxRecDepth 100000

/-- a new row of all jobs' tasks -/
def JobsP (L : List Int) (w : World) (e : Ending) (w' : World) : Prop := ∃ g, e = .returned (.slice (some ⟨g, 0, none⟩) (srt L).length (srt L).length) ∧ NR w' w.heap.size (.slice (some ⟨g, 0, none⟩) (srt L).length (srt L).length) (ids (srt L)) ∧ Below w.heap.size w w'
theorem qjobs_any {w : World} {qb rb hb g : Nat} {L : List Int} (h : QS w qb rb hb g L) : Calls Tryz.prog 95 #[.pointer (some ⟨qb, 0, none⟩)] w (JobsP L w) := by
  have HK := Lib.hid (kept_cell h.c0)
  have HI := Lib.hid (ids_any w rb hb g _ _ h.k h.sz)
  have HO := Lib.hid (srt_ord L)
  clear h
  go_enter Tryz.func95, Tryz.ntmps95
  go_wp2_with fail
  refine HK.out.mono ?_
  rintro e w' ⟨rfl, rfl⟩
  go_wp2_with fail
  refine HI.out.mono ?_
  rintro e w1 ⟨gi, P, rfl, hP, hl, hown, hb1⟩
  obtain rfl : P = srt L := hP.unique HO.out
  have HR : Hid (NR w1 w.heap.size (.slice (some ⟨gi, 0, none⟩) (srt L).length (srt L).length) (ids (srt L))) := by
    unfold Hid NR
    rw [ids_len]
    have e1 : nums (ids (srt L)) = idv (srt L) := by unfold nums ids idv; rw [List.map_map]; rfl
    rw [e1]
    exact hown
  have HB := Lib.hid hb1
  clear hP hl hown hb1
  go_wp2_with fail
  go_ret
  exact ⟨_, rfl, HR.out, HB.out⟩
/-- the tasks whose jobs are late: a beginning of a new row -/
def LateP (xs : List Int) (w : World) (e : Ending) (w' : World) : Prop := ∃ g cap, e = .returned (.slice (some ⟨g, 0, none⟩) xs.length cap) ∧ IS w' (.slice (some ⟨g, 0, none⟩) xs.length cap) xs ∧ Below w.heap.size w w'
end Go.Proofs.YtkkmfpllgjoceaaGreat.Rq
