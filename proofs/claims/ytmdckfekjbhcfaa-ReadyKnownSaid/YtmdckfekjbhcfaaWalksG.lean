/- Ids. -/
import Derived.Test.YtmdckfekjbhcfaaWalksF
namespace Go.Proofs.Ytmdckfekjbhcfaa
open Go.RowKit Rk
set_option linter.unusedVariables false

theorem info3 : (Try.prog.info? 3).map (fun i => (i.zero, i.size, i.bytes)) = some (some (.int .i64 0), 1, 8) := by kernel_rfl
/-- ids' values -/
def idv (P : List En) : List Value := P.map fun x => .int .i64 x.1
/-- a new row of all ids in order -/
def IdsP (n : Nat) (m : Mp) (w : World) (e : Ending) (w' : World) : Prop :=
  ∃ g P, e = .returned (.slice (some ⟨g, 0, none⟩) n n) ∧ Ord m P ∧ P.length = n ∧ w'.ownsRow w.heap.size 3 1 (.slice (some ⟨g, 0, none⟩) n n) n (idv P) ∧ Below w.heap.size w w'
/-- the ids so far -/
def IdsI (B gi n k : Nat) (P : List En) (wr : World) : Prop :=
  ∃ xs, wr.ownsRow B 3 1 (.slice (some ⟨gi, 0, none⟩) n n) n xs ∧ ∀ i, i < k → xs[i]? = some (.int .i64 (P.getD i (0, 0)).1)
theorem IdsI.done {B gi n : Nat} {P : List En} {wr : World} (h : IdsI B gi n n P wr) (hl : P.length = n) : wr.ownsRow B 3 1 (.slice (some ⟨gi, 0, none⟩) n n) n (idv P) := by
  obtain ⟨xs, h1, h2⟩ := h
  have e : xs = idv P := by
    apply List.ext_getElem?
    intro i
    by_cases hi : i < n
    · rw [h2 i hi, idv, List.getElem?_map, List.getD_eq_getElem?_getD, List.getElem?_eq_getElem (by omega)]
      rfl
    · rw [List.getElem?_eq_none (by have := h1.1; omega), List.getElem?_eq_none (by simp [idv, hl]; omega)]
  rw [← e]; exact h1
theorem IdsI.step {B gi n k : Nat} {P : List En} {wr : World} (h : IdsI B gi n k P wr) (hk : k < n) : IdsI B gi n (k + 1) P (wr.setCell ⟨gi, k, none⟩ (.int .i64 (P.getD k (0, 0)).1)) := by
  obtain ⟨xs, h1, h2⟩ := h
  refine ⟨_, (h1.stored k _).1, fun i hi => ?_⟩
  by_cases e : i = k
  · subst e; rw [List.getElem?_set_self (by have := h1.1; omega)]
  · rw [List.getElem?_set_ne (by omega)]; exact h2 i (by omega)
theorem IdsI.alloc {B gi n k : Nat} {P : List En} {wr : World} (h : IdsI B gi n k P wr) (o : Obj) : IdsI B gi n k P (wr.alloc o) := by obtain ⟨xs, h1, h2⟩ := h; exact ⟨xs, h1.alloc o, h2⟩
theorem IdsI.cell {B gi n k : Nat} {P : List En} {wr : World} (h : IdsI B gi n k P wr) {i : Nat} (hi : i < n) : ∃ u, wr.cell? ⟨gi, i, none⟩ = some u := by
  obtain ⟨xs, h1, h2⟩ := h
  rw [h1.cellAt i (by omega), List.getElem?_eq_getElem (by have := h1.1; omega)]
  exact ⟨_, rfl⟩
theorem IdsI.free {B gi n k : Nat} {P : List En} {wr : World} (h : IdsI B gi n k P wr) (o : Nat) : wr.frozen? ⟨gi, o, none⟩ = false := by obtain ⟨xs, h1, h2⟩ := h; exact h1.frozenAt o
theorem IdsI.lt {B gi n k : Nat} {P : List En} {wr : World} (h : IdsI B gi n k P wr) : B ≤ gi ∧ gi < wr.heap.size := by obtain ⟨xs, h1, h2⟩ := h; exact h1.lt gi rfl

set_option maxHeartbeats 2000000 in
theorem ids_any (w : World) (rb hb g n : Nat) (m : Mp) (h : RK w rb hb g n m) (hN : n ≤ 100000) : Calls Try.prog 31 #[.pointer (some ⟨rb, 0, none⟩)] w (IdsP n m w) := by
  have c0 := h.cell
  obtain ⟨f, pl, v, hn, hr, hh⟩ := h.S
  have c1 := hn.P.cell0
  have HNone := Lib.hid (isNone_any w rb hb c0)
  have HC := Lib.hid (clone_any w hb g n f pl v hn hN)
  have HR := Lib.hid hr
  clear h hn hr hh
  obtain ⟨i0, hi, hz0, hz1, hz2⟩ := info_parts info3
  by_cases hpos : 0 < n
  · go_enter Try.func31, Try.ntmps31
    go_wp2_with fail
    refine HNone.out.mono ?_
    rintro e w' ⟨rfl, rfl⟩
    go_wp2_with fail
    refine HC.out.mono ?_
    rintro e w1 ⟨a, cap, rfl, hb1, hE⟩
    obtain ⟨g1, rfl, hg1, hE1⟩ := hE hpos
    have HB1 := Lib.hid hb1
    have HE1 := Lib.hid hE1
    clear hb1 hE1 hE c0 c1
    go_wp2_with fail
    refine (sort_any w1 g1 cap n f HE1.out hN hpos).mono ?_
    rintro e w2 ⟨rfl, ⟨P, hP1, hP2, hcells⟩, ho2⟩
    obtain ⟨hOrd, hPl⟩ := ord_of_sort HR.out hP1 hP2
    have hs2 : w.heap.size ≤ w2.heap.size := Nat.le_trans HB1.out.size ho2.size
    have hg2 : g1 < w2.heap.size := Nat.lt_of_lt_of_le HE1.out.lt ho2.size
    have HB2 : Hid (Below w.heap.size w w2) := HB1.out.trans (ho2.below HB1.out.size (fun k hk e => by rw [e]; exact hg1))
    obtain ⟨w3, hmk, hown, hgr⟩ := run_make_full (P := Try.prog) w2 w.heap.size 36 3 i0 _ 1 Try.underlying36 hi hz0 hz1 .i64 .i64 n (by rw [hz2]; omega) (by unfold maxLen; omega) hs2
    have HB3 : Hid (Below w.heap.size w w3) := HB2.out.grown hgr hs2 (fun k hk => by cases hk)
    have HI : Hid (IdsI w.heap.size w2.heap.size n 0 P w3) := ⟨_, hown, fun i hi => by omega⟩
    have HCl : Hid (∀ i, i < n → w3.cell? ⟨g1, i * 2, none⟩ = some (.int .i64 (P.getD i (0, 0)).1) ∧ w3.cell? ⟨g1, i * 2 + 1, none⟩ = some (.int .i64 (P.getD i (0, 0)).2)) :=
      fun i hi => ⟨hgr.cell (hcells i hi).1 (by simp), hgr.cell (hcells i hi).2 (by simp)⟩
    have HOrd := Lib.hid hOrd
    have HPl := Lib.hid hPl
    have hgne : g1 ≠ w2.heap.size := by omega
    clear hP1 hP2 hcells ho2 hOrd hPl hown hgr hi hz0 hz1 hz2
    generalize hgi : w2.heap.size = gi at *
    go_wp2_with fail
    clear hmk
    have HGI := Lib.hid hgi
    clear hgi
    go_loopw [24] (fun i wr => ∃ k : Nat, i = .int .i64 k ∧ k ≤ n ∧ Hid (IdsI w.heap.size gi n k P wr) ∧ Hid (∀ i, i < n → wr.cell? ⟨g1, i * 2, none⟩ = some (.int .i64 (P.getD i (0, 0)).1) ∧ wr.cell? ⟨g1, i * 2 + 1, none⟩ = some (.int .i64 (P.getD i (0, 0)).2)) ∧ Hid (Below w.heap.size w wr)) (fun i _ => n - (intOf i).toNat)
    case atStart => exact ⟨0, rfl, Nat.zero_le _, HI, HCl, HB3⟩
    case round =>
      clear HI HCl HB3
      obtain ⟨k, rfl, hk, HI, HCl, HB⟩ := hrel
      by_cases hlt : k < n
      · obtain ⟨e1, e2⟩ := HCl.out k hlt
        obtain ⟨u, hu⟩ := HI.out.cell hlt
        have hfz := HI.out.free k
        have hgil := HI.out.lt.2
        have hg1l := World.block_lt_of_cell? wr _ e1
        dsimp only at hg1l
        have HI2 : ∀ o, Hid (IdsI w.heap.size gi n (k + 1) P ((wr.setCell ⟨gi, k, none⟩ (.int .i64 (P.getD k (0, 0)).1)).alloc o)) := fun o => (HI.out.step hlt).alloc o
        have HB2' : ∀ o, Hid (Below w.heap.size w ((wr.setCell ⟨gi, k, none⟩ (.int .i64 (P.getD k (0, 0)).1)).alloc o)) := fun o => (HB.out.setCell hs2 _).alloc (by have := HB.out.size; simpa using this) _
        have HCl2 : ∀ o, Hid (∀ i, i < n → ((wr.setCell ⟨gi, k, none⟩ (.int .i64 (P.getD k (0, 0)).1)).alloc o).cell? ⟨g1, i * 2, none⟩ = some (.int .i64 (P.getD i (0, 0)).1) ∧ ((wr.setCell ⟨gi, k, none⟩ (.int .i64 (P.getD k (0, 0)).1)).alloc o).cell? ⟨g1, i * 2 + 1, none⟩ = some (.int .i64 (P.getD i (0, 0)).2)) := fun o i hi => by
          obtain ⟨d1, d2⟩ := HCl.out i hi
          have hh : ((wr.setCell ⟨gi, k, none⟩ (.int .i64 (P.getD k (0, 0)).1)).alloc o).heap[g1]? = wr.heap[g1]? := (Below.heap_alloc _ _ _ (by simpa using hg1l)).trans (heap_set_other hgne)
          exact ⟨(World.cell?_of_block (a := ⟨g1, i * 2, none⟩) hh).trans d1, (World.cell?_of_block (a := ⟨g1, i * 2 + 1, none⟩) hh).trans d2⟩
        clear HI HCl HB
        have HX2 := Lib.hid (And.intro HI2 (And.intro HB2' HCl2))
        clear HI2 HB2' HCl2
        generalize hz : P.getD k (0, 0) = z at *
        obtain ⟨z1, z2⟩ := z
        dsimp only at e1 e2 HX2
        have HZ := Lib.hid hz
        clear hz
        go_wp2_with fail
        go_roundw
        case rel => exact ⟨k + 1, by go_num, by omega, HX2.out.1 _, HX2.out.2.2 _, HX2.out.2.1 _⟩
        case measure => simp [intOf]; omega
      · obtain rfl : k = n := by omega
        have HF : Hid (IdsP k m w (.returned (.slice (some ⟨gi, 0, none⟩) k k)) wr) := ⟨gi, P, rfl, HOrd.out, HPl.out, HI.out.done HPl.out, HB.out⟩
        clear HI HCl HB
        go_wp2_with fail
        go_ret
        exact HF
  · obtain rfl : n = 0 := by omega
    go_enter Try.func31, Try.ntmps31
    go_wp2_with fail
    refine HNone.out.mono ?_
    rintro e w' ⟨rfl, rfl⟩
    go_wp2_with fail
    refine HC.out.mono ?_
    rintro e w1 ⟨a, cap, rfl, hb1, _⟩
    have HB1 := Lib.hid hb1
    clear hb1 c0 c1
    go_wp2_with fail
    refine (sort_none w1 a cap _).mono ?_
    rintro e w2 ⟨rfl, rfl⟩
    obtain ⟨hOrd, hPl⟩ := ord_of_sort HR.out (P := []) (by simp) List.Pairwise.nil
    have hs2 : w.heap.size ≤ w1.heap.size := HB1.out.size
    obtain ⟨w3, hmk, hown, hgr⟩ := run_make_full (P := Try.prog) w1 w.heap.size 36 3 i0 _ 1 Try.underlying36 hi hz0 hz1 .i64 .i64 0 (by omega) (by unfold maxLen; omega) hs2
    have HB3 : Hid (Below w.heap.size w w3) := HB1.out.grown hgr hs2 (fun k hk => by cases hk)
    have HF : Hid (IdsP 0 m w (.returned (.slice (some ⟨w1.heap.size, 0, none⟩) 0 0)) w3) := ⟨_, [], rfl, hOrd, rfl, IdsI.done (P := []) ⟨_, hown, fun i hi => by omega⟩ rfl, HB3.out⟩
    clear hOrd hPl hown hgr hi hz0 hz1 hz2 HB3
    generalize hgi : w1.heap.size = gi at *
    simp only [Int.natCast_zero] at hmk
    go_wp2_with fail
    go_loop [24] (fun i => i = .int .i64 0) (fun _ => 0)
    case atStart => rfl
    case round =>
      subst hrel
      go_wp2_with fail
      go_ret
      exact HF

end Go.Proofs.Ytmdckfekjbhcfaa
