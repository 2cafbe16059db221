/- Copies; the same numbers; begins that are brought to be such; the chapter's examples. -/
import Derived.Test.YtfjeoefnpcgnnaaTurS
namespace Go.Proofs.Ytfjeoefnpcgnnaa.Pw
open Go.RowKit Go.Sort Pu
set_option linter.unusedVariables false
set_option maxRecDepth 100000

theorem is_of_own {n : Nat} {zs : List Int} {w' : World} {base : Nat} {v : Value} (hn : n = zs.length) (h : w'.ownsRow base 3 1 v n (zs.map (Value.int .i64))) : IS w' v zs := by
  subst hn
  exact NR.is (C := base) h
set_option maxHeartbeats 400000 in
theorem copy_is {w : World} {v : Value} {zs : List Int} (h : IS w v zs) (hl : zs.length * 8 ≤ 140737488351232) : Calls Try.prog 8 #[v] w (fun e w' => ∃ r, e = .returned r ∧ IS w' r zs ∧ Below w.heap.size w w') := by
  obtain ⟨i0, hi, hz0, hz1, hz2⟩ := info_parts infoI13
  obtain ⟨a, cap, rfl, hn1, hn2⟩ := h.slice
  rcases a with _ | ad
  · obtain ⟨rfl, rfl⟩ : zs = [] ∧ cap = 0 := by
      obtain ⟨a', cap', e, h1, h2, h3, h4⟩ := h
      injection e with e1 e2 e3
      have hc0 := h3 e1.symm
      exact ⟨List.eq_nil_of_length_eq_zero (by omega), by omega⟩
    clear h hn1 hn2 hl
    have h0 := World.ownsRow_nil w w.heap.size 3 1
    go_enter Try.func8, Try.ntmps8
    go_wp2_with fail
    go_ret
    exact ⟨_, rfl, IS.nil _, Below.refl _ _⟩
  · have h0 := World.ownsRow_nil w w.heap.size 3 1
    have hc : ∀ (j : Nat) (u : Value), (zs.map (Value.int .i64))[j]? = some u → w.cell? (ad.add j) = some u := by
      intro j u hj
      have hjl : j < zs.length := by
        have := (List.getElem?_eq_some_iff.1 hj).1
        simpa using this
      obtain ⟨b, off, e, hcell⟩ := h.at hjl
      injection e with e
      subst e
      rw [Addr.add_lit, hcell]
      rw [List.getElem?_map, List.getElem?_eq_getElem hjl] at hj
      simpa [List.getD, List.getElem?_eq_getElem hjl] using hj
    obtain ⟨n, hn⟩ : ∃ n, n = zs.length := ⟨_, rfl⟩
    rw [← hn] at hn1 hl ⊢
    have HN := Lib.hid hn; clear hn
    have HC := Lib.hid hc; clear hc h
    go_enter Try.func8, Try.ntmps8
    go_wp2_with (at_builtin; refine wpList_append_own _ rfl _ _ 23 rfl w.heap.size 3 i0 (.int .i64 0) 1 8 Try.underlying23 hi hz0 hz1 hz2 rfl (by decide) (.slice none 0 0) 0 [] rfl h0 ad n cap (zs.map (Value.int .i64)) rfl ?c0 ?c1 ?c2 ?c3 ?c4 ?c5 ?_)
    case c0 => simp [HN.out]
    case c1 => exact HC.out
    case c2 => intro u hu; obtain ⟨z, _, rfl⟩ := List.mem_map.1 hu; rfl
    case c3 => unfold maxLen; omega
    case c4 => omega
    case c5 => exact Nat.le_refl _
    intro v' w1 hown hgrow _
    have hown' : w1.ownsRow w.heap.size 3 1 v' n (zs.map (Value.int .i64)) := by simpa using hown
    have HR := Lib.hid (is_of_own HN.out hown')
    have HB := Lib.hid ((Below.refl w.heap.size w).grown hgrow (Nat.le_refl _) (fun k hk => by simp [Value.ownBlock] at hk))
    clear hown hgrow h0 hown'
    obtain ⟨a1, c1, rfl, _, _⟩ := HR.out.slice
    go_wp2_with fail
    go_ret
    exact ⟨_, rfl, HR.out, HB.out⟩
set_option maxHeartbeats 1000000 in
/-- the same numbers are the same, however many there are -/
theorem eqs_is {w : World} {u v : Value} {xs : List Int} (hu : IS w u xs) (hv : IS w v xs) : Calls Try.prog 11 #[u, v] w (VB (.bool true) w) := by
  obtain ⟨a, cap, rfl, hn1, hn2⟩ := hu.slice
  obtain ⟨b, cap', rfl, hn3, hn4⟩ := hv.slice
  have HU := Lib.hid hu
  have HV := Lib.hid hv
  obtain ⟨m, hm⟩ : ∃ m, m = xs.length := ⟨_, rfl⟩
  have hmx : m ≤ 9223372036854775807 := by unfold maxLen at hn2; omega
  rw [← hm] at HU HV ⊢
  clear hu hv hm hn1 hn2 hn3 hn4
  go_enter Try.func11, Try.ntmps11
  go_wp2_with fail
  go_loopw [5] (fun i wr => ∃ k : Nat, k ≤ m ∧ i = .int .i64 k ∧ Hid (Below w.heap.size w wr)) (fun i _ => m - (intOf i).toNat)
  case atStart => exact ⟨0, Nat.zero_le _, rfl, Below.refl _ _⟩
  case round =>
    obtain ⟨k, hk, rfl, HB⟩ := hrel
    by_cases hlt : k < m
    · obtain ⟨b1, o1, rfl, e1⟩ := (HU.out.below HB.out).at hlt
      obtain ⟨b2, o2, rfl, e2⟩ := (HV.out.below HB.out).at hlt
      generalize xs.getD k 0 = q at *
      have hki : (k : Int) < (m : Int) := by omega
      have hk0 : (0 : Int) ≤ k := by omega
      go_wp2_with fail
      go_quiet (fail)
      go_wp2_with fail
      go_roundw
      case rel => exact ⟨k + 1, by omega, by go_num, below_drewN HB.out _⟩
      case measure => simp [intOf]; omega
    · obtain rfl : k = m := by omega
      go_wp2_with fail
      go_ret
      exact ⟨rfl, HB.out⟩
/-- a row of numbers that has just so much room -/
def NB (w : World) (g : Nat) (xs : List Int) : Prop := w.heap[g]? = some (.cells (nums xs).toArray 3 (0, 0))
theorem NB.is {w : World} {g : Nat} {xs : List Int} (h : NB w g xs) (hl : xs.length ≤ maxLen) : IS w (.slice (some ⟨g, 0, none⟩) xs.length xs.length) xs :=
  ⟨_, _, rfl, Nat.le_refl _, hl, (fun h => by cases h), fun _ => ⟨_, 0, rfl, fun i hi => by rw [Nat.zero_add, cell_of_row _ _ i _ _ _ h, List.getElem?_toArray]; exact nums_at xs i hi⟩⟩
theorem NB.nr {w : World} {g B : Nat} {xs : List Int} (h : NB w g xs) (hl : xs.length ≤ maxLen) (hB : B ≤ g) : NR w B (.slice (some ⟨g, 0, none⟩) xs.length xs.length) xs :=
  ⟨by simp [nums], Or.inr ⟨g, _, _, rfl, hB, h, Nat.le_refl _, hl, by simp [nums], by simp [nums]; exact List.take_of_length_le (by simp)⟩⟩
theorem NB.at {w : World} {g i : Nat} {xs : List Int} (h : NB w g xs) (hi : i < xs.length) : w.cell? ⟨g, i, none⟩ = some (.int .i64 (xs.getD i 0)) ∧ w.frozen? ⟨g, i, none⟩ = false :=
  ⟨by rw [cell_of_row _ _ i _ _ _ h, List.getElem?_toArray]; exact nums_at xs i hi, frozen_of_row _ _ i _ _ h⟩
theorem NB.set {w : World} {g : Nat} {xs : List Int} (h : NB w g xs) (i : Nat) (x : Int) : NB (w.setCell ⟨g, i, none⟩ (.int .i64 x)) g (xs.set i x) := by
  have := heap_setCell_same w g i _ _ (.int .i64 x) h
  unfold NB nums
  rw [this]
  simp [nums, List.map_set]
theorem NB.below {w w' : World} {g : Nat} {xs : List Int} (h : NB w g xs) (q : Below w.heap.size w w') : NB w' g xs := (q.block g (lt_of_block h)).trans h
theorem NB.made (w : World) (n : Nat) : NB (w.alloc (.cells (madeCells #[.int .i64 0] n) 3)) w.heap.size (List.replicate n 0) := by
  have e : madeCells #[.int .i64 0] n = (nums (List.replicate n 0)).toArray := by
    apply Array.ext
    · simp [madeCells, nums]
    · intro i h1 h2
      simp [madeCells, nums, Nat.mod_one]
  unfold NB; rw [← e]; exact heap_alloc_new w _
/-- begins, of which the first j have been brought to be such -/
def bg (xs : List Int) (m j : Nat) : List Int := (List.range m).map fun i => if i < j ∧ i < xs.length then bring (xs.getD i 0) 50 else 0
theorem bg_len (xs : List Int) (m j : Nat) : (bg xs m j).length = m := by unfold bg; simp
theorem bg_zero (xs : List Int) (m : Nat) : bg xs m 0 = List.replicate m 0 := by
  unfold bg; apply List.ext_getElem
  · simp
  · intro i h1 h2; simp
theorem bg_succ (xs : List Int) {m j : Nat} (hj : j < m) (hx : j < xs.length) : (bg xs m j).set j (bring (xs.getD j 0) 50) = bg xs m (j + 1) := by
  unfold bg; apply List.ext_getElem
  · simp
  · intro i h1 h2
    simp only [List.getElem_set, List.getElem_map, List.getElem_range]
    by_cases e : j = i
    · subst e; rw [if_pos rfl, if_pos ⟨by omega, hx⟩]
    · rw [if_neg e]
      by_cases h : i < j ∧ i < xs.length
      · rw [if_pos h, if_pos ⟨by omega, h.2⟩]
      · rw [if_neg h, if_neg (by omega)]
theorem bg_range (xs : List Int) (m j i : Nat) : 0 ≤ (bg xs m j).getD i 0 ∧ (bg xs m j).getD i 0 < 50 := by
  unfold bg
  rw [List.getD_eq_getElem?_getD, List.getElem?_map]
  by_cases h : i < m
  · rw [List.getElem?_range h]
    simp only [Option.map_some, Option.getD_some]
    split
    · exact bring_range _ (by decide)
    · omega
  · rw [List.getElem?_eq_none (by simpa using h)]; simp
theorem infoN13 : (Try.prog.info? 3).map (fun i => (i.zero, i.size, i.bytes)) = some (some (.int .i64 0), 1, 8) := infoI13
def BegP (xs : List Int) (m : Nat) (w : World) (E : Ending) (w' : World) : Prop := ∃ r j, E = .returned r ∧ IS w' r (bg xs m j) ∧ Below w.heap.size w w'
set_option maxHeartbeats 4000000 in
theorem begun_any {w : World} {v u : Value} {m : Nat} {p q : Nat → Int} {xs : List Int} (h : SV w v m p q) (hu : IS w u xs) (hm : m ≤ 4) : Calls Try.prog 22 #[v, u] w (BegP xs m w) := by
  obtain ⟨a, cap, rfl, hn1, hn2⟩ := h.slice
  obtain ⟨a2, cap2, rfl, hn3, hn4⟩ := hu.slice
  have HU := Lib.hid hu
  obtain ⟨k, hk⟩ : ∃ k, k = xs.length := ⟨_, rfl⟩
  have hkx : k ≤ 9223372036854775807 := by unfold maxLen at hn4; omega
  have HK := Lib.hid hk
  rw [← hk] at HU ⊢
  have hmk := run_make_row' (P := Try.prog) 23 3 (.int .i64 0) 8 Try.underlying23 infoN13 rfl .i64 .i64 m (by omega) (by omega)
  have HM := Lib.hid (fun w => NB.made w m)
  have HB0 := Lib.hid (below_al w (.cells (madeCells #[.int .i64 0] m) 3))
  clear h hu hn1 hn2 hn3 hn4 hk
  go_enter Try.func22, Try.ntmps22
  go_wp2_with fail
  have HM1 := Lib.hid (HM.out w)
  generalize w.alloc (.cells (madeCells #[.int .i64 0] m) 3) = W1 at *
  have HG : Hid (w.heap.size ≤ w.heap.size) := Nat.le_refl _
  obtain ⟨g, hg⟩ : ∃ g, g = w.heap.size := ⟨_, rfl⟩
  have HGE := Lib.hid hg
  rw [← hg] at HM1 ⊢
  rw [← bg_zero xs m] at HM1
  clear hmk HM HG hg
  go_loopw [6] (fun i wr => ∃ j : Nat, j ≤ m ∧ j ≤ k ∧ i = .int .i64 j ∧ Hid (NB wr g (bg xs m j)) ∧ Hid (Below w.heap.size w wr)) (fun i _ => m - (intOf i).toNat)
  case atStart => exact ⟨0, Nat.zero_le _, Nat.zero_le _, rfl, HM1.out, HB0.out⟩
  case round =>
    clear HM1 HB0
    obtain ⟨j, hjm, hjk, rfl, HN, HB⟩ := hrel
    have HFin : Hid (IS wr (.slice (some ⟨g, 0, none⟩) m m) (bg xs m j)) := by
      have := HN.out.is (by rw [bg_len]; unfold maxLen; omega)
      rwa [bg_len] at this
    by_cases h1 : j < m
    · by_cases h2 : j < k
      · obtain ⟨b1, o1, rfl, e1⟩ := (HU.out.below HB.out).at h2
        obtain ⟨c0, f0⟩ := HN.out.at (i := j) (by rw [bg_len]; exact h1)
        have hI : (j : Int) < (m : Int) := by omega
        have hI2 : (j : Int) < (k : Int) := by omega
        have hI0 : (0 : Int) ≤ j := by omega
        have HBr := Lib.hid (fun w => bring_any (xs.getD j 0) 50 w (by decide) (by decide))
        have HN2 := Lib.hid (HN.out.set j (bring (xs.getD j 0) 50))
        rw [bg_succ xs h1 (by have := HK.out; omega)] at HN2
        have HB2 := Lib.hid (HB.out.setCell (p := ⟨g, j, none⟩) (by rw [HGE.out]; exact Nat.le_refl _) (.int .i64 (bring (xs.getD j 0) 50)))
        clear HFin
        generalize bring (xs.getD j 0) 50 = y at *
        generalize xs.getD j 0 = z at *
        generalize (bg xs m j).getD j 0 = z0 at *
        clear HN HB
        go_wp2_with fail
        refine (HBr.out _).mono ?_
        rintro E w5 ⟨rfl, rfl⟩
        go_wp2_with fail
        go_roundw
        case rel => exact ⟨j + 1, by omega, by omega, by go_num, HN2.out, HB2.out⟩
        case measure => simp [intOf]; omega
      · have hd : decide ((j : Int) < (k : Int)) = false := by simp; omega
        have hI : (j : Int) < (m : Int) := by omega
        go_wp2_with fail
        go_ret
        exact ⟨_, j, rfl, HFin.out, HB.out⟩
    · obtain rfl : j = m := by omega
      go_wp2_with fail
      go_ret
      exact ⟨_, j, rfl, HFin.out, HB.out⟩
end Go.Proofs.Ytfjeoefnpcgnnaa.Pw
