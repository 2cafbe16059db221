/- TurnApart. -/
import Derived.Test.YtfjeoefnpcgnnaaTurV
import Derived.Deep.CutRange
namespace Go.Proofs.Ytfjeoefnpcgnnaa.Pw
open Go.RowKit Go.Sort Pu
set_option linter.unusedVariables false
set_option maxRecDepth 100000

theorem SV.take {w : World} {a : Option Addr} {n cap m : Nat} {p b : Nat → Int} (h : SV w (.slice a n cap) m p b) {j : Nat} (hj : j ≤ n) : SV w (.slice a j cap) j p b := by
  obtain ⟨a', cap', e, h1, h2, h3, h4⟩ := h
  obtain ⟨rfl, rfl, rfl⟩ : a = a' ∧ n = m ∧ cap = cap' := by simpa using e
  refine ⟨_, _, rfl, by omega, h2, h3, fun hp => ?_⟩
  obtain ⟨g, off, rfl, hc⟩ := h4 (by omega)
  exact ⟨g, off, rfl, fun i hi => hc i (by omega)⟩
theorem sflat_pre (P B : Nat → Int) {m : Nat} : ∀ {n : Nat}, m ≤ n → ∀ (j : Nat) (u : Value), (sflat P B m)[j]? = some u → (sflat P B n)[j]? = some u
  | 0, h, j, u, e => by obtain rfl : m = 0 := by omega
                        exact e
  | n + 1, h, j, u, e => by
    by_cases hm : m = n + 1
    · rw [← hm]; exact e
    · have h1 := sflat_pre P B (m := m) (n := n) (by omega) j u e
      have hl := (List.getElem?_eq_some_iff.1 h1).1
      rw [sflat, List.getElem?_append_left hl]; exact h1
theorem sflat_congr {P B P' B' : Nat → Int} : ∀ {m : Nat}, (∀ i, i < m → P i = P' i ∧ B i = B' i) → sflat P B m = sflat P' B' m
  | 0, _ => rfl
  | m + 1, h => by
    have h1 := sflat_congr (m := m) fun i hi => h i (by omega)
    obtain ⟨h2, h3⟩ := h m (by omega)
    rw [sflat, sflat, h1, h2, h3]
/-- a beginning of a row of servers, as a source -/
def SC (w : World) (v : Value) (m : Nat) (P B : Nat → Int) : Prop := ∃ a cap, v = .slice a m cap ∧ m ≤ cap ∧ cap ≤ maxLen ∧ (0 < m → ∃ g, a = some ⟨g, 0, none⟩ ∧ ∀ (j : Nat) (u : Value), (sflat P B m)[j]? = some u → w.cell? ((⟨g, 0, none⟩ : Addr).add j) = some u)
theorem SW.sc {w : World} {C n cap m : Nat} {a : Option Addr} {P B : Nat → Int} (h : SW w C (.slice a n cap) n P B) (hm : m ≤ n) : SC w (.slice a m cap) m P B := by
  have hc := h
  rcases h.2 with ⟨e, h0⟩ | ⟨g, cap', cur, e, hg, hh, hnc, hcm, _⟩
  · obtain ⟨rfl, rfl, rfl⟩ : a = none ∧ n = 0 ∧ cap = 0 := by simpa using e
    exact ⟨_, _, rfl, hm, by decide, fun h => by omega⟩
  · obtain ⟨rfl, rfl⟩ : a = some ⟨g, 0, none⟩ ∧ cap = cap' := by simpa using e
    exact ⟨_, _, rfl, by omega, hcm, fun _ => ⟨g, rfl, fun j u hj => World.ownsRow.cells hc (g := g) rfl j u (sflat_pre P B hm j u hj)⟩⟩
theorem SC.below {w w' : World} {v : Value} {m : Nat} {P B : Nat → Int} (h : SC w v m P B) (q : Below w.heap.size w w') : SC w' v m P B := by
  obtain ⟨a, cap, h1, h2, h3, h4⟩ := h
  refine ⟨a, cap, h1, h2, h3, fun hm => ?_⟩
  obtain ⟨g, e, hc⟩ := h4 hm
  exact ⟨g, e, fun j u hj => (q.cell (lt_of_cell (hc j u hj))).trans (hc j u hj)⟩
theorem sflat_one (P B : Nat → Int) : ∀ m, ∀ u ∈ sflat P B m, u.oneCell' = true
  | 0, u, hu => by simp [sflat] at hu
  | m + 1, u, hu => by
    rw [sflat, List.mem_append] at hu
    rcases hu with hu | hu
    · exact sflat_one P B m u hu
    · exact sv_one _ _ u hu
/-- servers behind none -/
theorem app_parts {w : World} {C g0 m : Nat} {v : Value} {P B : Nat → Int} (hown : w.ownsRow C 53 3 (.slice (some ⟨g0, 0, none⟩) 0 0) 0 []) (hs : SC w v m P B) (hm : m ≤ 1000) (hB : C ≤ w.heap.size) (ty : TypeId) :
    ∃ v' w', (Builtin.append_ #[22, 22] ty #[.slice (some ⟨g0, 0, none⟩) 0 0, v]).run Try.prog w = .ok v' w' ∧ SW w' C v' m P B ∧ Below C w w' := by
  obtain ⟨i0, hi, hz0, hz1, hz2⟩ := info_parts infoPt
  obtain ⟨a, cap, rfl, h1, h2, h3⟩ := hs
  by_cases h0 : m = 0
  · subst h0
    have hsrc : Src Try.prog 3 22 (.slice a 0 cap) 0 [] w := by
      cases a with
      | none => exact Src.ofNil w Try.underlying22 cap
      | some ad => exact Src.ofSlice w Try.underlying22 ad 0 cap [] rfl (by intro j u hj; simp at hj) (by intro u hu; cases hu)
    exact ⟨_, w, run_append_nothing w _ _ ty 53 i0 Try.underlying22 hi _ 0 0 (Nat.le_refl _) _ (by rw [hz1]; exact hsrc), hown, Below.refl _ _⟩
  · obtain ⟨g, rfl, hc⟩ := h3 (by omega)
    have hone := sflat_one P B m
    obtain ⟨v', w', hrun, hown', hgr, _⟩ := run_append_own (P := Try.prog) (w := w) C 22 ty 53 i0 _ 3 40 Try.underlying22 hi hz0 hz1 hz2 rfl (by decide) _ 0 _ hown ⟨g, 0, none⟩ m cap (sflat P B m) (sflat_len P B m) hc hone (by unfold maxLen; omega) (by omega) hB
    refine ⟨v', w', hrun, ?_, (Below.refl C w).grown hgr hB (fun k e => (hown.lt k e).1)⟩
    unfold SW; simpa using hown'
/-- a number behind a row that is full -/
theorem app_full {w : World} {g gx : Nat} {xs : List Int} (h : NB w g xs) (x : Int) (hg : w.heap[gx]? = some (.cells #[.int .i64 x] 3 (0, 0))) (hn : xs.length ≤ 1000) (ty : TypeId) :
    ∃ v' w', (Builtin.append_ #[23, 23] ty #[.slice (some ⟨g, 0, none⟩) xs.length xs.length, .slice (some ⟨gx, 0, none⟩) 1 1]).run Try.prog w = .ok v' w' ∧ IS w' v' (xs ++ [x]) ∧ Below w.heap.size w w' := by
  obtain ⟨i0, hi, hz0, hz1, hz2⟩ := info_parts infoI13
  have hnr := h.nr (B := 0) (by unfold maxLen; omega) (Nat.zero_le _)
  obtain ⟨v', w', hrun, hown', hgr⟩ := run_append_arg_grows (P := Try.prog) w 23 ty 3 i0 _ 1 8 Try.underlying23 hi hz0 hz1 hz2 rfl (by decide) ⟨g, 0, none⟩ xs.length xs.length (nums xs) (by simp [nums]) (fun j u hj => World.ownsRow.cells hnr (g := g) rfl j u hj) ⟨gx, 0, none⟩ 1 1 [.int .i64 x] rfl
    (fun j u hj => by rw [Addr.add_lit, Nat.zero_add, cell_of_row _ _ j _ _ _ hg, List.getElem?_toArray]; exact hj) (by omega) (by unfold maxLen; omega) (by omega)
  have hN : NR w' w.heap.size v' (xs ++ [x]) := by
    unfold NR nums at *
    rw [List.length_append, List.map_append]
    exact hown'
  exact ⟨v', w', hrun, hN.is, ⟨hgr.os, hgr.tape, hgr.output, hgr.size, fun k hk => hgr.block k hk (by simp)⟩⟩
theorem ticks_at' (m : Nat) (P B b : Nat → Nat) {N t : Nat} (h : t < N) : (ticks m P B b N).getD t 0 = Tu.pl m P B b t := by
  unfold ticks
  rw [List.getD_eq_getElem?_getD, List.getElem?_map, List.getElem?_range h]; rfl
/-- one server more -/
def more (m x : Nat) (f : Nat → Nat) : Nat → Nat := fun i => if i < m then f i else x
theorem more_lt {m x i : Nat} {f : Nat → Nat} (h : i < m) : more m x f i = f i := if_pos h
theorem more_at (m x : Nat) (f : Nat → Nat) : more m x f m = x := if_neg (by omega)
/-- what both plans tell of a tick -/
theorem apart_at {m : Nat} {P B : Nat → Nat} {x : Nat} (hm : m ≤ 3) (hP : ∀ i, i < m → 1 ≤ P i ∧ P i ≤ 20) {t : Nat} (ht : t < 44) :
    (Tu.pl m P B (fun _ => 0) t = -1 ∧ (Tu.pl (m + 1) (more m 64 P) (more m x B) (fun _ => 0) t = -1 ∨ Tu.pl (m + 1) (more m 64 P) (more m x B) (fun _ => 0) t = m)) ∨ ∃ k : Nat, Tu.pl m P B (fun _ => 0) t = k ∧ Tu.pl (m + 1) (more m 64 P) (more m x B) (fun _ => 0) t = k := by
  have h := (Tu.apart (n := m) (P := P) (B := B) (b := fun _ => 0) (P' := more m 64 P) (B' := more m x B) (b' := fun _ => 0) (T := 44) (fun i hi => ⟨(more_lt hi).symm, (more_lt hi).symm, rfl⟩) (fun i hi => (hP i hi).1) (fun _ _ => rfl) rfl (by rw [more_at]; decide) (fun i hi => by rw [more_at]; have := (hP i hi).2; omega) (by rw [more_at]; decide) (t := t) (by omega)).2 ht
  rcases Tu.pl_cases (n := m) (P := P) (B := B) (b := fun _ => 0) (t := t) with ⟨z, _⟩ | ⟨k, z, _⟩
  · exact Or.inl ⟨z, h.1 z⟩
  · exact Or.inr ⟨k, z, by rw [h.2 (by omega), z]⟩
set_option maxHeartbeats 40000000 in
theorem apart_law {w : World} {v : Value} {m0 : Nat} {p q : Nat → Int} (h : SV w v m0 p q) (bu : Int) : Calls Try.prog 6 #[v, .int .i64 bu] w (VB (.bool true) w) := by
  have HMA := Lib.hid (made_any h)
  obtain ⟨a, cap, rfl, hn1, hn2⟩ := h.slice
  obtain ⟨P, hP⟩ : ∃ P, P = mP p := ⟨_, rfl⟩
  obtain ⟨B, hB⟩ : ∃ B, B = mB p q := ⟨_, rfl⟩
  obtain ⟨m1, hm1⟩ : ∃ m1, m1 = min m0 4 := ⟨_, rfl⟩
  have hm4 : m1 ≤ 4 := by omega
  obtain ⟨m, hm⟩ : ∃ m, m = min m1 3 := ⟨_, rfl⟩
  have hm3 : m ≤ 3 := by omega
  have hmm : m ≤ m1 := by omega
  have HMM := Lib.hid hm
  have HBD : Hid (∀ i, i < m → 1 ≤ P i ∧ P i ≤ 20 ∧ 1 ≤ B i ∧ B i ≤ P i) := fun i _ => by rw [hP, hB]; exact m_bd p q i
  unfold MadeP at HMA
  rw [← hm1, ← hP, ← hB] at HMA
  have HBU := Lib.hid (fun w => bring_any bu 64 w (by decide) (by decide))
  have hbu := bring_range bu (n := 64) (by decide)
  generalize bring bu 64 = y at *
  have hmk := run_make_row' (P := Try.prog) 23 3 (.int .i64 0) 8 Try.underlying23 infoN13 rfl .i64 .i64 m (by omega) (by omega)
  clear h hn1 hn2 hP hB hm1 hm
  go_enter Try.func6, Try.ntmps6
  go_wp2_with fail
  refine HMA.out.mono ?_
  rintro E w1 ⟨r, rfl, hsw, hb⟩
  have B1 := Lib.hid hb
  have hsw' := hsw
  obtain ⟨ra, rc, rfl, hrc, _⟩ := hsw.sv.slice
  have S1 := Lib.hid (hsw.sv.take hmm)
  have C1 := Lib.hid (hsw'.sc hmm)
  clear hsw hsw' hb HMA
  go_upto_region 2 with (fail)
  go_cut [0] from 15 to 19 (fun o wc => o = .slice ra m rc ∧ w1 = wc)
  case first =>
    have hm := HMM.out
    clear HMM hmk
    by_cases h3 : (3 : Int) < (m1 : Int)
    · obtain rfl : m = 3 := by omega
      obtain rfl : m1 = 4 := by omega
      clear hm
      go_wp2_with fail
      go_meet
      case rel => exact ⟨rfl, rfl⟩
    · obtain rfl : m = m1 := by omega
      clear hm
      go_wp2_with fail
      go_meet
      case rel => exact ⟨rfl, rfl⟩
  case rest =>
    obtain ⟨rfl, rfl⟩ := hcut
    have HN1 := Lib.hid (NB.made w1 m)
    have B2 := Lib.hid (chnB B1.out (below_al w1 (.cells (madeCells #[.int .i64 0] m) 3)))
    have S2 := Lib.hid (S1.out.below (below_al w1 (.cells (madeCells #[.int .i64 0] m) 3)))
    have C2 := Lib.hid (C1.out.below (below_al w1 (.cells (madeCells #[.int .i64 0] m) 3)))
    clear B1 S1 C1 HMM
    go_wp2_with fail
    generalize w1.alloc (.cells (madeCells #[.int .i64 0] m) 3) = w2 at *
    generalize w1.heap.size = g at *
    clear hmk
    have I2 := HN1.out.is (by simp; unfold maxLen; omega)
    rw [List.length_replicate] at I2
    have hE1 : plE m (fun i => (P i : Nat)) (fun i => (B i : Nat)) (List.replicate m 0) 44 = 0 := plE_ok (by omega) (by simp) (fun i hi => by
      obtain ⟨q1, q2, q3, q4⟩ := HBD.out i hi
      have e : (List.replicate m (0 : Int)).getD i 0 = 0 := by simp [List.getD_eq_getElem?_getD, hi]
      rw [e]
      exact ⟨⟨⟨by omega, by omega⟩, by omega, by omega⟩, by decide, by decide⟩)
    have HPL := Lib.hid (plan_ok S2.out I2 hE1)
    have etk : tk m (fun i => (P i : Nat)) (fun i => (B i : Nat)) (List.replicate m 0) 44 = ticks m P B (fun _ => 0) 44 := by
      unfold tk
      have e : (fun i => ((List.replicate m (0 : Int)).getD i 0).toNat) = fun _ => 0 := by
        funext i; by_cases hi : i < m <;> simp [List.getD_eq_getElem?_getD, hi]
      rw [e]; rfl
    unfold PlanI at HPL
    rw [etk] at HPL
    clear hE1 etk I2
    refine HPL.out.mono ?_
    rintro E w3 ⟨r, rfl, hi, hb⟩
    have N3 := Lib.hid (HN1.out.below hb)
    have S3 := Lib.hid (S2.out.below hb)
    have C3 := Lib.hid (C2.out.below hb)
    have B3 := Lib.hid (chnB B2.out hb)
    have A3 := Lib.hid hi
    have HL := Lib.hid (ticks_len m P B (fun _ => 0) 44)
    obtain ⟨pa, pc, rfl, _, _⟩ := hi.slice
    rw [HL.out] at A3 ⊢
    clear hi hb HN1 S2 C2 B2 HPL
    have hown := World.ownsRow_made (base := w3.heap.size) (e := 53) (size := 3) w3 #[] 0 (Nat.le_refl _) (Nat.zero_le _) rfl
    obtain ⟨v4, w4, hrun4, hsw4, hb4⟩ := app_parts hown (C3.out.below (below_al w3 (.cells #[] 53))) (show m ≤ 1000 by omega) (below_al w3 (.cells #[] 53)).size 22
    have hq4 := (below_al w3 (.cells #[] 53)).trans hb4
    obtain ⟨x, hx⟩ : ∃ x : Nat, (1 : Int) + y = (x : Nat) := ⟨(1 + y).toNat, by omega⟩
    have hx1 : 1 ≤ x := by omega
    have hx64 : x ≤ 64 := by omega
    have hsw4' : SW w4 w3.heap.size v4 m (fun i => (more m 64 P i : Nat)) (fun i => (more m x B i : Nat)) := by
      unfold SW at hsw4 ⊢
      rw [← sflat_congr (P := fun i => ((P i : Nat) : Int)) (B := fun i => ((B i : Nat) : Int)) (fun i hi => ⟨by rw [more_lt hi], by rw [more_lt hi]⟩)]
      exact hsw4
    obtain ⟨v5, w5, hrun5, hsw5, hb5⟩ := app_server (w := w4.alloc (.cells #[.int .i64 64, .int .i64 (x : Nat), .slice none 0 0] 53)) (World.ownsRow.alloc hsw4' _) (g := w4.heap.size) (by rw [more_at, more_at]; exact heap_alloc_new w4 _) (Nat.le_trans hq4.size (below_al w4 _).size) (show m ≤ 1000 by omega) 22
    have hq5 := hq4.trans (((below_al w4 (.cells #[.int .i64 64, .int .i64 (x : Nat), .slice none 0 0] 53)).mono hq4.size).trans hb5)
    obtain ⟨a4, c4, rfl, _, _⟩ := hsw4.sv.slice
    have S5 := Lib.hid hsw5.sv
    obtain ⟨a5, c5, rfl, _, _⟩ := hsw5.sv.slice
    have R4 := Lib.hid hrun4
    have R5 := Lib.hid hrun5
    have Q5 := Lib.hid hq5
    have hN5 := (N3.out.below hq5).below (below_al w5 (.cells #[.int .i64 0] 3))
    obtain ⟨v7, w7, hrun7, hi7, hb7⟩ := app_full (gx := w5.heap.size) hN5 0 (heap_alloc_new w5 _) (by simp; omega) 23
    rw [List.length_replicate] at hrun7
    obtain ⟨a7, c7, rfl, _, _⟩ := hi7.slice
    have e7 : (List.replicate m (0 : Int) ++ [0]).length = m + 1 := by simp
    rw [e7] at hrun7 hi7
    have hq7 : Below w5.heap.size w5 w7 := chnB (below_al w5 _) hb7
    have R7 := Lib.hid hrun7
    have S7 := Lib.hid (S5.out.below hq7)
    have I7 := Lib.hid hi7
    have A7 := Lib.hid ((A3.out.below hq5).below hq7)
    have B7 := Lib.hid (chnB (chnB B3.out hq5) hq7)
    have hE2 : plE (m + 1) (fun i => (more m 64 P i : Nat)) (fun i => (more m x B i : Nat)) (List.replicate m 0 ++ [0]) 44 = 0 := plE_ok (by omega) e7 (fun i hi => by
      have e : (List.replicate m (0 : Int) ++ [0]).getD i 0 = 0 := by rw [← List.replicate_succ' (n := m)]; simp [List.getD_eq_getElem?_getD, hi]
      rw [e]
      by_cases h : i < m
      · obtain ⟨q1, q2, q3, q4⟩ := HBD.out i h
        rw [more_lt h, more_lt h]
        exact ⟨⟨⟨by omega, by omega⟩, by omega, by omega⟩, by decide, by decide⟩
      · obtain rfl : i = m := by omega
        rw [more_at, more_at]
        exact ⟨⟨⟨by decide, by decide⟩, by omega, by omega⟩, by decide, by decide⟩)
    have HPL2 := Lib.hid (plan_ok S7.out hi7 hE2)
    have etk2 : tk (m + 1) (fun i => (more m 64 P i : Nat)) (fun i => (more m x B i : Nat)) (List.replicate m 0 ++ [0]) 44 = ticks (m + 1) (more m 64 P) (more m x B) (fun _ => 0) 44 := by
      unfold tk
      have e : (fun i => ((List.replicate m (0 : Int) ++ [0]).getD i 0).toNat) = fun _ => 0 := by
        funext i; rw [← List.replicate_succ' (n := m)]; by_cases hi : i < m + 1 <;> simp [List.getD_eq_getElem?_getD, hi]
      rw [e]; rfl
    unfold PlanI at HPL2
    rw [etk2] at HPL2
    have HAT := Lib.hid (fun t (ht : t < 44) => apart_at (m := m) (P := P) (B := B) (x := x) hm3 (fun i hi => ⟨(HBD.out i hi).1, (HBD.out i hi).2.1⟩) ht)
    clear hown hrun4 hsw4 hb4 hq4 hsw4' hrun5 hsw5 hb5 hq5 hN5 hrun7 hi7 hb7 hq7 hE2 etk2 N3 S3 C3 A3 B3 S5
    go_wp2_with (at_builtin; refine wpList_append_eq rfl (.tmp 30) (.tmp 31) 22 22 rfl _ _ _ _ rfl rfl R4.out ?_)
    refine (HBU.out _).mono ?_
    rintro E w6 ⟨rfl, rfl⟩
    go_wp2_with (first | (at_builtin; refine wpList_append_eq rfl (.tmp 32) (.tmp 37) 22 22 rfl _ _ _ _ rfl rfl R5.out ?_) | (at_builtin; refine wpList_append_eq rfl (.tmp 41) (.tmp 42) 23 23 rfl _ _ _ _ rfl rfl R7.out ?_))
    refine HPL2.out.mono ?_
    rintro E w8 ⟨r, rfl, hi, hb⟩
    have A8 := Lib.hid (A7.out.below hb)
    have B8 := Lib.hid (chnB B7.out hb)
    have D8 := Lib.hid hi
    have HL2 := Lib.hid (ticks_len (m + 1) (more m 64 P) (more m x B) (fun _ => 0) 44)
    obtain ⟨pb, pbc, rfl, _, _⟩ := hi.slice
    rw [HL2.out] at D8 ⊢
    clear hi hb A7 B7 I7 S7 HPL2 R4 R5 R7
    go_wp2_with fail
    go_loopw [12] (fun tv wr => ∃ t : Nat, t ≤ 44 ∧ tv = .int .i64 t ∧ Hid (Below w8.heap.size w8 wr)) (fun tv _ => 44 - (intOf tv).toNat)
    case atStart => exact ⟨0, Nat.zero_le _, rfl, Below.refl _ _⟩
    case round =>
      obtain ⟨t, ht, rfl, HBR⟩ := hrel
      by_cases ht4 : t < 44
      · have dt : decide ((t : Int) < 44) = true := by simp; omega
        have ht0 : (0 : Int) ≤ t := by omega
        have htI : (t : Int) < 44 := by omega
        obtain ⟨g1, o1, rfl, c1⟩ := (A8.out.below HBR.out).at ht4
        obtain ⟨g2, o2, rfl, c2⟩ := (D8.out.below HBR.out).at ht4
        rw [ticks_at' _ _ _ _ ht4] at c1 c2
        rcases HAT.out t ht4 with ⟨z1, z2 | z2⟩ | ⟨k, z1, z2⟩
        · rw [z1] at c1
          rw [z2] at c2
          clear z1 z2
          go_wp2_with fail
          go_quiet (fail)
          go_wp2_with fail
          go_roundw
          case rel => exact ⟨t + 1, by omega, by go_num, below_drewN HBR.out _⟩
          case measure => simp [intOf]; omega
        · rw [z1] at c1
          rw [z2] at c2
          have dm : decide ((0 : Int) ≤ (m : Int)) = true := by simp
          have dn : ((m : Int) != (m : Int)) = false := by simp
          clear z1 z2
          go_wp2_with fail
          go_quiet (fail)
          go_wp2_with fail
          go_roundw
          case rel => exact ⟨t + 1, by omega, by go_num, below_drewN HBR.out _⟩
          case measure => simp [intOf]; omega
        · rw [z1] at c1
          rw [z2] at c2
          have dm : decide ((0 : Int) ≤ (k : Int)) = true := by simp
          have dn : ((k : Int) != (k : Int)) = false := by simp
          have dl : decide ((k : Int) < 0) = false := decide_eq_false (by omega)
          clear z1 z2
          go_wp2_with fail
          go_quiet (fail)
          go_wp2_with fail
          go_roundw
          case rel => exact ⟨t + 1, by omega, by go_num, below_drewN HBR.out _⟩
          case measure => simp [intOf]; omega
      · have dt : decide ((t : Int) < 44) = false := by simp; omega
        have HB9 := Lib.hid (chnB B8.out HBR.out)
        go_wp2_with fail
        refine (works_any _).mono ?_
        rintro E w9 ⟨rfl, hb⟩
        have HBZ := Lib.hid (chnB HB9.out hb)
        clear hb
        go_wp2_with fail
        go_ret
        exact ⟨rfl, HBZ.out⟩
end Go.Proofs.Ytfjeoefnpcgnnaa.Pw
