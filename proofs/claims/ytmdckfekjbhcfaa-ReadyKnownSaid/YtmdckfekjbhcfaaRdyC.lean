/- The document's queue: Jobs, Late, First. -/
import Derived.Test.YtmdckfekjbhcfaaRdyB
namespace Go.Proofs.Ytmdckfekjbhcfaa
open Go.RowKit Rk Rd Go.Sort
set_option linter.unusedVariables false

/-- numbers are answered, in a row of their own -/
def NumsP (w : World) (xs : List Int) (e : Ending) (w' : World) : Prop := ∃ r, e = .returned r ∧ NR w' w.heap.size r xs ∧ Below w.heap.size w w'
/-- the first j of them -/
theorem IS.take {w : World} {a : Option Addr} {n cap j : Nat} {xs : List Int} (h : IS w (.slice a n cap) xs) (hj : j ≤ xs.length) : IS w (.slice a j cap) (xs.take j) := by
  obtain ⟨a', cap', e, h1, h2, h3, h4⟩ := h
  obtain ⟨rfl, rfl, rfl⟩ : a = a' ∧ n = xs.length ∧ cap = cap' := by simpa using e
  have hl : (xs.take j).length = j := by rw [List.length_take]; omega
  refine ⟨a, cap, by rw [hl], by omega, h2, h3, fun h0 => ?_⟩
  rw [hl] at h0 ⊢
  obtain ⟨b, off, rfl, hc⟩ := h4 (by omega)
  refine ⟨b, off, rfl, fun i hi => (hc i (by omega)).trans ?_⟩
  rw [List.getD_eq_getElem?_getD, List.getD_eq_getElem?_getD, List.getElem?_take, if_pos hi]
/-- those from the j-th on -/
theorem IS.drop {w : World} {b off n cap j : Nat} {xs : List Int} (h : IS w (.slice (some ⟨b, off, none⟩) n cap) xs) (hj : j ≤ xs.length) : IS w (.slice (some ⟨b, off + j, none⟩) (n - j) (cap - j)) (xs.drop j) := by
  obtain ⟨a', cap', e, h1, h2, h3, h4⟩ := h
  obtain ⟨rfl, rfl, rfl⟩ : some (⟨b, off, none⟩ : Addr) = a' ∧ n = xs.length ∧ cap = cap' := by simpa using e
  have hl : (xs.drop j).length = xs.length - j := List.length_drop
  refine ⟨_, cap - j, by rw [hl], by omega, by omega, (fun e => by cases e), fun h0 => ?_⟩
  rw [hl] at h0
  obtain ⟨b', off', e', hc⟩ := h4 (by omega)
  injection e' with e'
  injection e' with e1 e2 _
  subst e1; subst e2
  refine ⟨_, _, rfl, fun i hi => ?_⟩
  rw [hl] at hi
  rw [Nat.add_assoc]
  refine (hc (j + i) (by omega)).trans ?_
  rw [List.getD_eq_getElem?_getD, List.getD_eq_getElem?_getD, List.getElem?_drop]
theorem IS.drop0 {w : World} {b n cap j : Nat} {xs : List Int} (h : IS w (.slice (some ⟨b, 0, none⟩) n cap) xs) (hj : j ≤ xs.length) : IS w (.slice (some ⟨b, j, none⟩) (n - j) (cap - j)) (xs.drop j) := by
  have := h.drop hj
  rwa [Nat.zero_add] at this
theorem NR.at {w : World} {C n cap : Nat} {a : Option Addr} {xs : List Int} (h : NR w C (.slice a n cap) xs) {j : Nat} (hj : j < xs.length) : ∃ g, a = some ⟨g, 0, none⟩ ∧ w.cell? ⟨g, j, none⟩ = some (.int .i64 (xs.getD j 0)) := by
  rcases h.2 with ⟨_, q⟩ | ⟨g, cap', cur, e, _⟩
  · omega
  · injection e with e1 e2 e3
    subst e1; subst e2; subst e3
    refine ⟨g, rfl, ?_⟩
    rw [World.ownsRow.cellAt h j (by omega)]
    exact nums_at xs j hj
theorem NR.cap0 {w : World} {C n cap : Nat} {xs : List Int} (h : NR w C (.slice none n cap) xs) : cap = 0 := by
  rcases h.2 with ⟨e, _⟩ | ⟨g, cap', cur, e, _⟩
  · simp at e; exact e.2
  · simp at e
theorem NR.off0 {w : World} {C n cap b o : Nat} {s : Option Nat} {xs : List Int} (h : NR w C (.slice (some ⟨b, o, s⟩) n cap) xs) : o = 0 ∧ s = Option.none := by
  rcases h.2 with ⟨e, _⟩ | ⟨g, cap', cur, e, _⟩
  · simp at e
  · simp at e; exact ⟨e.1.2.1, e.1.2.2⟩
/-- of nothing nothing -/
theorem IS.none {w : World} (a : Option Addr) (cap : Nat) (hc : cap ≤ maxLen) (h : a = Option.none → cap = 0) : IS w (.slice a 0 cap) [] := ⟨a, cap, rfl, Nat.zero_le _, hc, h, fun h => by cases h⟩
theorem jobs_rng (L : List Int) (k : Nat) : ∀ x ∈ jobs L k, 0 ≤ x.1 ∧ x.1 < k ∧ x.2 = L.getD x.1.toNat (-1) := by
  induction k with
  | zero => intro x hx; cases hx
  | succ k ih =>
    intro x hx
    unfold jobs at hx
    split at hx
    · rcases (mem_ins _ _ _).1 hx with e | hx
      · subst e; exact ⟨by simp, by simp; omega, by simp⟩
      · obtain ⟨h1, h2, h3⟩ := ih x hx; exact ⟨h1, by omega, h3⟩
    · obtain ⟨h1, h2, h3⟩ := ih x hx; exact ⟨h1, by omega, h3⟩
theorem jobs_at {L : List Int} {k j : Nat} (hj : j < (jobs L k).length) : ∃ q : Nat, q < k ∧ ((jobs L k).getD j (0, 0)) = ((q : Int), L.getD q (-1)) := by
  obtain ⟨h1, h2, h3⟩ := jobs_rng L k _ (Rd.getD_mem hj)
  refine ⟨((jobs L k).getD j (0, 0)).1.toNat, by omega, ?_⟩
  rw [← h3]
  exact Prod.ext (Int.toNat_of_nonneg h1).symm rfl
/-- where a job belongs: behind those whose deadline is at most its own -/
theorem jobs_ins {L : List Int} {k j : Nat} (h : 0 ≤ L.getD k (-1)) (hj : j ≤ (jobs L k).length) (h1 : ∀ i, i < j → ((jobs L k).getD i (0, 0)).2 ≤ L.getD k (-1)) (h2 : j < (jobs L k).length → L.getD k (-1) < ((jobs L k).getD j (0, 0)).2) :
    ids (jobs L (k + 1)) = (ids (jobs L k)).take j ++ [(k : Int)] ++ (ids (jobs L k)).drop j := by
  have e : jobs L (k + 1) = ins ((k : Int), L.getD k (-1)) (jobs L k) := by conv => lhs; unfold jobs
                                                                            exact if_pos h
  rw [e, ins_at hj (fun i hi => ?_) (fun hl => ?_)]
  · unfold ids
    rw [List.map_append, List.map_cons, List.map_take, List.map_drop, List.append_assoc]
    rfl
  · obtain ⟨q, hq, eq⟩ := jobs_at (L := L) (k := k) (j := i) (by omega)
    have := h1 i hi
    rw [eq] at this ⊢
    unfold lt
    simp only at this ⊢
    omega
  · have := h2 hl
    unfold lt
    simp only
    omega
theorem jobs_no {L : List Int} {k : Nat} (h : ¬ 0 ≤ L.getD k (-1)) : jobs L (k + 1) = jobs L k := by
  conv => lhs; unfold jobs
  exact if_neg h

set_option maxRecDepth 100000 in
set_option maxHeartbeats 8000000 in
theorem rjobs_any {w : World} {mb C : Nat} {L : List Int} {lv : Value} (h : DQ w mb C L lv) (ok : Gd L) : Calls Try.prog 27 #[.pointer (some ⟨mb, 0, none⟩)] w (NumsP w (ids (srt L))) := by
  obtain ⟨a, cap, rfl⟩ := h.form
  have H := Lib.hid h
  have OK := Lib.hid ok
  have hlen := ok.len
  obtain ⟨m, hm⟩ : ∃ m, m = L.length := ⟨_, rfl⟩
  have HM := Lib.hid hm
  rw [← hm] at hlen H
  clear h hm ok
  go_enter Try.func27, Try.ntmps27
  go_wp2_with fail
  go_loopw [3, 4] (fun o i wr => ∃ k : Nat, k ≤ m ∧ i = .int .i64 k ∧ Hid (NR wr w.heap.size o (ids (jobs L k))) ∧ Hid (Below w.heap.size w wr)) (fun _ i _ => m - (intOf i).toNat)
  case atStart => exact ⟨0, Nat.zero_le _, rfl, NR.nil _ _, Below.refl _ _⟩
  case round =>
    rename_i o _
    obtain ⟨k, hk, rfl, HO, HB⟩ := hrel
    have HD := Lib.hid (H.out.below HB.out)
    have c0 := HD.out.c0
    by_cases hkm : k < m
    · obtain ⟨g, rfl, c1, -, -, hc1, hc2⟩ := HD.out.at (show k < L.length by rw [← HM.out]; exact hkm)
      have HH := Lib.hid (has_any HD.out OK.out k)
      rw [dl_nat] at HH
      have hki : (k : Int) < (m : Int) := by omega
      have hk0 : (0 : Int) ≤ k := by omega
      have hm9 : cap ≤ 9223372036854775807 := by unfold maxLen at hc2; omega
      clear hc2
      by_cases hx : 0 ≤ L.getD k (-1)
      · rw [decide_eq_true hx] at HH
        have HX := Lib.hid hx
        obtain ⟨D, hD⟩ : ∃ D, D = L.getD k (-1) := ⟨_, rfl⟩
        have HDD := Lib.hid hD
        rw [← hD] at c1
        obtain ⟨ws, rfl⟩ : ∃ ws, ws = wr := ⟨_, rfl⟩
        obtain ⟨N, hN⟩ : ∃ N, N = (jobs L k).length := ⟨_, rfl⟩
        have hNk : N ≤ 4 := by have := jobs_len L k; omega
        have HNN := Lib.hid hN
        obtain ⟨oa, oc, rfl⟩ := HO.out.is_form
        have eN : (ids (jobs L k)).length = N := by rw [ids_len, ← hN]
        rw [eN] at HO ⊢
        obtain ⟨_, _, eS, hoc1, hoc2⟩ := HO.out.is.slice
        rw [eN] at eS hoc1
        injection eS with eS1 _ eS2
        subst eS1; subst eS2
        have hm8 : oc ≤ 9223372036854775807 := by unfold maxLen at hoc2; omega
        have HEN := Lib.hid eN
        clear hx hD eN hN
        go_wp2_with fail
        refine HH.out.mono ?_
        rintro e w1 ⟨rfl, rfl⟩
        clear HH
        go_wp2_with fail
        go_loopw [5] (fun x wi => ∃ j : Nat, j ≤ N ∧ x = .int .i64 j ∧ Hid (∀ i, i < j → ((jobs L k).getD i (0, 0)).2 ≤ L.getD k (-1)) ∧ Hid (NR wi w.heap.size (.slice oa N oc) (ids (jobs L k))) ∧ Hid (Below w.heap.size w wi)) (fun x _ => N - (intOf x).toNat)
        case atStart => exact ⟨0, Nat.zero_le _, rfl, (fun i hi => by omega), HO.out, HB.out⟩
        case round =>
          clear HO HB HD c0 c1
          obtain ⟨j, hj, rfl, HL, HO, HB⟩ := hrel
          have HD := Lib.hid (H.out.below HB.out)
          have c0 := HD.out.c0
          obtain ⟨_, eg, c1, -, -, -, -⟩ := HD.out.at (show k < L.length by rw [← HM.out]; exact hkm)
          injection eg with eg
          injection eg with eg _ _
          subst eg
          rw [← HDD.out] at c1
          by_cases hjN : j < N
          · obtain ⟨b, rfl, d1⟩ := HO.out.at (j := j) (by rw [HEN.out]; exact hjN)
            obtain ⟨q, hq, eq⟩ := jobs_at (L := L) (k := k) (j := j) (by rw [← HNN.out]; exact hjN)
            rw [ids_getD, eq] at d1
            dsimp only at d1
            obtain ⟨_, eg, d2, -, -, -, -⟩ := HD.out.at (show q < L.length by rw [← HM.out]; omega)
            injection eg with eg
            injection eg with eg _ _
            subst eg
            have HEQ := Lib.hid eq
            have hjI : (j : Int) < (N : Int) := by omega
            have hj0 : (0 : Int) ≤ j := by omega
            have hqm : (q : Int) < (m : Int) := by omega
            have hq0 : (0 : Int) ≤ q := by omega
            obtain ⟨X, hX⟩ : ∃ X, X = L.getD q (-1) := ⟨_, rfl⟩
            have HXX := Lib.hid hX
            rw [← hX] at d2
            clear eq hX
            by_cases hle : X ≤ D
            · have hd : decide (X ≤ D) = true := by simpa using hle
              have HL2 : Hid (∀ i, i < j + 1 → ((jobs L k).getD i (0, 0)).2 ≤ L.getD k (-1)) := fun i hi => by
                by_cases e : i = j
                · subst e; rw [HEQ.out, ← HDD.out]; simp only; rw [← HXX.out]; exact hle
                · exact HL.out i (by omega)
              go_wp2_with fail
              go_quiet (fail)
              go_wp2_with fail
              go_roundw
              case rel => exact ⟨j + 1, by omega, by go_num, HL2.out, HO.out, below_drewN HB.out _⟩
              case measure => simp [intOf]; omega
            · have hd : decide (X ≤ D) = false := by simpa using hle
              have HG : Hid (j < (jobs L k).length → L.getD k (-1) < ((jobs L k).getD j (0, 0)).2) := fun _ => by rw [HEQ.out, ← HDD.out]; simp only; rw [← HXX.out]; omega
              have hjc : j < oc := by omega
              have hjc2 : (j : Int) ≤ (oc : Int) := by omega
              have hjN2 : (j : Int) ≤ (N : Int) := by omega
              have hcc : ¬ oc = j := by omega
              have HJI := Lib.hid (jobs_ins (L := L) (k := k) (j := j) HX.out (by rw [← HNN.out]; exact hj) HL.out HG.out)
              have hlT : ((ids (jobs L k)).take j).length = j := by rw [List.length_take, HEN.out]; omega
              have hlD : ((ids (jobs L k)).drop j).length = N - j := by rw [List.length_drop, HEN.out]
              go_wp2_with fail
              go_quiet (fail)
              rename_i nq _
              have HOq : Hid (NR (wr.drewN nq) w.heap.size (.slice (some ⟨b, 0, none⟩) N oc) (ids (jobs L k))) := HO.out
              have HBq : Hid (Below w.heap.size w (wr.drewN nq)) := below_drewN HB.out nq
              clear HO HB HD c0 c1 HL HG d1 d2 hd hle
              generalize wr.drewN nq = wd at *
              have IO := Lib.hid (IS.take (j := j) HOq.out.is (by rw [HEN.out]; exact hj))
              obtain ⟨v1, w1, run1, nr1, b1⟩ := app_nums (w := wd) (C := wd.heap.size) (NR.nil wd _) IO.out (Nat.le_refl _) (by rw [hlT]; simp; omega) 36
              rw [List.nil_append] at nr1
              have HR1 := Lib.hid run1
              have hbx : Below wd.heap.size wd (w1.alloc (.cells #[.int .i64 k] 3)) := b1.alloc b1.size _
              obtain ⟨v2, w2, run2, nr2, b2⟩ := app_num (w := w1.alloc (.cells #[.int .i64 k] 3)) (World.ownsRow.alloc nr1 _) k (g := w1.heap.size) (heap_alloc_new w1 _) hbx.size (by rw [hlT]; omega) 36
              have HR2 := Lib.hid run2
              have hb2 := hbx.trans b2
              have IO2 : Hid (IS w2 (.slice (some ⟨b, 0, none⟩) N oc) (ids (jobs L k))) := HOq.out.is.below hb2
              have ID : IS w2 (.slice (some ⟨b, j, none⟩) (N - j) (oc - j)) ((ids (jobs L k)).drop j) := IO2.out.drop0 (by rw [HEN.out]; exact hj)
              obtain ⟨v3, w3, run3, nr3, b3⟩ := app_nums (w := w2) nr2 ID hb2.size (by rw [List.length_append, hlT, hlD]; simp; omega) 36
              have HR3 := Lib.hid run3
              have HN3 : Hid (NR w3 w.heap.size v3 (ids (jobs L (k + 1)))) := by
                unfold Hid
                rw [HJI.out]
                exact own_base nr3 HBq.out.size
              have HB3 : Hid (Below w.heap.size w w3) := HBq.out.trans ((hb2.trans b3).mono HBq.out.size)
              clear run1 nr1 b1 hbx run2 nr2 b2 hb2 run3 nr3 b3 ID hlT hlD HJI HOq HBq IO IO2
              go_wp2_with (first
                | (at_builtin; refine wpList_append_eq rfl (.tmp 46) (.tmp 49) 36 36 rfl _ _ _ _ rfl rfl HR1.out ?_)
                | (at_builtin; refine wpList_append_eq rfl (.tmp 51) (.tmp 53) 36 36 rfl _ _ _ _ rfl rfl HR2.out ?_)
                | (at_builtin; refine wpList_append_eq rfl (.tmp 55) (.tmp 58) 36 36 rfl _ _ _ _ rfl rfl HR3.out ?_))
              go_roundw
              case rel => exact ⟨k + 1, by omega, by go_num, HN3.out, HB3.out⟩
              case measure => simp [intOf]; omega
          · have hd : decide ((j : Int) < (N : Int)) = false := by simp; omega
            have HG : Hid (j < (jobs L k).length → L.getD k (-1) < ((jobs L k).getD j (0, 0)).2) := fun hh => by rw [← HNN.out] at hh; omega
            have hj0 : (0 : Int) ≤ j := by omega
            have hjN2 : (j : Int) ≤ (N : Int) := by omega
            have hjc2 : (j : Int) ≤ (oc : Int) := by omega
            have hjc : j ≤ oc := by omega
            rcases oa with _ | ⟨b, o, s⟩
            · obtain rfl : oc = 0 := HO.out.cap0
              have HJI := Lib.hid (jobs_ins (L := L) (k := k) (j := j) HX.out (by rw [← HNN.out]; exact hj) HL.out HG.out)
              have hlT : ((ids (jobs L k)).take j).length = j := by rw [List.length_take, HEN.out]; omega
              have hlD : ((ids (jobs L k)).drop j).length = N - j := by rw [List.length_drop, HEN.out]
              go_wp2_with fail
              go_quiet (fail)
              rename_i nq _
              have HOq : Hid (NR (wr.drewN nq) w.heap.size (.slice none N 0) (ids (jobs L k))) := HO.out
              have HBq : Hid (Below w.heap.size w (wr.drewN nq)) := below_drewN HB.out nq
              clear HO HB HD c0 c1 HL HG hd
              generalize wr.drewN nq = wd at *
              have hnil : (ids (jobs L k)).take j = [] := List.eq_nil_of_length_eq_zero (by rw [hlT]; omega)
              have IO : Hid (IS wd (.slice none 0 0) ((ids (jobs L k)).take j)) := by unfold Hid; rw [hnil]; exact IS.none _ 0 (Nat.zero_le _) (fun _ => rfl)
              obtain ⟨v1, w1, run1, nr1, b1⟩ := app_nums (w := wd) (C := wd.heap.size) (NR.nil wd _) IO.out (Nat.le_refl _) (by rw [hlT]; simp; omega) 36
              rw [List.nil_append] at nr1
              have HR1 := Lib.hid run1
              have hbx : Below wd.heap.size wd (w1.alloc (.cells #[.int .i64 k] 3)) := b1.alloc b1.size _
              obtain ⟨v2, w2, run2, nr2, b2⟩ := app_num (w := w1.alloc (.cells #[.int .i64 k] 3)) (World.ownsRow.alloc nr1 _) k (g := w1.heap.size) (heap_alloc_new w1 _) hbx.size (by rw [hlT]; omega) 36
              have HR2 := Lib.hid run2
              have hb2 := hbx.trans b2
              have IO2 : Hid (IS w2 (.slice none N 0) (ids (jobs L k))) := HOq.out.is.below hb2
              have ID : IS w2 (.slice none (N - j) 0) ((ids (jobs L k)).drop j) := by
                have e0 : N - j = 0 := by omega
                rw [List.eq_nil_of_length_eq_zero (hlD.trans e0), e0]
                exact IS.none _ 0 (Nat.zero_le _) (fun _ => rfl)
              obtain ⟨v3, w3, run3, nr3, b3⟩ := app_nums (w := w2) nr2 ID hb2.size (by rw [List.length_append, hlT, hlD]; simp; omega) 36
              have HR3 := Lib.hid run3
              have HN3 : Hid (NR w3 w.heap.size v3 (ids (jobs L (k + 1)))) := by
                unfold Hid
                rw [HJI.out]
                exact own_base nr3 HBq.out.size
              have HB3 : Hid (Below w.heap.size w w3) := HBq.out.trans ((hb2.trans b3).mono HBq.out.size)
              clear run1 nr1 b1 hbx run2 nr2 b2 hb2 run3 nr3 b3 ID hlT hlD HJI HOq HBq IO IO2
              go_wp2_with (first
                | (at_builtin; refine wpList_append_eq rfl (.tmp 46) (.tmp 49) 36 36 rfl _ _ _ _ rfl rfl HR1.out ?_)
                | (at_builtin; refine wpList_append_eq rfl (.tmp 51) (.tmp 53) 36 36 rfl _ _ _ _ rfl rfl HR2.out ?_)
                | (at_builtin; refine wpList_append_eq rfl (.tmp 55) (.tmp 58) 36 36 rfl _ _ _ _ rfl rfl HR3.out ?_))
              go_roundw
              case rel => exact ⟨k + 1, by omega, by go_num, HN3.out, HB3.out⟩
              case measure => simp [intOf]; omega
            · obtain ⟨rfl, rfl⟩ : o = 0 ∧ s = none := HO.out.off0
              by_cases hcc : oc = j
              · have HJI := Lib.hid (jobs_ins (L := L) (k := k) (j := j) HX.out (by rw [← HNN.out]; exact hj) HL.out HG.out)
                have hlT : ((ids (jobs L k)).take j).length = j := by rw [List.length_take, HEN.out]; omega
                have hlD : ((ids (jobs L k)).drop j).length = N - j := by rw [List.length_drop, HEN.out]
                go_wp2_with fail
                go_quiet (fail)
                rename_i nq _
                have HOq : Hid (NR (wr.drewN nq) w.heap.size (.slice (some ⟨b, 0, none⟩) N oc) (ids (jobs L k))) := HO.out
                have HBq : Hid (Below w.heap.size w (wr.drewN nq)) := below_drewN HB.out nq
                clear HO HB HD c0 c1 HL HG hd
                generalize wr.drewN nq = wd at *
                have IO := Lib.hid (IS.take (j := j) HOq.out.is (by rw [HEN.out]; exact hj))
                obtain ⟨v1, w1, run1, nr1, b1⟩ := app_nums (w := wd) (C := wd.heap.size) (NR.nil wd _) IO.out (Nat.le_refl _) (by rw [hlT]; simp; omega) 36
                rw [List.nil_append] at nr1
                have HR1 := Lib.hid run1
                have hbx : Below wd.heap.size wd (w1.alloc (.cells #[.int .i64 k] 3)) := b1.alloc b1.size _
                obtain ⟨v2, w2, run2, nr2, b2⟩ := app_num (w := w1.alloc (.cells #[.int .i64 k] 3)) (World.ownsRow.alloc nr1 _) k (g := w1.heap.size) (heap_alloc_new w1 _) hbx.size (by rw [hlT]; omega) 36
                have HR2 := Lib.hid run2
                have hb2 := hbx.trans b2
                have IO2 : Hid (IS w2 (.slice (some ⟨b, 0, none⟩) N oc) (ids (jobs L k))) := HOq.out.is.below hb2
                have ID : IS w2 (.slice (some ⟨b, 0, none⟩) (N - j) 0) ((ids (jobs L k)).drop j) := by
                  have e0 : N - j = 0 := by omega
                  rw [List.eq_nil_of_length_eq_zero (hlD.trans e0), e0]
                  exact IS.none _ 0 (Nat.zero_le _) (fun _ => rfl)
                obtain ⟨v3, w3, run3, nr3, b3⟩ := app_nums (w := w2) nr2 ID hb2.size (by rw [List.length_append, hlT, hlD]; simp; omega) 36
                have HR3 := Lib.hid run3
                have HN3 : Hid (NR w3 w.heap.size v3 (ids (jobs L (k + 1)))) := by
                  unfold Hid
                  rw [HJI.out]
                  exact own_base nr3 HBq.out.size
                have HB3 : Hid (Below w.heap.size w w3) := HBq.out.trans ((hb2.trans b3).mono HBq.out.size)
                clear run1 nr1 b1 hbx run2 nr2 b2 hb2 run3 nr3 b3 ID hlT hlD HJI HOq HBq IO IO2
                go_wp2_with (first
                  | (at_builtin; refine wpList_append_eq rfl (.tmp 46) (.tmp 49) 36 36 rfl _ _ _ _ rfl rfl HR1.out ?_)
                  | (at_builtin; refine wpList_append_eq rfl (.tmp 51) (.tmp 53) 36 36 rfl _ _ _ _ rfl rfl HR2.out ?_)
                  | (at_builtin; refine wpList_append_eq rfl (.tmp 55) (.tmp 58) 36 36 rfl _ _ _ _ rfl rfl HR3.out ?_))
                go_roundw
                case rel => exact ⟨k + 1, by omega, by go_num, HN3.out, HB3.out⟩
                case measure => simp [intOf]; omega
              · have HJI := Lib.hid (jobs_ins (L := L) (k := k) (j := j) HX.out (by rw [← HNN.out]; exact hj) HL.out HG.out)
                have hlT : ((ids (jobs L k)).take j).length = j := by rw [List.length_take, HEN.out]; omega
                have hlD : ((ids (jobs L k)).drop j).length = N - j := by rw [List.length_drop, HEN.out]
                go_wp2_with fail
                go_quiet (fail)
                rename_i nq _
                have HOq : Hid (NR (wr.drewN nq) w.heap.size (.slice (some ⟨b, 0, none⟩) N oc) (ids (jobs L k))) := HO.out
                have HBq : Hid (Below w.heap.size w (wr.drewN nq)) := below_drewN HB.out nq
                clear HO HB HD c0 c1 HL HG hd
                generalize wr.drewN nq = wd at *
                have IO := Lib.hid (IS.take (j := j) HOq.out.is (by rw [HEN.out]; exact hj))
                obtain ⟨v1, w1, run1, nr1, b1⟩ := app_nums (w := wd) (C := wd.heap.size) (NR.nil wd _) IO.out (Nat.le_refl _) (by rw [hlT]; simp; omega) 36
                rw [List.nil_append] at nr1
                have HR1 := Lib.hid run1
                have hbx : Below wd.heap.size wd (w1.alloc (.cells #[.int .i64 k] 3)) := b1.alloc b1.size _
                obtain ⟨v2, w2, run2, nr2, b2⟩ := app_num (w := w1.alloc (.cells #[.int .i64 k] 3)) (World.ownsRow.alloc nr1 _) k (g := w1.heap.size) (heap_alloc_new w1 _) hbx.size (by rw [hlT]; omega) 36
                have HR2 := Lib.hid run2
                have hb2 := hbx.trans b2
                have IO2 : Hid (IS w2 (.slice (some ⟨b, 0, none⟩) N oc) (ids (jobs L k))) := HOq.out.is.below hb2
                have ID : IS w2 (.slice (some ⟨b, j, none⟩) (N - j) (oc - j)) ((ids (jobs L k)).drop j) := IO2.out.drop0 (by rw [HEN.out]; exact hj)
                obtain ⟨v3, w3, run3, nr3, b3⟩ := app_nums (w := w2) nr2 ID hb2.size (by rw [List.length_append, hlT, hlD]; simp; omega) 36
                have HR3 := Lib.hid run3
                have HN3 : Hid (NR w3 w.heap.size v3 (ids (jobs L (k + 1)))) := by
                  unfold Hid
                  rw [HJI.out]
                  exact own_base nr3 HBq.out.size
                have HB3 : Hid (Below w.heap.size w w3) := HBq.out.trans ((hb2.trans b3).mono HBq.out.size)
                clear run1 nr1 b1 hbx run2 nr2 b2 hb2 run3 nr3 b3 ID hlT hlD HJI HOq HBq IO IO2
                go_wp2_with (first
                  | (at_builtin; refine wpList_append_eq rfl (.tmp 46) (.tmp 49) 36 36 rfl _ _ _ _ rfl rfl HR1.out ?_)
                  | (at_builtin; refine wpList_append_eq rfl (.tmp 51) (.tmp 53) 36 36 rfl _ _ _ _ rfl rfl HR2.out ?_)
                  | (at_builtin; refine wpList_append_eq rfl (.tmp 55) (.tmp 58) 36 36 rfl _ _ _ _ rfl rfl HR3.out ?_))
                go_roundw
                case rel => exact ⟨k + 1, by omega, by go_num, HN3.out, HB3.out⟩
                case measure => simp [intOf]; omega
      · rw [decide_eq_false hx] at HH
        have HE := Lib.hid (jobs_no hx)
        clear c1 hx
        go_wp2_with fail
        refine HH.out.mono ?_
        rintro e w1 ⟨rfl, rfl⟩
        clear HH
        go_wp2_with fail
        go_roundw
        case rel => exact ⟨k + 1, by omega, by go_num, by rw [HE.out]; exact HO.out, HB.out⟩
        case measure => simp [intOf]; omega
    · obtain rfl : k = m := by omega
      have HE : Hid (ids (jobs L k) = ids (srt L)) := by unfold Hid srt; rw [← HM.out]
      go_wp2_with fail
      go_ret
      exact ⟨_, rfl, by rw [← HE.out]; exact HO.out, HB.out⟩
end Go.Proofs.Ytmdckfekjbhcfaa
