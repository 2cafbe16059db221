/- The document's Parse. -/
import Derived.Test.YthbhkcofhhkcoaaConfX
import Derived.Test.YthbhkcofhhkcoaaConfF
import Derived.Test.YthbhkcofhhkcoaaConfT
namespace Go.Proofs.Ythbhkcofhhkcoaa
open Go.RowKit Pk Cn
set_option linter.unusedVariables false

theorem PW.only {S : Nat → Prop} {w w' : World} {B : Nat} {v : Value} {ps : List Pt} (h : PW w B v ps) (o : Only S w w') (hS : ∀ k, S k → k < B) : PW w' B v ps := by
  obtain ⟨l, h1, h2, h3⟩ := h
  exact ⟨l, h1, own_only h2 o hS, fun q hq => own_only (h3 q hq) o hS⟩
theorem manyO_none {s : St} {k : Nat} (j : Nat) (h : manyO s k = none) : manyO s (k + j) = none := by
  induction j with
  | zero => exact h
  | succ j ih => rw [← Nat.add_assoc, manyO, ih]
theorem own_low {w : World} {B C e size n : Nat} {v : Value} {xs : List Value} (h : w.ownsRow B e size v n xs) (hC : C ≤ B) : w.ownsRow C e size v n xs := by
  refine ⟨h.1, ?_⟩
  rcases h.2 with hn | ⟨g, cap, cur, rfl, hb, rest⟩
  · exact Or.inl hn
  · exact Or.inr ⟨g, cap, cur, rfl, Nat.le_trans hC hb, rest⟩
theorem manyO_length {s : St} {k : Nat} {r : List Pt × St} (h : manyO s k = some r) : r.1.length = k := by
  induction k generalizing r with
  | zero => obtain rfl := Option.some.inj h; rfl
  | succ k ih =>
    rw [manyO] at h
    cases hm : manyO s k with
    | none => rw [hm] at h; cases h
    | some q =>
      rw [hm] at h
      dsimp only at h
      cases hp : refPt q.2 with
      | none => rw [hp] at h; cases h
      | some x =>
        rw [hp] at h
        obtain rfl := Option.some.inj h
        simp [ih hm]
theorem PW.drew {w : World} {B : Nat} {v : Value} {ps : List Pt} (h : PW w B v ps) : PW w.drew B v ps := h
theorem PW.grow {w w' : World} {B C n m : Nat} {v u : Value} {ps : List Pt} {xs : List Value} (h : PW w B v ps) (k : w.ownsRow C 32 m u n xs) (hg : w.grownBy w' u.ownBlock) : PW w' B v ps := by
  obtain ⟨l, h1, h2, h3⟩ := h
  exact ⟨l, h1, World.ownsRow.kept h2 hg (own_two h2 k (by decide)), fun q hq => World.ownsRow.kept (h3 q hq) hg (own_two (h3 q hq) k (by decide))⟩
/-- what the document's Parse answers -/
def RPrsP (xs : List Int) (w : World) (e : Ending) (w' : World) : Prop := ∃ v', e = .returned (.tuple #[v', .int .i64 (refP xs).2]) ∧ CF w' w.heap.size v' (refP xs).1 ∧ Below w.heap.size w w'
/-- the zero configuration and an error -/
theorem rprs_no {xs : List Int} {w w' w'' : World} {r : Nat} {E : Int} (hP : refP xs = (c0, E)) (hb : Below w.heap.size w w') (hr : w.heap.size ≤ r) (eo : Only (fun b => b = r) w' w'') : RPrsP xs w (.returned (.tuple #[.agg #[.slice none 0 0, .slice none 0 0], .int .i64 E])) w'' :=
  ⟨_, by rw [hP], by rw [hP]; exact CF.zero _ _, hb.trans (eo.below hb.size (fun k _ hk => by omega))⟩

set_option maxRecDepth 100000 in
set_option maxHeartbeats 8000000 in
theorem rparse_any {w : World} {v : Value} {xs : List Int} (hv : BS w v xs) (hb : Bys xs) (hl : xs.length ≤ 140737488351232) : Calls Try.prog 22 #[v] w (RPrsP xs w) := by
  obtain ⟨i0, hi, hz0, hz1, hz2⟩ := info_parts infoPt
  obtain ⟨j0, hj, hy0, hy1, hy2⟩ := info_parts infoPo
  have HINF := Lib.hid (⟨hj, hy0, hy1, hy2⟩ : _ ∧ _ ∧ _ ∧ _)
  clear hj hy0 hy1 hy2
  have hA := (Below.refl w.heap.size w).alloc (Nat.le_refl _) (.cells #[.slice none 0 0, .slice none 0 0] 25)
  have HRD := Lib.hid (rread_any (hv.below hA) hb hl)
  have HA := Lib.hid hA
  have HR0 := Lib.hid (heap_alloc_new w (.cells #[.slice none 0 0, .slice none 0 0] 25))
  have HW0 : Hid ((w.alloc (.cells #[.slice none 0 0, .slice none 0 0] 25)).heap.size = w.heap.size + 1) := by unfold Hid; simp
  obtain ⟨a, cap, rfl, _⟩ := hv
  have h0n := rd_nonneg MX (xs, 0) hb
  have HBY1 : Hid (Bys (rd MX (xs, 0)).2.1) := (rd_good MX).bys (xs, 0) hb
  have HRC : Hid (refP xs = match refC (xs, 0) with | none => (c0, 50) | some r => if en r.2 ≠ 0 then (c0, en r.2) else if may r.1 then (r.1, 0) else (c0, 50)) := rfl
  have HRE : Hid (refC (xs, 0) = if (rd MX (xs, 0)).1 > 4 then none else match manyO (rd MX (xs, 0)).2 (rd MX (xs, 0)).1.toNat with
    | none => none
    | some r => if (rd MX r.2).1 > 8 then none else some (⟨r.1, (many rdPo (rd MX r.2).1.toNat (rd MX r.2).2).1⟩, (many rdPo (rd MX r.2).1.toNat (rd MX r.2).2).2)) := rfl
  clear hA hb
  go_enter Try.func22, Try.ntmps22
  go_wp2_with fail
  refine HRD.out.mono ?_
  rintro e w1 ⟨rb, rfl, hrb, hrr, hb1⟩
  rw [HW0.out] at hrb
  have hrl := hrr.lt
  have hA2 := (Below.refl w1.heap.size w1).alloc (Nat.le_refl _) (.cells #[.slice none 0 0, .slice none 0 0] 25)
  have HN := Lib.hid (rnum_any (hrr.below hA2))
  have hcb := heap_alloc_new w1 (.cells #[.slice none 0 0, .slice none 0 0] 25)
  have hrz := blk ((hb1.block w.heap.size (by rw [HW0.out]; omega)).trans HR0.out) hA2
  have hbw := (HA.out.trans (hb1.mono (by rw [HW0.out]; omega))).trans (hA2.mono (by have := hb1.size; rw [HW0.out] at this; omega))
  obtain ⟨cb, hcbe⟩ : ∃ cb, cb = w1.heap.size := ⟨_, rfl⟩
  obtain ⟨W, hW⟩ : ∃ W, W = w1.alloc (.cells #[.slice none 0 0, .slice none 0 0] 25) := ⟨_, rfl⟩
  have hWs : W.heap.size = cb + 1 := by rw [hW, hcbe]; simp
  rw [← hW] at HN hcb hrz hbw
  rw [← hcbe] at hcb
  have hrc : rb < cb := by omega
  have HWS := Lib.hid hWs; have HCB := Lib.hid hcb; have HRZ := Lib.hid hrz; have HBW := Lib.hid hbw
  clear hrr hb1 hA2 hcb hrz hbw HRD HR0 hWs hl
  obtain ⟨q1, hq1⟩ : ∃ q1, q1 = rd MX (xs, 0) := ⟨_, rfl⟩
  rw [← hq1] at HN HRE h0n HBY1
  clear hq1
  obtain ⟨n', s1⟩ := q1
  dsimp only at HN HRE h0n HBY1
  obtain ⟨n, rfl⟩ := Int.eq_ofNat_of_zero_le h0n
  rw [Int.toNat_natCast] at HRE
  go_wp2_with fail
  rw [← hW, ← hcbe]
  clear hW hcbe
  refine HN.out.mono ?_
  rintro e w2 ⟨rfl, hr2, hw2⟩
  have HRR2 := Lib.hid hr2
  have HOW2 : Hid (Only (fun b => b = rb ∨ b = cb) W w2) := hw2.mono fun j _ h => Or.inl h
  have hcb2 := (hw2.block cb (by rw [HWS.out]; omega) (by omega)).trans HCB.out
  have hrz2 := (hw2.block w.heap.size (by rw [HWS.out]; omega) (by omega)).trans HRZ.out
  have HCB2 := Lib.hid hcb2; have HRZ2 := Lib.hid hrz2
  clear hr2 hw2 HN h0n hcb2 hrz2 HCB HRZ
  cases h4 : decide ((n : Int) > 4) with
  | true =>
    have HP : Hid (refP xs = (c0, 50)) := by unfold Hid; rw [HRC.out, HRE.out, if_pos (of_decide_eq_true h4)]
    obtain ⟨y0, y1⟩ := pz2 HRZ2.out
    have f0 : w2.frozen? ⟨w.heap.size, 0, none⟩ = false := frozen_of_row _ _ 0 _ _ HRZ2.out
    have f1 : w2.frozen? ⟨w.heap.size, 1, none⟩ = false := frozen_of_row _ _ 1 _ _ HRZ2.out
    go_wp2_with fail
    clear y0 y1 f0 f1
    obtain ⟨e0, e1, eo⟩ := two_end (P := .slice none 0 0) (O := .slice none 0 0) HRZ2.out
    refine bodyPost_ret (v := .tuple #[.agg #[.slice none 0 0, .slice none 0 0], .int .i64 50]) (by simp [results, Try.results22, go_sem, e0, e1]) rfl ?_
    exact rprs_no HP.out (HBW.out.trans (HOW2.out.below (by rw [HWS.out]; omega) (fun b _ hb => by omega))) (Nat.le_refl _) eo
  | false =>
    have hn4 : n ≤ 4 := by have := of_decide_eq_false h4; omega
    have HRE2 : Hid (refC (xs, 0) = match manyO s1 n with
      | none => none
      | some r => if (rd MX r.2).1 > 8 then none else some (⟨r.1, (many rdPo (rd MX r.2).1.toNat (rd MX r.2).2).1⟩, (many rdPo (rd MX r.2).1.toNat (rd MX r.2).2).2)) := by
      unfold Hid; rw [HRE.out, if_neg (of_decide_eq_false h4)]
    have HM0 : Hid (manyO s1 0 = some ([], s1)) := rfl
    have HPW0 : Hid (PW w2 (cb + 1) (.slice none 0 0) []) := PW.nil _ _
    clear HRE h4
    go_wp2_with fail
    go_loopw [7] (fun i wr => ∃ (k : Nat) (sv : Value) (r : List Pt × St), k ≤ n ∧ i = .int .i64 k ∧ Hid (manyO s1 k = some r) ∧ Hid (PW wr (cb + 1) sv r.1) ∧ Hid (RR wr rb r.2.1 r.2.2) ∧ Hid (wr.heap[cb]? = some (.cells #[sv, .slice none 0 0] 25 (0, 0))) ∧
      Hid (wr.heap[w.heap.size]? = some (.cells #[.slice none 0 0, .slice none 0 0] 25 (0, 0))) ∧ Hid (Only (fun b => b = rb ∨ b = cb) W wr)) (fun i _ => n - (intOf i).toNat)
    case atStart => exact ⟨0, _, _, by omega, rfl, HM0, HPW0, HRR2, HCB2, HRZ2, HOW2⟩
    case round =>
      clear HM0 HPW0 HRR2 HCB2 HRZ2 HOW2
      obtain ⟨k, sv, r, hk, rfl, HMO, HPW, HRR, HCB, HRZ, HOW⟩ := hrel
      have hcl := (Array.getElem?_eq_some_iff.1 HCB.out).1
      have hzl := (Array.getElem?_eq_some_iff.1 HRZ.out).1
      by_cases hkn : k < n
      · have HP := Lib.hid (rpart_read HRR.out)
        have HML : Hid (r.1.length = k) := manyO_length HMO.out
        have HMS : Hid (manyO s1 (k + 1) = match refPt r.2 with | none => none | some x => some (r.1 ++ [x.1], x.2)) := by unfold Hid; rw [manyO, HMO.out]; rfl
        have he : refPt (r.2.1, r.2.2) = refPt r.2 := rfl
        rw [he] at HP
        obtain ⟨q, hq⟩ : ∃ q, q = refPt r.2 := ⟨_, rfl⟩
        rw [← hq] at HP HMS
        clear he hq
        have hsl := HOW.out.size
        rw [HWS.out] at hsl
        go_wp2_with fail
        refine HP.out.mono ?_
        rintro e w3 ⟨a, b, tv, rfl, hw3, ⟨ta, tn, tc, rfl⟩, hr3⟩
        have hA3 := (Below.refl w3.heap.size w3).alloc (Nat.le_refl _) (.cells #[.int .i64 a, .int .i64 b, .slice ta tn tc] 28)
        have hcb3 := blk ((hw3.block cb hcl (by omega)).trans HCB.out) hA3
        have hrz3 := blk ((hw3.block w.heap.size hzl (by omega)).trans HRZ.out) hA3
        have hs3 := hw3.size
        have hpb3 := heap_alloc_new w3 (.cells #[.int .i64 a, .int .i64 b, .slice ta tn tc] 28)
        have hpw3 : PW (w3.alloc (.cells #[.int .i64 a, .int .i64 b, .slice ta tn tc] 28)) (cb + 1) sv r.1 := (HPW.out.only hw3 (fun j hj => by omega)).old (World.grownBy_alloc w3 _ none)
        have how3 : Only (fun b => b = rb ∨ b = cb) W (w3.alloc (.cells #[.int .i64 a, .int .i64 b, .slice ta tn tc] 28)) := (HOW.out.trans (hw3.mono fun j _ h => Or.inl h)).grown (World.grownBy_alloc w3 _ none) (fun j hj => by cases hj)
        have HRR3 : Hid (∀ x, q = some x → RR (w3.alloc (.cells #[.int .i64 a, .int .i64 b, .slice ta tn tc] 28)) rb x.2.1 x.2.2) := fun x hx => (hr3 x hx).2.2.2.below hA3
        have HTW3 : Hid (∀ x, q = some x → a = x.1.per ∧ b = x.1.bud ∧ TW (w3.alloc (.cells #[.int .i64 a, .int .i64 b, .slice ta tn tc] 28)) (cb + 1) (.slice ta tn tc) x.1.ts) := fun x hx => ⟨(hr3 x hx).1, (hr3 x hx).2.1, own_low (World.ownsRow.alloc (hr3 x hx).2.2.1 _) (by omega)⟩
        obtain ⟨W3, hW3⟩ : ∃ W3, W3 = w3.alloc (.cells #[.int .i64 a, .int .i64 b, .slice ta tn tc] 28) := ⟨_, rfl⟩
        have HS3 : Hid (W3.heap.size = w3.heap.size + 1) := by unfold Hid; rw [hW3]; simp
        rw [← hW3] at hcb3 hrz3 hpb3 hpw3 how3 HRR3 HTW3
        have HCB3 := Lib.hid hcb3; have HRZ3 := Lib.hid hrz3; have HPB3 := Lib.hid hpb3; have HPW3 := Lib.hid hpw3; have HOW3 := Lib.hid how3
        clear hA3 hcb3 hrz3 hpb3 hpw3 how3 hr3 HPW HRR HCB HRZ HOW HP hw3
        cases q with
        | none =>
          have HP0 : Hid (refP xs = (c0, 50)) := by
            unfold Hid
            have h1 : manyO s1 n = none := by
              have := manyO_none (n - (k + 1)) (HMS.out : manyO s1 (k + 1) = none)
              rwa [Nat.add_sub_cancel' hkn] at this
            rw [HRC.out, HRE2.out, h1]
          obtain ⟨y0, y1⟩ := pz2 HRZ3.out
          have f0 : W3.frozen? ⟨w.heap.size, 0, none⟩ = false := frozen_of_row _ _ 0 _ _ HRZ3.out
          have f1 : W3.frozen? ⟨w.heap.size, 1, none⟩ = false := frozen_of_row _ _ 1 _ _ HRZ3.out
          simp only [Option.isSome_none]
          rw [hW3] at y0 y1 f0 f1
          go_wp2_with fail
          clear y0 y1 f0 f1
          rw [← hW3]
          obtain ⟨e0, e1, eo⟩ := two_end (P := .slice none 0 0) (O := .slice none 0 0) HRZ3.out
          refine bodyPost_ret (v := .tuple #[.agg #[.slice none 0 0, .slice none 0 0], .int .i64 50]) (by simp [results, Try.results22, go_sem, e0, e1]) rfl ?_
          exact rprs_no HP0.out (HBW.out.trans (HOW3.out.below (by rw [HWS.out]; omega) (fun b _ hb => by omega))) (Nat.le_refl _) eo
        | some x =>
          obtain ⟨⟨per, bud, ts⟩, s2⟩ := x
          obtain ⟨e0, e1, htw⟩ := HTW3.out _ rfl
          dsimp only at e0 e1 htw
          subst e0 e1
          have HMS2 : Hid (manyO s1 (k + 1) = some (r.1 ++ [⟨a, b, ts⟩], s2)) := HMS.out
          have HRR4 : Hid (RR W3 rb s2.1 s2.2) := HRR3.out _ rfl
          obtain ⟨na, ncap, hnv⟩ := htw.form
          obtain rfl : tn = ts.length := by injection hnv
          obtain ⟨sa, scap, hsv⟩ := HPW3.out.form
          rw [HML.out] at hsv
          obtain ⟨L, hL, hrow, hall⟩ := HPW3.out
          have hLk : L.length = k := by have := congrArg List.length hL; rw [List.length_map] at this; rw [this]; exact HML.out
          rw [hLk] at hrow
          have HTW4 := Lib.hid htw; have HROW := Lib.hid hrow; have HALL := Lib.hid hall; have HL := Lib.hid hL; have HLK := Lib.hid hLk
          clear htw hrow hall hL hLk hnv HPW3 HTW3 HRR3 HMS
          subst hsv
          subst hW3
          obtain ⟨p0, p1, p2⟩ := pz_of HPB3.out
          obtain ⟨x0, x1⟩ := pz2 HCB3.out
          have hcl3 := (Array.getElem?_eq_some_iff.1 HCB3.out).1
          have hzl3 := (Array.getElem?_eq_some_iff.1 HRZ3.out).1
          simp only [Option.isSome_some]
          go_wp2_with (at_builtin; refine wpList_append_own _ rfl (.tmp 36) (.tmp 38) 22 rfl (cb + 1) 28 i0 _ 3 40 Try.underlying22 hi hz0 hz1 hz2 rfl (by decide) _ _ _ rfl (World.ownsRow.alloc HROW.out _) _ 1 1 [.int .i64 a, .int .i64 b, .slice ta ts.length tc] rfl rfl ?q1 ?q2 ?c3 ?c4 ?c5 ?c6)
          case q1 => first | exact lit_add rfl _ _ | exact lit_add HS3.out _ _
          case q2 => exact pt_one a b _ rfl
          case c3 => unfold maxLen; omega
          case c4 => omega
          case c5 => simp; omega
          case c6 =>
            intro v' w4 hown hgrow _
            clear p0 p1 p2 x0 x1
            have hl3 : (w3.alloc (.cells #[.int .i64 a, .int .i64 b, .slice ta ts.length tc] 28)).heap.size = w3.heap.size + 1 := HS3.out
            have hne : some cb ≠ (Value.slice sa k scap).ownBlock := fun e => by have := (HROW.out.lt _ e.symm).1; omega
            have ho4 := ((hgrow.block cb (by simp; omega) hne).trans (Below.heap_alloc _ _ cb hcl3)).trans HCB3.out
            have hz4 := ((hgrow.block w.heap.size (by simp; omega) (fun e => by have := (HROW.out.lt _ e.symm).1; omega)).trans (Below.heap_alloc _ _ w.heap.size hzl3)).trans HRZ3.out
            have f4 : w4.frozen? ⟨cb, 0, none⟩ = false := frozen_of_row w4 _ 0 _ _ ho4
            have k4 : w4.cell? ⟨cb, 0, none⟩ = some (.slice sa k scap) := cell_of_row w4 _ 0 _ _ _ ho4
            have hHO4 := (HOW3.out.alloc (.cells #[.int .i64 a, .int .i64 b, .slice ta ts.length tc] 28)).grown hgrow (fun j hj => by rw [HWS.out]; exact (HROW.out.lt _ hj).1)
            have hpw4 : PW w4 (cb + 1) v' (r.1 ++ [⟨a, b, ts⟩]) := by
              refine ⟨L ++ [(⟨a, b, ts⟩, .slice ta ts.length tc)], by rw [List.map_append, HL.out]; rfl, ?_, fun q hq => ?_⟩
              · rw [List.length_append, HLK.out, List.flatMap_append]
                simpa [pcs] using hown
              · rcases List.mem_append.1 hq with hq | hq
                · exact World.ownsRow.kept (World.ownsRow.alloc (HALL.out q hq) _) hgrow (own_two (World.ownsRow.alloc (HALL.out q hq) (.cells #[.int .i64 a, .int .i64 b, .slice ta ts.length tc] 28)) (World.ownsRow.alloc HROW.out _) (by decide))
                · rw [List.mem_singleton] at hq
                  subst hq
                  exact World.ownsRow.kept (World.ownsRow.alloc HTW4.out _) hgrow (own_two (World.ownsRow.alloc HTW4.out (.cells #[.int .i64 a, .int .i64 b, .slice ta ts.length tc] 28)) (World.ownsRow.alloc HROW.out _) (by decide))
            have HPW5 : Hid (PW (w4.setCell ⟨cb, 0, none⟩ v') (cb + 1) v' (r.1 ++ [⟨a, b, ts⟩])) := hpw4.set (by omega)
            have HCB5 : Hid ((w4.setCell ⟨cb, 0, none⟩ v').heap[cb]? = some (.cells #[v', .slice none 0 0] 25 (0, 0))) := heap_set_same ho4
            have HRZ5 : Hid ((w4.setCell ⟨cb, 0, none⟩ v').heap[w.heap.size]? = some (.cells #[.slice none 0 0, .slice none 0 0] 25 (0, 0))) := (heap_set_other (by omega)).trans hz4
            have HOW5 : Hid (Only (fun b => b = rb ∨ b = cb) W (w4.setCell ⟨cb, 0, none⟩ v')) := Only.setCell hHO4 (p := ⟨cb, 0, none⟩) (Or.inl (Or.inr rfl)) v'
            have HRR5 : Hid (RR (w4.setCell ⟨cb, 0, none⟩ v') rb s2.1 s2.2) := HRR4.out.keep (fun j hj => (heap_set_other (by omega)).trans ((hgrow.block j (by simp; omega) (fun e => by have := (HROW.out.lt _ e.symm).1; omega)).trans (Below.heap_alloc _ _ j (by omega))))
            obtain ⟨va, vcap, hv'⟩ := hpw4.form
            have hl1 : (r.1 ++ [(⟨a, b, ts⟩ : Pt)]).length = k + 1 := by rw [List.length_append, HML.out]; rfl
            rw [hl1] at hv'
            clear hl1 hown hgrow hne ho4 hz4 hHO4 hpw4 HROW HALL HL HTW4 HCB3 HRZ3 HOW3 HRR4 HPB3 HS3 hl3
            subst hv'
            go_wp2_with fail
            go_roundw
            case rel => exact ⟨k + 1, _, (r.1 ++ [⟨a, b, ts⟩], s2), by omega, by go_num, HMS2, HPW5, HRR5, HCB5, HRZ5, HOW5⟩
            case measure => simp [intOf]; omega
      · have e : k = n := by omega
        subst e
        have HRE3 : Hid (refC (xs, 0) = if (rd MX r.2).1 > 8 then none else some (⟨r.1, (many rdPo (rd MX r.2).1.toNat (rd MX r.2).2).1⟩, (many rdPo (rd MX r.2).1.toNat (rd MX r.2).2).2)) := by unfold Hid; rw [HRE2.out, HMO.out]
        have HN := Lib.hid (rnum_any HRR.out)
        have he : rd MX (r.2.1, r.2.2) = rd MX r.2 := rfl
        rw [he] at HN
        have h0m : 0 ≤ (rd MX r.2).1 := by obtain ⟨_, _, _, hby, _⟩ := HRR.out; exact rd_nonneg MX r.2 hby
        obtain ⟨q1, hq1⟩ : ∃ q1, q1 = rd MX r.2 := ⟨_, rfl⟩
        rw [← hq1] at HN HRE3 h0m
        clear he hq1 HRE2
        obtain ⟨m', s3⟩ := q1
        dsimp only at HN HRE3 h0m
        obtain ⟨m, rfl⟩ := Int.eq_ofNat_of_zero_le h0m
        rw [Int.toNat_natCast] at HRE3
        have hsl := HOW.out.size
        rw [HWS.out] at hsl
        go_wp2_with fail
        refine HN.out.mono ?_
        rintro e w5 ⟨rfl, hr5, hw5⟩
        have HCB5 := Lib.hid ((hw5.block cb hcl (by omega)).trans HCB.out)
        have HRZ5 := Lib.hid ((hw5.block w.heap.size hzl (by omega)).trans HRZ.out)
        have HPW5 : Hid (PW w5 (cb + 1) sv r.1) := HPW.out.only hw5 (fun j hj => by omega)
        have HOW5 : Hid (Only (fun b => b = rb ∨ b = cb) W w5) := HOW.out.trans (hw5.mono fun j _ h => Or.inl h)
        have HRR5 : Hid (RR w5 rb (many rdPo 0 s3).2.1 (many rdPo 0 s3).2.2) := hr5
        have HOV5 : Hid (OW w5 (cb + 1) (.slice none 0 0) (many rdPo 0 s3).1) := World.ownsRow_nil _ _ _ _
        have hs5 := hw5.size
        clear hr5 hw5 HN HPW HRR HCB HRZ HOW h0m
        cases h8 : decide ((m : Int) > 8) with
        | true =>
          have HP0 : Hid (refP xs = (c0, 50)) := by unfold Hid; rw [HRC.out, HRE3.out, if_pos (of_decide_eq_true h8)]
          obtain ⟨y0, y1⟩ := pz2 HRZ5.out
          have f0 : w5.frozen? ⟨w.heap.size, 0, none⟩ = false := frozen_of_row _ _ 0 _ _ HRZ5.out
          have f1 : w5.frozen? ⟨w.heap.size, 1, none⟩ = false := frozen_of_row _ _ 1 _ _ HRZ5.out
          go_wp2_with fail
          clear y0 y1 f0 f1
          obtain ⟨e0, e1, eo⟩ := two_end (P := .slice none 0 0) (O := .slice none 0 0) HRZ5.out
          refine bodyPost_ret (v := .tuple #[.agg #[.slice none 0 0, .slice none 0 0], .int .i64 50]) (by simp [results, Try.results22, go_sem, e0, e1]) rfl ?_
          exact rprs_no HP0.out (HBW.out.trans (HOW5.out.below (by rw [HWS.out]; omega) (fun b _ hb => by omega))) (Nat.le_refl _) eo
        | false =>
          have hm8 : m ≤ 8 := by have := of_decide_eq_false h8; omega
          have HRE4 : Hid (refC (xs, 0) = some (⟨r.1, (many rdPo m s3).1⟩, (many rdPo m s3).2)) := by unfold Hid; rw [HRE3.out, if_neg (of_decide_eq_false h8)]
          clear HRE3 h8
          go_wp2_with fail
          go_loopw [10] (fun i wr => ∃ (j : Nat) (ov : Value), j ≤ m ∧ i = .int .i64 j ∧ Hid (OW wr (cb + 1) ov (many rdPo j s3).1) ∧ Hid (RR wr rb (many rdPo j s3).2.1 (many rdPo j s3).2.2) ∧ Hid (PW wr (cb + 1) sv r.1) ∧ Hid (wr.heap[cb]? = some (.cells #[sv, ov] 25 (0, 0))) ∧
            Hid (wr.heap[w.heap.size]? = some (.cells #[.slice none 0 0, .slice none 0 0] 25 (0, 0))) ∧ Hid (Only (fun b => b = rb ∨ b = cb) W wr)) (fun i _ => m - (intOf i).toNat)
          case atStart => exact ⟨0, _, by omega, rfl, HOV5, HRR5, HPW5, HCB5, HRZ5, HOW5⟩
          case round =>
            clear HOV5 HRR5 HPW5 HCB5 HRZ5 HOW5
            obtain ⟨j, ov, hj, rfl, HOV, HRR, HPW, HCB, HRZ, HOW⟩ := hrel
            have hcl := (Array.getElem?_eq_some_iff.1 HCB.out).1
            have hzl := (Array.getElem?_eq_some_iff.1 HRZ.out).1
            by_cases hjm : j < m
            · have HRW := Lib.hid (rrow_any (m := 6) HRR.out (by decide))
              have HL : Hid ((many rdPo j s3).1.length = j) := many_length _ _ _
              have HSN : Hid (many rdPo (j + 1) s3 = ((many rdPo j s3).1 ++ [Po.of (rowN 6 (many rdPo j s3).2).1], (rowN 6 (many rdPo j s3).2).2)) := many_snoc _ _ _
              have hl6 := rowN_length 6 (many rdPo j s3).2
              have he6 : rowN 6 ((many rdPo j s3).2.1, (many rdPo j s3).2.2) = rowN 6 (many rdPo j s3).2 := rfl
              rw [he6] at HRW
              obtain ⟨q, hq⟩ : ∃ q, q = rowN 6 (many rdPo j s3).2 := ⟨_, rfl⟩
              rw [← hq] at HRW HSN hl6
              clear hq he6
              obtain ⟨l6, s4⟩ := q
              dsimp only at HRW HSN hl6
              match l6, hl6 with
              | [a0, a1, a2, a3, a4, a5], _ =>
              go_wp2_with fail
              refine HRW.out.mono ?_
              rintro e w6 ⟨v6, rfl, ho6, hr6, hw6⟩
              obtain ⟨g6, cap6, cur6, rfl, hg6, hc6, hm6, hb6, hcell⟩ := oi_block ho6 (by simp)
              have hl : ([a0, a1, a2, a3, a4, a5] : List Int).length = 6 := rfl
              rw [hl] at hc6 ⊢
              have q0 : w6.cell? ⟨g6, 0, none⟩ = some (.int .i64 a0) := (cell_of_row w6 g6 0 _ _ _ hb6).trans (hcell 0 (by simp))
              have q1 : w6.cell? ⟨g6, 1, none⟩ = some (.int .i64 a1) := (cell_of_row w6 g6 1 _ _ _ hb6).trans (hcell 1 (by simp))
              have q2 : w6.cell? ⟨g6, 2, none⟩ = some (.int .i64 a2) := (cell_of_row w6 g6 2 _ _ _ hb6).trans (hcell 2 (by simp))
              have q3 : w6.cell? ⟨g6, 3, none⟩ = some (.int .i64 a3) := (cell_of_row w6 g6 3 _ _ _ hb6).trans (hcell 3 (by simp))
              have q4 : w6.cell? ⟨g6, 4, none⟩ = some (.int .i64 a4) := (cell_of_row w6 g6 4 _ _ _ hb6).trans (hcell 4 (by simp))
              have q5 : w6.cell? ⟨g6, 5, none⟩ = some (.int .i64 a5) := (cell_of_row w6 g6 5 _ _ _ hb6).trans (hcell 5 (by simp))
              have how6 : OW w6 (cb + 1) ov (many rdPo j s3).1 := own_only HOV.out hw6 (fun k hk => by omega)
              have hcb6 := (hw6.block cb hcl (by omega)).trans HCB.out
              have x2 : w6.cell? ⟨cb, 1, none⟩ = some ov := cell_of_row w6 cb 1 _ _ _ hcb6
              have HRZ2 := Lib.hid ((hw6.block w.heap.size hzl (by omega)).trans HRZ.out)
              have HOW2 : Hid (Only (fun b => b = rb ∨ b = cb) W w6) := HOW.out.trans (hw6.mono fun j _ h => Or.inl h)
              have HRR2 := Lib.hid hr6
              have HPW2 : Hid (PW w6 (cb + 1) sv r.1) := HPW.out.only hw6 (fun k hk => by omega)
              have hrow : w6.ownsRow (cb + 1) 32 6 ov j (ocs (many rdPo j s3).1) := by have := how6; unfold OW at this; rwa [HL.out] at this
              have HOWR := Lib.hid hrow
              have HCB2 := Lib.hid hcb6
              have hne6 : Hid (some g6 ≠ ov.ownBlock) := fun e => own_ne hrow hb6 (by decide) e.symm
              have hnec : Hid (some cb ≠ ov.ownBlock) := fun e => own_ne hrow hcb6 (by decide) e.symm
              have hg6l : g6 < w6.heap.size := (Array.getElem?_eq_some_iff.1 hb6).1
              have hcl2 : cb < w6.heap.size := (Array.getElem?_eq_some_iff.1 hcb6).1
              have hg6c : g6 ≠ cb := by omega
              obtain ⟨oa, ocap, hov, _⟩ := (OW.os how6).slice
              rw [HL.out] at hov
              have Hm1 : Hid (j + 1 ≤ maxLen) := by unfold Hid maxLen; omega
              have Hm2 : Hid ((j + 1) * 48 ≤ 140737488355328) := by unfold Hid; omega
              clear hcell ho6 hr6 hw6 hcb6 how6 hrow hb6 HOV HRR HPW HCB HRZ HOW HRW hl hm6
              subst hov
              go_wp2_with fail
              refine wp_region_held_drew (S := fun w' => w'.cell? ⟨g6, 0, none⟩ = some (.int .i64 a0) ∧ w'.cell? ⟨g6, 1, none⟩ = some (.int .i64 a1) ∧ w'.cell? ⟨g6, 2, none⟩ = some (.int .i64 a2) ∧ w'.cell? ⟨g6, 3, none⟩ = some (.int .i64 a3) ∧ w'.cell? ⟨g6, 4, none⟩ = some (.int .i64 a4) ∧ w'.cell? ⟨g6, 5, none⟩ = some (.int .i64 a5)) (by kernel_rfl) (by (try dsimp only); first | assumption | go_keep) (fun hHeld => ?_)
              refine wpAnyH_take (i := 0) (oi := _) (v := ?_) rfl (by kernel_rfl) (by kernel_rfl) (by kernel_rfl) (fun _ _ _ h => h) (Or.inl ⟨by rfl, ?_⟩) (by assumption) ?_; rotate_left
              · (intro w hSw; (try dsimp only at hSw); go_simp; try with_reducible rfl)
              try simp only [Act.put, List.setIfInBounds_toArray]
              refine wpAnyH_take (i := 2) (oi := _) (v := ?_) rfl (by kernel_rfl) (by kernel_rfl) (by kernel_rfl) (fun _ _ _ h => h) (Or.inl ⟨by rfl, ?_⟩) (by assumption) ?_; rotate_left
              · (intro w hSw; (try dsimp only at hSw); go_simp; try with_reducible rfl)
              try simp only [Act.put]
              refine wpAnyH_take (i := 3) (oi := _) (v := ?_) rfl (by kernel_rfl) (by kernel_rfl) (by kernel_rfl) (fun _ _ _ h => h) (Or.inl ⟨by rfl, ?_⟩) (by assumption) ?_; rotate_left
              · (intro w hSw; (try dsimp only at hSw); go_simp; try with_reducible rfl)
              try simp only [Act.put]
              refine wpAnyH_take (i := 4) (oi := _) (v := ?_) rfl (by kernel_rfl) (by kernel_rfl) (by kernel_rfl) (fun _ _ _ h => h) (Or.inl ⟨by rfl, ?_⟩) (by assumption) ?_; rotate_left
              · (intro w hSw; (try dsimp only at hSw); go_simp; try with_reducible rfl)
              try simp only [Act.put]
              refine wpAnyH_take (i := 5) (oi := _) (v := ?_) rfl (by kernel_rfl) (by kernel_rfl) (by kernel_rfl) (fun _ _ _ h => h) (Or.inl ⟨by rfl, ?_⟩) (by assumption) ?_; rotate_left
              · (intro w hSw; (try dsimp only at hSw); go_simp; try with_reducible rfl)
              try simp only [Act.put]
              refine wpAnyH_take (i := 6) (oi := _) (v := ?_) rfl (by kernel_rfl) (by kernel_rfl) (by kernel_rfl) (fun _ _ _ h => h) (Or.inl ⟨by rfl, ?_⟩) (by assumption) ?_; rotate_left
              · (intro w hSw; (try dsimp only at hSw); go_simp; try with_reducible rfl)
              try simp only [Act.put]
              refine wpAnyH_take (i := 7) (oi := _) (v := ?_) rfl (by kernel_rfl) (by kernel_rfl) (by kernel_rfl) (fun _ _ _ h => h) (Or.inl ⟨by rfl, ?_⟩) (by assumption) ?_; rotate_left
              · (intro w hSw; (try dsimp only at hSw); go_simp; try with_reducible rfl)
              try simp only [Act.put]
              refine wpAnyH_take (i := 8) (oi := _) (v := ?_) rfl (by kernel_rfl) (by kernel_rfl) (by kernel_rfl) (fun _ _ _ h => h) (Or.inl ⟨by rfl, ?_⟩) (by assumption) ?_; rotate_left
              · (intro w hSw; (try dsimp only at hSw); go_simp; try with_reducible rfl)
              try simp only [Act.put]
              refine wpAnyH_take (i := 9) (oi := _) (v := ?_) rfl (by kernel_rfl) (by kernel_rfl) (by kernel_rfl) (fun _ _ _ h => h) (Or.inl ⟨by rfl, ?_⟩) (by assumption) ?_; rotate_left
              · (intro w hSw; (try dsimp only at hSw); go_simp; try with_reducible rfl)
              try simp only [Act.put]
              refine wpAnyH_take (i := 10) (oi := _) (v := ?_) rfl (by kernel_rfl) (by kernel_rfl) (by kernel_rfl) (fun _ _ _ h => h) (Or.inl ⟨by rfl, ?_⟩) (by assumption) ?_; rotate_left
              · (intro w hSw; (try dsimp only at hSw); go_simp; try with_reducible rfl)
              try simp only [Act.put]
              refine wpAnyH_take (i := 11) (oi := _) (v := ?_) rfl (by kernel_rfl) (by kernel_rfl) (by kernel_rfl) (fun _ _ _ h => h) (Or.inl ⟨by rfl, ?_⟩) (by assumption) ?_; rotate_left
              · (intro w hSw; (try dsimp only at hSw); go_simp; try with_reducible rfl)
              try simp only [Act.put]
              refine wpAnyH_take (i := 12) (oi := _) (v := ?_) rfl (by kernel_rfl) (by kernel_rfl) (by kernel_rfl) (fun _ _ _ h => h) (Or.inl ⟨by rfl, ?_⟩) (by assumption) ?_; rotate_left
              · (intro w hSw; (try dsimp only at hSw); go_simp; try with_reducible rfl)
              try simp only [Act.put]
              refine wpAnyH_take (i := 13) (oi := _) (v := ?_) rfl (by kernel_rfl) (by kernel_rfl) (by kernel_rfl) (fun _ _ _ h => h) (Or.inl ⟨by rfl, ?_⟩) (by assumption) ?_; rotate_left
              · (intro w hSw; (try dsimp only at hSw); go_simp; try with_reducible rfl)
              try simp only [Act.put]
              refine wpAnyH_take (i := 14) (oi := _) (v := ?_) rfl (by kernel_rfl) (by kernel_rfl) (by kernel_rfl) (fun _ _ _ h => h) (Or.inl ⟨by rfl, ?_⟩) (by assumption) ?_; rotate_left
              · (intro w hSw; (try dsimp only at hSw); go_simp; try with_reducible rfl)
              try simp only [Act.put]
              refine wpAnyH_take (i := 15) (oi := _) (v := ?_) rfl (by kernel_rfl) (by kernel_rfl) (by kernel_rfl) (fun _ _ _ h => h) (Or.inl ⟨by rfl, ?_⟩) (by assumption) ?_; rotate_left
              · (intro w hSw; (try dsimp only at hSw); go_simp; try with_reducible rfl)
              try simp only [Act.put]
              refine wpAnyH_take (i := 16) (oi := _) (v := ?_) rfl (by kernel_rfl) (by kernel_rfl) (by kernel_rfl) (fun _ _ _ h => h) (Or.inl ⟨by rfl, ?_⟩) (by assumption) ?_; rotate_left
              · (intro w hSw; (try dsimp only at hSw); go_simp; try with_reducible rfl)
              try simp only [Act.put]
              refine wpAnyH_take (i := 17) (oi := _) (v := ?_) rfl (by kernel_rfl) (by kernel_rfl) (by kernel_rfl) (fun _ _ _ h => h) (Or.inl ⟨by rfl, ?_⟩) (by assumption) ?_; rotate_left
              · (intro w hSw; (try dsimp only at hSw); go_simp; try with_reducible rfl)
              try simp only [Act.put]
              refine wpAnyH_take (i := 18) (oi := _) (v := ?_) rfl (by kernel_rfl) (by kernel_rfl) (by kernel_rfl) (fun _ _ _ h => h) (Or.inl ⟨by rfl, ?_⟩) (by assumption) ?_; rotate_left
              · (intro w hSw; (try dsimp only at hSw); go_simp; try with_reducible rfl)
              try simp only [Act.put]
              refine wpAnyH_take (i := 19) (oi := _) (v := ?_) rfl (by kernel_rfl) (by kernel_rfl) (by kernel_rfl) (fun _ _ _ h => h) (Or.inl ⟨by rfl, ?_⟩) (by assumption) ?_; rotate_left
              · (intro w hSw; (try dsimp only at hSw); go_simp; try with_reducible rfl)
              try simp only [Act.put]
              refine wpAnyH_take (i := 20) (oi := _) (v := ?_) rfl (by kernel_rfl) (by kernel_rfl) (by kernel_rfl) (fun _ _ _ h => h) (Or.inl ⟨by rfl, ?_⟩) (by assumption) ?_; rotate_left
              · (intro w hSw; (try dsimp only at hSw); go_simp; try with_reducible rfl)
              try simp only [Act.put]
              refine wpAnyH_ready (rs := [1, 21]) (by kernel_rfl) (by simp) (AllReadyH.cons (o := _) rfl (fun K hK => ?_) (AllReadyH.cons (o := _) rfl (fun K hK => ?_) AllReadyH.nil))
              · go_simp
                refine hK.out _ _ (by (try dsimp only); first | assumption | go_keep) (fun hHeld => ?_)
                clear hK K
                try simp only [Act.put, List.setIfInBounds_toArray, List.set_cons_zero, List.set_cons_succ]
                refine wpAnyH_ready (rs := [21]) (by kernel_rfl) (by simp) (AllReadyH.cons (o := _) rfl (fun K hK => ?_) AllReadyH.nil)
                go_simp
                refine hK.out _ _ (by (try dsimp only); first | assumption | go_keep) (fun hHeld => ?_)
                clear hK K
                try simp only [Act.put, List.setIfInBounds_toArray, List.set_cons_zero, List.set_cons_succ]
                refine wpAnyH_ready (rs := [22]) (by kernel_rfl) (by simp) (AllReadyH.cons (o := _) rfl (fun K hK => ?_) AllReadyH.nil)
                refine step_append_own rfl (.tmp 54) (.tmp 74) 23 rfl (cb + 1) 32 j0 _ 6 48 Try.underlying23 HINF.out.1 HINF.out.2.1 HINF.out.2.2.1 HINF.out.2.2.2 rfl (by decide) _ j _ (by simp [Act.eval]) (own_drew2 HOWR.out _) ⟨w6.heap.size, 0, none⟩ 1 1 [.int .i64 a0, .int .i64 a1, .int .i64 a2, .int .i64 a3, .int .i64 a4, .int .i64 a5] (by simp [Act.eval]) rfl (lit_add (W := w6) rfl _ _) (one_i64 [a0, a1, a2, a3, a4, a5]) Hm1.out Hm2.out (by simp; omega) ?_
                intro v' w7 hown hgrow
                obtain ⟨va, vcap, hva⟩ := own_form hown
                subst hva
                have r0 := far_cell hgrow q0 hg6l hne6.out
                have r1 := far_cell hgrow q1 hg6l hne6.out
                have r2 := far_cell hgrow q2 hg6l hne6.out
                have r3 := far_cell hgrow q3 hg6l hne6.out
                have r4 := far_cell hgrow q4 hg6l hne6.out
                have r5 := far_cell hgrow q5 hg6l hne6.out
                have t0 := set_far (b := cb) (i := 1) (y := (Value.slice va (j + 1) vcap)) r0 hg6c
                have t1 := set_far (b := cb) (i := 1) (y := (Value.slice va (j + 1) vcap)) r1 hg6c
                have t2 := set_far (b := cb) (i := 1) (y := (Value.slice va (j + 1) vcap)) r2 hg6c
                have t3 := set_far (b := cb) (i := 1) (y := (Value.slice va (j + 1) vcap)) r3 hg6c
                have t4 := set_far (b := cb) (i := 1) (y := (Value.slice va (j + 1) vcap)) r4 hg6c
                have t5 := set_far (b := cb) (i := 1) (y := (Value.slice va (j + 1) vcap)) r5 hg6c
                have hcb7 := far_blk hgrow HCB2.out hnec.out
                have f7 : w7.frozen? ⟨cb, 1, none⟩ = false := frozen_of_row w7 cb 1 _ _ hcb7
                have x7 : w7.cell? ⟨cb, 1, none⟩ = some (.slice oa j ocap) := cell_of_row w7 cb 1 _ _ _ hcb7
                refine hK.out _ _ (by (try dsimp only); first | assumption | go_keep) (fun hHeld => ?_)
                clear hK K
                try simp only [Act.put, List.setIfInBounds_toArray]
                refine wpAnyH_take (i := 23) (oi := _) (v := ?_) rfl (by kernel_rfl) (by kernel_rfl) (by kernel_rfl) (fun _ _ _ h => h) (Or.inl ⟨by rfl, ?_⟩) (by assumption) ?_; rotate_left
                · (intro w hSw; (try dsimp only at hSw); go_simp; try with_reducible rfl)
                try simp only [Act.put]
                refine wpAnyH_ready (rs := [24]) (by kernel_rfl) (by simp) (AllReadyH.cons (o := _) rfl (fun K hK => ?_) AllReadyH.nil)
                go_simp
                refine hK.out _ _ (by (try dsimp only); first | assumption | go_keep) (fun hHeld => ?_)
                clear hK K
                try simp only [Act.put, List.setIfInBounds_toArray, List.set_cons_zero, List.set_cons_succ]
                refine wpAnyH_done (by kernel_rfl) ?_ _
                have how7 : OW w7 (cb + 1) (Value.slice va (j + 1) vcap) (many rdPo (j + 1) s3).1 := by
                  rw [HSN.out]
                  unfold OW
                  rw [List.length_append, HL.out]
                  have e : ocs ((many rdPo j s3).1 ++ [Po.of [a0, a1, a2, a3, a4, a5]]) = ocs (many rdPo j s3).1 ++ [.int .i64 a0, .int .i64 a1, .int .i64 a2, .int .i64 a3, .int .i64 a4, .int .i64 a5] := by
                    unfold ocs; rw [List.flatMap_append]; rfl
                  rw [e]
                  exact hown
                have HOV8 : Hid (OW (w7.setCell ⟨cb, 1, none⟩ (Value.slice va (j + 1) vcap)) (cb + 1) (Value.slice va (j + 1) vcap) (many rdPo (j + 1) s3).1) := World.ownsRow.kept how7 set_grown (Or.inr (own_ne how7 hcb7 (by decide)))
                have HPW8 : Hid (PW (w7.setCell ⟨cb, 1, none⟩ (Value.slice va (j + 1) vcap)) (cb + 1) sv r.1) := (PW.grow (PW.drew (HPW2.out.old (World.grownBy_alloc w6 (.cells #[.int .i64 a0, .int .i64 a1, .int .i64 a2, .int .i64 a3, .int .i64 a4, .int .i64 a5] 32) none))) (own_drew2 HOWR.out (.cells #[.int .i64 a0, .int .i64 a1, .int .i64 a2, .int .i64 a3, .int .i64 a4, .int .i64 a5] 32)) hgrow).set (by omega)
                have HCB8 : Hid ((w7.setCell ⟨cb, 1, none⟩ (Value.slice va (j + 1) vcap)).heap[cb]? = some (.cells #[sv, (Value.slice va (j + 1) vcap)] 25 (0, 0))) := heap_set_same hcb7
                have HRZ8 : Hid ((w7.setCell ⟨cb, 1, none⟩ (Value.slice va (j + 1) vcap)).heap[w.heap.size]? = some (.cells #[.slice none 0 0, .slice none 0 0] 25 (0, 0))) := (heap_set_other (by omega)).trans (far_blk hgrow HRZ2.out (fun e => own_ne HOWR.out HRZ2.out (by decide) e.symm))
                have hof7 := (HOW2.out.alloc (.cells #[.int .i64 a0, .int .i64 a1, .int .i64 a2, .int .i64 a3, .int .i64 a4, .int .i64 a5] 32)).drew.grown hgrow (fun k hk => by rw [HWS.out]; exact (HOWR.out.lt k hk).1)
                have HOW8 : Hid (Only (fun b => b = rb ∨ b = cb) W (w7.setCell ⟨cb, 1, none⟩ (Value.slice va (j + 1) vcap))) := Only.setCell hof7 (p := ⟨cb, 1, none⟩) (Or.inl (Or.inr rfl)) _
                have HRR8 : Hid (RR (w7.setCell ⟨cb, 1, none⟩ (Value.slice va (j + 1) vcap)) rb (many rdPo (j + 1) s3).2.1 (many rdPo (j + 1) s3).2.2) := by
                  rw [HSN.out]
                  refine HRR2.out.keep (fun k hk => ?_)
                  exact (heap_set_other (by omega)).trans ((hgrow.block k (by show k < (w6.alloc _).heap.size; simp; omega) (fun e => by have := (HOWR.out.lt k e.symm).1; omega)).trans (Below.heap_alloc w6 _ k (by omega)))
                clear hown hgrow how7 hof7 r0 r1 r2 r3 r4 r5 t0 t1 t2 t3 t4 t5 q0 q1 q2 q3 q4 q5 hcb7 f7 x7 x2 HOWR HCB2 HRZ2 HOW2 HRR2 HPW2 hne6 hnec
                go_wp2_with fail
                go_roundw
                case rel => exact ⟨j + 1, _, by omega, by go_num, HOV8, HRR8, HPW8, HCB8, HRZ8, HOW8⟩
                case measure => simp [intOf]; omega
              · go_simp
                refine hK.out _ _ (by (try dsimp only); first | assumption | go_keep) (fun hHeld => ?_)
                clear hK K
                try simp only [Act.put, List.setIfInBounds_toArray, List.set_cons_zero, List.set_cons_succ]
                refine wpAnyH_ready (rs := [1]) (by kernel_rfl) (by simp) (AllReadyH.cons (o := _) rfl (fun K hK => ?_) AllReadyH.nil)
                go_simp
                refine hK.out _ _ (by (try dsimp only); first | assumption | go_keep) (fun hHeld => ?_)
                clear hK K
                try simp only [Act.put, List.setIfInBounds_toArray, List.set_cons_zero, List.set_cons_succ]
                refine wpAnyH_ready (rs := [22]) (by kernel_rfl) (by simp) (AllReadyH.cons (o := _) rfl (fun K hK => ?_) AllReadyH.nil)
                refine step_append_own rfl (.tmp 54) (.tmp 74) 23 rfl (cb + 1) 32 j0 _ 6 48 Try.underlying23 HINF.out.1 HINF.out.2.1 HINF.out.2.2.1 HINF.out.2.2.2 rfl (by decide) _ j _ (by simp [Act.eval]) (own_drew2 HOWR.out _) ⟨w6.heap.size, 0, none⟩ 1 1 [.int .i64 a0, .int .i64 a1, .int .i64 a2, .int .i64 a3, .int .i64 a4, .int .i64 a5] (by simp [Act.eval]) rfl (lit_add (W := w6) rfl _ _) (one_i64 [a0, a1, a2, a3, a4, a5]) Hm1.out Hm2.out (by simp; omega) ?_
                intro v' w7 hown hgrow
                obtain ⟨va, vcap, hva⟩ := own_form hown
                subst hva
                have r0 := far_cell hgrow q0 hg6l hne6.out
                have r1 := far_cell hgrow q1 hg6l hne6.out
                have r2 := far_cell hgrow q2 hg6l hne6.out
                have r3 := far_cell hgrow q3 hg6l hne6.out
                have r4 := far_cell hgrow q4 hg6l hne6.out
                have r5 := far_cell hgrow q5 hg6l hne6.out
                have t0 := set_far (b := cb) (i := 1) (y := (Value.slice va (j + 1) vcap)) r0 hg6c
                have t1 := set_far (b := cb) (i := 1) (y := (Value.slice va (j + 1) vcap)) r1 hg6c
                have t2 := set_far (b := cb) (i := 1) (y := (Value.slice va (j + 1) vcap)) r2 hg6c
                have t3 := set_far (b := cb) (i := 1) (y := (Value.slice va (j + 1) vcap)) r3 hg6c
                have t4 := set_far (b := cb) (i := 1) (y := (Value.slice va (j + 1) vcap)) r4 hg6c
                have t5 := set_far (b := cb) (i := 1) (y := (Value.slice va (j + 1) vcap)) r5 hg6c
                have hcb7 := far_blk hgrow HCB2.out hnec.out
                have f7 : w7.frozen? ⟨cb, 1, none⟩ = false := frozen_of_row w7 cb 1 _ _ hcb7
                have x7 : w7.cell? ⟨cb, 1, none⟩ = some (.slice oa j ocap) := cell_of_row w7 cb 1 _ _ _ hcb7
                refine hK.out _ _ (by (try dsimp only); first | assumption | go_keep) (fun hHeld => ?_)
                clear hK K
                try simp only [Act.put, List.setIfInBounds_toArray]
                refine wpAnyH_take (i := 23) (oi := _) (v := ?_) rfl (by kernel_rfl) (by kernel_rfl) (by kernel_rfl) (fun _ _ _ h => h) (Or.inl ⟨by rfl, ?_⟩) (by assumption) ?_; rotate_left
                · (intro w hSw; (try dsimp only at hSw); go_simp; try with_reducible rfl)
                try simp only [Act.put]
                refine wpAnyH_ready (rs := [24]) (by kernel_rfl) (by simp) (AllReadyH.cons (o := _) rfl (fun K hK => ?_) AllReadyH.nil)
                go_simp
                refine hK.out _ _ (by (try dsimp only); first | assumption | go_keep) (fun hHeld => ?_)
                clear hK K
                try simp only [Act.put, List.setIfInBounds_toArray, List.set_cons_zero, List.set_cons_succ]
                refine wpAnyH_done (by kernel_rfl) ?_ _
                have how7 : OW w7 (cb + 1) (Value.slice va (j + 1) vcap) (many rdPo (j + 1) s3).1 := by
                  rw [HSN.out]
                  unfold OW
                  rw [List.length_append, HL.out]
                  have e : ocs ((many rdPo j s3).1 ++ [Po.of [a0, a1, a2, a3, a4, a5]]) = ocs (many rdPo j s3).1 ++ [.int .i64 a0, .int .i64 a1, .int .i64 a2, .int .i64 a3, .int .i64 a4, .int .i64 a5] := by
                    unfold ocs; rw [List.flatMap_append]; rfl
                  rw [e]
                  exact hown
                have HOV8 : Hid (OW (w7.setCell ⟨cb, 1, none⟩ (Value.slice va (j + 1) vcap)) (cb + 1) (Value.slice va (j + 1) vcap) (many rdPo (j + 1) s3).1) := World.ownsRow.kept how7 set_grown (Or.inr (own_ne how7 hcb7 (by decide)))
                have HPW8 : Hid (PW (w7.setCell ⟨cb, 1, none⟩ (Value.slice va (j + 1) vcap)) (cb + 1) sv r.1) := (PW.grow (PW.drew (HPW2.out.old (World.grownBy_alloc w6 (.cells #[.int .i64 a0, .int .i64 a1, .int .i64 a2, .int .i64 a3, .int .i64 a4, .int .i64 a5] 32) none))) (own_drew2 HOWR.out (.cells #[.int .i64 a0, .int .i64 a1, .int .i64 a2, .int .i64 a3, .int .i64 a4, .int .i64 a5] 32)) hgrow).set (by omega)
                have HCB8 : Hid ((w7.setCell ⟨cb, 1, none⟩ (Value.slice va (j + 1) vcap)).heap[cb]? = some (.cells #[sv, (Value.slice va (j + 1) vcap)] 25 (0, 0))) := heap_set_same hcb7
                have HRZ8 : Hid ((w7.setCell ⟨cb, 1, none⟩ (Value.slice va (j + 1) vcap)).heap[w.heap.size]? = some (.cells #[.slice none 0 0, .slice none 0 0] 25 (0, 0))) := (heap_set_other (by omega)).trans (far_blk hgrow HRZ2.out (fun e => own_ne HOWR.out HRZ2.out (by decide) e.symm))
                have hof7 := (HOW2.out.alloc (.cells #[.int .i64 a0, .int .i64 a1, .int .i64 a2, .int .i64 a3, .int .i64 a4, .int .i64 a5] 32)).drew.grown hgrow (fun k hk => by rw [HWS.out]; exact (HOWR.out.lt k hk).1)
                have HOW8 : Hid (Only (fun b => b = rb ∨ b = cb) W (w7.setCell ⟨cb, 1, none⟩ (Value.slice va (j + 1) vcap))) := Only.setCell hof7 (p := ⟨cb, 1, none⟩) (Or.inl (Or.inr rfl)) _
                have HRR8 : Hid (RR (w7.setCell ⟨cb, 1, none⟩ (Value.slice va (j + 1) vcap)) rb (many rdPo (j + 1) s3).2.1 (many rdPo (j + 1) s3).2.2) := by
                  rw [HSN.out]
                  refine HRR2.out.keep (fun k hk => ?_)
                  exact (heap_set_other (by omega)).trans ((hgrow.block k (by show k < (w6.alloc _).heap.size; simp; omega) (fun e => by have := (HOWR.out.lt k e.symm).1; omega)).trans (Below.heap_alloc w6 _ k (by omega)))
                clear hown hgrow how7 hof7 r0 r1 r2 r3 r4 r5 t0 t1 t2 t3 t4 t5 q0 q1 q2 q3 q4 q5 hcb7 f7 x7 x2 HOWR HCB2 HRZ2 HOW2 HRR2 HPW2 hne6 hnec
                go_wp2_with fail
                go_roundw
                case rel => exact ⟨j + 1, _, by omega, by go_num, HOV8, HRR8, HPW8, HCB8, HRZ8, HOW8⟩
                case measure => simp [intOf]; omega
            · have e : j = m := by omega
              subst e
              have HE := Lib.hid (rend_any HRR.out)
              have HRP : Hid (refP xs = if en (many rdPo j s3).2 ≠ 0 then (c0, en (many rdPo j s3).2) else if may ⟨r.1, (many rdPo j s3).1⟩ then (⟨r.1, (many rdPo j s3).1⟩, 0) else (c0, 50)) := by unfold Hid; rw [HRC.out, HRE4.out]
              obtain ⟨E, hE⟩ : ∃ E, E = en (many rdPo j s3).2 := ⟨_, rfl⟩
              have he : endOf (many rdPo j s3).2.1 (many rdPo j s3).2.2 = E := by rw [hE]; rfl
              rw [he] at HE
              rw [← hE] at HRP
              clear he hE HRE4 HRC
              obtain ⟨c, hc⟩ : ∃ c, c = (⟨r.1, (many rdPo j s3).1⟩ : Cf) := ⟨_, rfl⟩
              have HPS : Hid (PS wr (cb + 1) sv c.ps) := by rw [hc]; exact HPW.out.ps
              have HOS : Hid (OS wr (cb + 1) ov c.os) := by rw [hc]; exact HOV.out.os
              rw [← hc] at HRP
              have HCK := Lib.hid (rcheck_any (v := .agg #[sv, ov]) ⟨_, _, rfl, HPS.out, HOS.out⟩)
              obtain ⟨sa, scap, hsv, _⟩ := HPS.out.slice
              obtain ⟨oa, ocap, hov, _⟩ := OS.slice HOS.out
              clear HMO HRR HPW HOV hc
              obtain ⟨np, hnp⟩ : ∃ np, np = c.ps.length := ⟨_, rfl⟩
              obtain ⟨no, hno⟩ : ∃ no, no = c.os.length := ⟨_, rfl⟩
              rw [← hnp] at hsv
              rw [← hno] at hov
              clear hnp hno
              subst hsv hov
              have hsz : w.heap.size ≤ wr.heap.size := by omega
              have HBN : Hid (Below w.heap.size w wr) := HBW.out.trans (HOW.out.below (by rw [HWS.out]; omega) (fun b _ hb => by omega))
              clear HBW HOW
              go_wp2_with fail
              refine HE.out.mono ?_
              rintro e w9 ⟨rfl, hw9⟩
              subst hw9
              clear HE
              cases h5 : E == 0 with
              | false =>
                have HF5 : Hid (refP xs = (c0, E)) := by unfold Hid; rw [HRP.out, if_pos (by simpa using h5)]
                have h5' : (E != 0) = true := by simp [bne, h5]
                obtain ⟨y0, y1⟩ := pz2 HRZ.out
                have g0 : wr.frozen? ⟨w.heap.size, 0, none⟩ = false := frozen_of_row _ _ 0 _ _ HRZ.out
                have g1 : wr.frozen? ⟨w.heap.size, 1, none⟩ = false := frozen_of_row _ _ 1 _ _ HRZ.out
                go_wp2_with fail
                clear y0 y1 g0 g1
                obtain ⟨e0, e1, eo⟩ := two_end (P := .slice none 0 0) (O := .slice none 0 0) HRZ.out
                refine bodyPost_ret (v := .tuple #[.agg #[.slice none 0 0, .slice none 0 0], .int .i64 E]) (by simp [results, Try.results22, go_sem, e0, e1]) rfl ?_
                exact rprs_no HF5.out HBN.out (Nat.le_refl _) eo
              | true =>
                have hE0 : E = 0 := by simpa using h5
                have HPE2 : Hid (refP xs = if may c then (c, 0) else (c0, 50)) := by unfold Hid; rw [HRP.out, if_neg (by simpa using h5)]
                clear HRP
                subst hE0
                obtain ⟨q0, q1⟩ := pz2 HCB.out
                unfold ck at HCK
                cases hm : may c with
                | false =>
                  have HF5 : Hid (refP xs = (c0, 50)) := by unfold Hid; rw [HPE2.out, hm]; rfl
                  rw [hm] at HCK
                  clear hm
                  go_wp2_with fail
                  refine HCK.out.mono ?_
                  rintro e w2 ⟨rfl, hb2⟩
                  have HB3 := Lib.hid (HBN.out.trans (hb2.mono hsz))
                  have HR3 := Lib.hid ((hb2.block w.heap.size hzl).trans HRZ.out)
                  obtain ⟨y0, y1⟩ := pz2 HR3.out
                  have g0 : w2.frozen? ⟨w.heap.size, 0, none⟩ = false := frozen_of_row _ _ 0 _ _ HR3.out
                  have g1 : w2.frozen? ⟨w.heap.size, 1, none⟩ = false := frozen_of_row _ _ 1 _ _ HR3.out
                  clear hb2 q0 q1
                  go_wp2_with fail
                  clear y0 y1 g0 g1
                  obtain ⟨e0, e1, eo⟩ := two_end (P := .slice none 0 0) (O := .slice none 0 0) HR3.out
                  refine bodyPost_ret (v := .tuple #[.agg #[.slice none 0 0, .slice none 0 0], .int .i64 50]) (by simp [results, Try.results22, go_sem, e0, e1]) rfl ?_
                  exact rprs_no HF5.out HB3.out (Nat.le_refl _) eo
                | true =>
                  have HF5 : Hid (refP xs = (c, 0)) := by unfold Hid; rw [HPE2.out, hm]; rfl
                  rw [hm] at HCK
                  clear hm
                  go_wp2_with fail
                  refine HCK.out.mono ?_
                  rintro e w2 ⟨rfl, hb2⟩
                  have HB3 := Lib.hid (HBN.out.trans (hb2.mono hsz))
                  have HR3 := Lib.hid ((hb2.block w.heap.size hzl).trans HRZ.out)
                  have HC3 := Lib.hid ((hb2.block cb hcl).trans HCB.out)
                  have HPS3 := Lib.hid (HPS.out.below hb2); have HOS3 := Lib.hid (OS.below HOS.out hb2)
                  clear hb2 q0 q1
                  obtain ⟨q0, q1⟩ := pz2 HC3.out
                  obtain ⟨y0, y1⟩ := pz2 HR3.out
                  have g0 : w2.frozen? ⟨w.heap.size, 0, none⟩ = false := frozen_of_row _ _ 0 _ _ HR3.out
                  have g1 : w2.frozen? ⟨w.heap.size, 1, none⟩ = false := frozen_of_row _ _ 1 _ _ HR3.out
                  go_wp2_with fail
                  clear y0 y1 g0 g1 q0 q1
                  obtain ⟨e0, e1, eo⟩ := two_end (P := .slice sa np scap) (O := .slice oa no ocap) HR3.out
                  refine bodyPost_ret (v := .tuple #[.agg #[.slice sa np scap, .slice oa no ocap], .int .i64 0]) (by simp [results, Try.results22, go_sem, e0, e1]) rfl ?_
                  refine ⟨_, by rw [HF5.out], ?_, HB3.out.trans (eo.below (by have := HB3.out.size; omega) (fun k _ hk => by omega))⟩
                  rw [HF5.out]
                  exact ⟨_, _, rfl, (HPS3.out.keep (Kp.only eo (fun b hb => by omega))).mono (by omega), SS.mono (SS.keep HOS3.out (Kp.only eo (fun b hb => by omega))) (by omega)⟩
end Go.Proofs.Ythbhkcofhhkcoaa
