/- The document's stack: Unlock. -/
import Derived.Test.YtmheggedlepdlaaStaD
namespace Go.Proofs.Ytmheggedlepdlaa
open Go.RowKit Lv Sk Go.Sort
set_option linter.unusedVariables false

theorem own_base {w : World} {B C e size n : Nat} {v : Value} {xs : List Value} (h : w.ownsRow B e size v n xs) (hC : C ≤ B) : w.ownsRow C e size v n xs := by
  refine ⟨h.1, ?_⟩
  rcases h.2 with hn | ⟨g, cap, cur, rfl, hb, rest⟩
  · exact Or.inl hn
  · exact Or.inr ⟨g, cap, cur, rfl, by omega, rest⟩
/-- other entries, laid anew -/
theorem RO.anew {w w1 : World} {mb n : Nat} {z : Nat → Nat → Int} {l l' : List En} {tv lv v' : Value} (h : RO w mb n z l tv lv) (q : Below w.heap.size w w1)
    (hown : w1.ownsRow w.heap.size 76 2 v' l'.length (ecells l')) :
    RO (w1.setCell ⟨mb, 1, none⟩ v') mb n z l' tv v' ∧ Only (SB mb lv) w (w1.setCell ⟨mb, 1, none⟩ v') ∧ Mv w lv v' := by
  have h' := h.below q
  have hml := lt_of_block h.ob
  have hvl : ∀ k, v'.ownBlock = some k → w.heap.size ≤ k := fun k hk => (hown.lt k hk).1
  refine ⟨⟨heap_setCell_same w1 mb 1 _ _ v' h'.ob, ?_, ?_, ?_, ?_⟩, ⟨q.os, q.tape, q.output, ?_, ?_⟩, fun k hk => Or.inr (hvl k hk)⟩
  · exact h'.tk.keep fun k hk => Below.heap_setCell _ _ _ _ (h'.tb k hk).1
  · intro k hk
    exact ⟨(h'.tb k hk).1, by have := (h'.tb k hk).2; simp [World.setCell]; omega⟩
  · exact (own_base hown (show mb + 1 ≤ w.heap.size by omega)).kept (row := some mb) ⟨rfl, rfl, rfl, by simp [World.setCell], fun k hk hne => Below.heap_setCell _ _ _ _ (fun e => hne (by rw [e]))⟩ (Or.inr fun e => by have := hvl mb e; omega)
  · intro k hk e
    have h1 := hvl k hk
    have h2 := (h.tb k e).2
    omega
  · have := q.size; simp [World.setCell]; omega
  · intro k hk hS
    exact (Below.heap_setCell _ _ _ _ (fun e => hS (Or.inl e))).trans (q.block k hk)
theorem ecells_take (l : List En) (i : Nat) : (ecells l).take (i * 2) = ecells (l.take i) := by
  induction l generalizing i with
  | nil => simp [ecells]
  | cons e l ih =>
    cases i with
    | zero => simp [ecells]
    | succ i =>
      rw [show (i + 1) * 2 = i * 2 + 1 + 1 by omega]
      have hc : ecells (e :: l) = .int .i64 e.1 :: .int .i64 e.2 :: ecells l := rfl
      have hd : ecells (e :: l.take i) = .int .i64 e.1 :: .int .i64 e.2 :: ecells (l.take i) := rfl
      rw [hc, List.take_succ_cons, List.take_succ_cons, ih, List.take_succ_cons, hd]
theorem ecells_drop (l : List En) (i : Nat) : (ecells l).drop (i * 2) = ecells (l.drop i) := by
  induction l generalizing i with
  | nil => simp [ecells]
  | cons e l ih =>
    cases i with
    | zero => simp [ecells]
    | succ i =>
      rw [show (i + 1) * 2 = i * 2 + 1 + 1 by omega]
      have hc : ecells (e :: l) = .int .i64 e.1 :: .int .i64 e.2 :: ecells l := rfl
      rw [hc, List.drop_succ_cons, List.drop_succ_cons, ih, List.drop_succ_cons]
theorem ecells_one (l : List En) : ∀ u ∈ ecells l, u.oneCell' = true := by
  intro u hu
  simp only [ecells, List.mem_flatMap, List.mem_cons, List.not_mem_nil, or_false] at hu
  obtain ⟨e, _, rfl | rfl⟩ := hu <;> rfl
/-- entries behind entries of the call's own, read where they lie -/
theorem app_ents {w : World} {C : Nat} {v : Value} {l k : List En} (hown : w.ownsRow C 76 2 v l.length (ecells l)) {ad : Addr} {c : Nat} (hk : ∀ j u, (ecells k)[j]? = some u → w.cell? (ad.add j) = some u) (hB : C ≤ w.heap.size) (hl : l.length + k.length ≤ 1000) (ty : TypeId) :
    ∃ v' w', (Builtin.append_ #[58, 58] ty #[v, .slice (some ad) k.length c]).run Try.prog w = .ok v' w' ∧ w'.ownsRow C 76 2 v' (l ++ k).length (ecells (l ++ k)) ∧ Below C w w' := by
  obtain ⟨i0, hi, hz0, hz1, hz2⟩ := info_parts infoEn
  obtain ⟨v', w', hrun, hown', hgr, _⟩ := run_append_own (P := Try.prog) w C 58 ty 76 i0 _ 2 16 Try.underlying58 hi hz0 hz1 hz2 rfl (by decide) v l.length _ hown ad k.length c (ecells k) (ecells_len k) hk (ecells_one k) (by unfold maxLen; omega) (by omega) hB
  refine ⟨v', w', hrun, ?_, (Below.refl C w).grown hgr hB (fun j e => (World.ownsRow.lt hown j e).1)⟩
  rw [List.length_append, ecells_append]
  exact hown'
/-- a number and an error are answered, the entries are these -/
theorem unl_go {l : List En} {t : Int} {k : Nat} (h : (l.getD k e0).1 ≠ t) : unl l t (k + 1) = unl l t k := by
  conv => lhs; unfold unl
  rw [if_neg h]
theorem unl_at {l : List En} {t : Int} {k : Nat} (h : (l.getD k e0).1 = t) : unl l t (k + 1) = some k := by
  unfold unl
  rw [if_pos h]
def unlV (n : Nat) (l : List En) (t : Int) : Value := .tuple #[.int .i64 (if 0 ≤ t ∧ t < n then unlR l t else 0), .int .i64 (unlE n l t)]
def unlN (n : Nat) (l : List En) (t : Int) : List En := if 0 ≤ t ∧ t < n then unlL l t else l
set_option maxHeartbeats 4000000 in
theorem runl_any {w : World} {mb n : Nat} {z : Nat → Nat → Int} {l : List En} {tv lv : Value} (h : RO w mb n z l tv lv) (hl : l.length ≤ 900) (hn : n ≤ 1000) (t : Int) :
    Calls Try.prog 26 #[.pointer (some ⟨mb, 0, none⟩), .int .i64 t] w (StP w mb n z tv lv (unlV n l t) (unlN n l t)) := by
  obtain ⟨ta, tcap, rfl, ht1, ht2⟩ := h.tk.slice
  obtain ⟨a, cap, rfl, hn1, hn2⟩ := h.rs.es.slice
  obtain ⟨c0, c1⟩ := h.rs.cells
  have HP := Lib.hid h
  obtain ⟨m, hm⟩ : ∃ m, m = l.length := ⟨_, rfl⟩
  have HM := Lib.hid hm
  have hmx : m ≤ 9223372036854775807 := by omega
  rw [← hm] at hl hn1 HP c1 ⊢
  clear h hm
  cases h0 : decide (t < 0) with
  | true =>
    have HE : Hid (unlV n l t = .tuple #[.int .i64 0, .int .i64 9] ∧ unlN n l t = l) := by
      have hh : ¬ (0 ≤ t ∧ t < (n : Int)) := by have := of_decide_eq_true h0; omega
      exact ⟨by unfold unlV unlE; rw [if_neg hh, if_neg hh], if_neg hh⟩
    go_enter Try.func26, Try.ntmps26
    go_wp2_with fail
    go_ret2
    rw [HE.out.1, HE.out.2]
    exact StP.same HP.out (Below.refl _ _)
  | false =>
  have ht0 : 0 ≤ t := by have := of_decide_eq_false h0; omega
  by_cases h1 : (n : Int) ≤ t
  · have HE : Hid (unlV n l t = .tuple #[.int .i64 0, .int .i64 9] ∧ unlN n l t = l) := by
      have hh : ¬ (0 ≤ t ∧ t < (n : Int)) := by omega
      exact ⟨by unfold unlV unlE; rw [if_neg hh, if_neg hh], if_neg hh⟩
    have hd : decide ((n : Int) ≤ t) = true := by simpa using h1
    go_enter Try.func26, Try.ntmps26
    go_wp2_with fail
    go_ret2
    rw [HE.out.1, HE.out.2]
    exact StP.same HP.out (Below.refl _ _)
  have hlt : t < (n : Int) := by omega
  have hd : decide ((n : Int) ≤ t) = false := by simp; omega
  have HV : Hid (unlV n l t = .tuple #[.int .i64 (unlR l t), .int .i64 (unlE n l t)] ∧ unlN n l t = unlL l t) := ⟨by unfold unlV; rw [if_pos ⟨ht0, hlt⟩], if_pos ⟨ht0, hlt⟩⟩
  have HU : Hid (unlE n l t = match unl l t l.length with | some _ => 0 | none => 132) := if_pos ⟨ht0, hlt⟩
  go_enter Try.func26, Try.ntmps26
  go_wp2_with fail
  go_loopw [6] (fun i wr => ∃ k : Nat, k ≤ m ∧ i = .int .i64 ((k : Int) - 1) ∧ Hid (unl l t m = unl l t k) ∧ Hid (Below w.heap.size w wr)) (fun i _ => (intOf i + 1).toNat)
  case atStart => exact ⟨m, Nat.le_refl _, rfl, rfl, Below.refl _ _⟩
  case round =>
    obtain ⟨k, hk, rfl, HN, HB⟩ := hrel
    have HPr := Lib.hid (HP.out.below HB.out)
    obtain ⟨c0, c1⟩ := HPr.out.rs.cells
    cases k with
    | zero =>
      have HE : Hid (unlV n l t = .tuple #[.int .i64 0, .int .i64 132] ∧ unlN n l t = l) := by
        have hu : unl l t l.length = none := by rw [← HM.out, HN.out]; rfl
        have h1 := HU.out
        rw [hu] at h1
        refine ⟨?_, ?_⟩
        · rw [HV.out.1, h1]; unfold unlR; rw [hu]
        · rw [HV.out.2]; unfold unlL; rw [hu]
      clear HV HU HN
      go_wp2_with fail
      go_ret2
      rw [HE.out.1, HE.out.2]
      exact StP.same HP.out HB.out
    | succ k =>
      have hkm : k < m := by omega
      have hki : ((k + 1 : Nat) : Int) - 1 = k := by omega
      rw [hki]
      obtain ⟨b, off, rfl, d0, d1⟩ := HPr.out.rs.es.at hkm
      by_cases hx : (l.getD k e0).1 = t
      · obtain ⟨rfl, hcells⟩ : off = 0 ∧ ∀ j u, (ecells l)[j]? = some u → wr.cell? ((⟨b, 0, none⟩ : Addr).add j) = some u := by
          have hw := HPr.out.ow
          have hc := fun g => World.ownsRow.cells hw (g := g)
          rcases hw.2 with ⟨e, _⟩ | ⟨g, cap', cur, e, _⟩
          · simp at e
          · simp at e
            obtain ⟨⟨rfl, rfl⟩, _⟩ := e
            exact ⟨rfl, hc _ rfl⟩
        simp only [Nat.zero_add] at d0 d1
        have HE : Hid (unlV n l t = .tuple #[.int .i64 (l.getD k e0).2, .int .i64 0] ∧ unlN n l t = l.take k ++ l.drop (k + 1)) := by
          have hu : unl l t l.length = some k := by rw [← HM.out, HN.out]; exact unl_at hx
          have h1 := HU.out
          rw [hu] at h1
          refine ⟨?_, ?_⟩
          · rw [HV.out.1, h1]; unfold unlR; rw [hu]
          · rw [HV.out.2]; unfold unlL; rw [hu]; rfl
        have hbl : b < w.heap.size := (HP.out.ow.lt b rfl).2
        have hlm : (l.take k).length = k := by rw [List.length_take, ← HM.out]; omega
        have hld : (l.drop (k + 1)).length = m - (k + 1) := by rw [List.length_drop, ← HM.out]
        obtain ⟨v1, w1, hrun1, hown1, hbl1⟩ := app_ents (w := wr) (C := w.heap.size) (v := .slice none 0 0) (l := []) (k := l.take k) (ad := ⟨b, 0, none⟩) (c := cap) (World.ownsRow_nil wr w.heap.size 76 2)
          (fun j u hj => by
            rw [← ecells_take, List.getElem?_take] at hj
            split at hj
            · exact hcells j u hj
            · cases hj) HB.out.size (by simp [hlm]; omega) 58
        rw [hlm] at hrun1
        have HRUN1 := Lib.hid hrun1
        have HB1 := Lib.hid (HB.out.trans hbl1)
        have HP1 := Lib.hid (HP.out.below HB1.out)
        obtain ⟨e0', e1'⟩ := HP1.out.rs.cells
        rw [List.nil_append] at hown1
        obtain ⟨ov, oc, hov⟩ := own_slice hown1
        rw [hlm] at hov
        subst hov
        have hown1' : w1.ownsRow w.heap.size 76 2 (.slice ov k oc) (l.take k).length (ecells (l.take k)) := hown1
        clear hrun1
        rw [hx] at d0
        generalize (l.getD k e0).2 = y at *
        clear hx HN HV HU
        have hkc : k + 1 ≤ cap := by omega
        by_cases hcc : cap = k + 1
        · obtain ⟨v2, w2, hrun2, hown2, hbl2⟩ := app_ents (w := w1) (C := w.heap.size) (v := .slice ov k oc) (l := l.take k) (k := l.drop (k + 1)) (ad := ⟨b, 0, none⟩) (c := 0) hown1'
            (fun j u hj => by
              rw [show l.drop (k + 1) = [] from List.eq_nil_of_length_eq_zero (by rw [hld]; omega)] at hj
              simp [ecells] at hj) HB1.out.size (by rw [hlm, hld]; omega) 58
          rw [hld] at hrun2
          have HPUT := Lib.hid (RO.anew HP.out (HB1.out.trans hbl2) hown2)
          have hob3 := (hbl2.block mb (lt_of_block HP.out.ob)).trans HP1.out.ob
          have s1 : w2.cell? ⟨mb, 0 + 1, none⟩ = some (.slice (some ⟨b, 0, none⟩) m cap) := cell_of_row _ _ 1 _ _ _ hob3
          have s2 : w2.frozen? ⟨mb, 0 + 1, none⟩ = false := frozen_of_row _ _ _ _ _ hob3
          obtain ⟨va, vcap, hv2⟩ := own_slice hown2
          obtain ⟨q, hq⟩ : ∃ q, q = (l.take k ++ l.drop (k + 1)).length := ⟨_, rfl⟩
          rw [← hq] at hv2
          clear hq
          subst hv2
          have HRUN2 := Lib.hid hrun2
          clear hrun2 hown2 hbl2 hob3 hown1 hown1' hcells hbl1 HM HP1 HB1 HPr HB hlm hld
          go_wp2_with (first
            | (at_builtin; refine wpList_append_eq rfl (.tmp 48) (.tmp 54) 58 58 rfl _ _ _ _ rfl rfl HRUN1.out ?_)
            | (at_builtin; refine wpList_append_eq rfl (.tmp 57) (.tmp 64) 58 58 rfl _ _ _ _ rfl rfl HRUN2.out ?_))
          go_ret2
          rw [HE.out.1, HE.out.2]
          exact ⟨rfl, _, HPUT.out⟩
  
        · obtain ⟨v2, w2, hrun2, hown2, hbl2⟩ := app_ents (w := w1) (C := w.heap.size) (v := .slice ov k oc) (l := l.take k) (k := l.drop (k + 1)) (ad := ⟨b, (k + 1) * 2, none⟩) (c := cap - (k + 1)) hown1'
            (fun j u hj => by
              rw [← ecells_drop, List.getElem?_drop] at hj
              have := hcells _ _ hj
              rw [Addr.add_lit] at this ⊢
              simp only [Nat.zero_add] at this
              exact (hbl1.cell hbl).trans this) HB1.out.size (by rw [hlm, hld]; omega) 58
          rw [hld] at hrun2
          have HPUT := Lib.hid (RO.anew HP.out (HB1.out.trans hbl2) hown2)
          have hob3 := (hbl2.block mb (lt_of_block HP.out.ob)).trans HP1.out.ob
          have s1 : w2.cell? ⟨mb, 0 + 1, none⟩ = some (.slice (some ⟨b, 0, none⟩) m cap) := cell_of_row _ _ 1 _ _ _ hob3
          have s2 : w2.frozen? ⟨mb, 0 + 1, none⟩ = false := frozen_of_row _ _ _ _ _ hob3
          obtain ⟨va, vcap, hv2⟩ := own_slice hown2
          obtain ⟨q, hq⟩ : ∃ q, q = (l.take k ++ l.drop (k + 1)).length := ⟨_, rfl⟩
          rw [← hq] at hv2
          clear hq
          subst hv2
          have HRUN2 := Lib.hid hrun2
          clear hrun2 hown2 hbl2 hob3 hown1 hown1' hcells hbl1 HM HP1 HB1 HPr HB hlm hld
          go_wp2_with (first
            | (at_builtin; refine wpList_append_eq rfl (.tmp 48) (.tmp 54) 58 58 rfl _ _ _ _ rfl rfl HRUN1.out ?_)
            | (at_builtin; refine wpList_append_eq rfl (.tmp 57) (.tmp 64) 58 58 rfl _ _ _ _ rfl rfl HRUN2.out ?_))
          go_ret2
          rw [HE.out.1, HE.out.2]
          exact ⟨rfl, _, HPUT.out⟩
      · have HN2 : Hid (unl l t m = unl l t k) := HN.out.trans (unl_go hx)
        have hx2 : ((l.getD k e0).1 == t) = false := by simpa using hx
        have hx3 : decide ((l.getD k e0).1 = t) = false := by simpa using hx
        generalize (l.getD k e0).1 = y at *
        clear HN d1
        go_wp2_with fail
        go_roundw
        case rel => exact ⟨k, by omega, by go_num, HN2, HB⟩
        case measure => simp [intOf]
end Go.Proofs.Ytmheggedlepdlaa
