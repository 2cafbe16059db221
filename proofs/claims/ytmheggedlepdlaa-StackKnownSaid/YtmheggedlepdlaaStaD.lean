/- The document's stack: Lock. -/
import Derived.Test.YtmheggedlepdlaaStaC
namespace Go.Proofs.Ytmheggedlepdlaa
open Go.RowKit Lv Sk Go.Sort
set_option linter.unusedVariables false

theorem has_no {l : List En} {r : Int} (h : ∀ j, j < l.length → (l.getD j e0).2 ≠ r) : has l r = false := by
  cases hh : has l r with
  | false => rfl
  | true =>
    unfold has at hh
    simp only [List.any_eq_true, beq_iff_eq] at hh
    obtain ⟨e, he, hr⟩ := hh
    obtain ⟨j, hj, rfl⟩ := List.mem_iff_getElem.mp he
    have := h j hj
    rw [List.getD_eq_getElem?_getD, List.getElem?_eq_getElem hj] at this
    exact absurd hr this
theorem has_yes {l : List En} {r : Int} {k : Nat} (hk : k < l.length) (h : (l.getD k e0).2 = r) : has l r = true := by
  unfold has
  simp only [List.any_eq_true, beq_iff_eq]
  refine ⟨l[k], List.getElem_mem hk, ?_⟩
  rw [List.getD_eq_getElem?_getD, List.getElem?_eq_getElem hk] at h
  exact h
theorem own_slice {w : World} {B e size n : Nat} {v : Value} {xs : List Value} (h : w.ownsRow B e size v n xs) : ∃ a cap, v = .slice a n cap := by
  rcases h.2 with ⟨rfl, rfl⟩ | ⟨g, cap, cur, rfl, _⟩
  · exact ⟨none, 0, rfl⟩
  · exact ⟨_, _, rfl⟩
/-- a number is answered, the entries are these -/
def StP (w : World) (mb n : Nat) (z : Nat → Nat → Int) (tv lv : Value) (r : Value) (l' : List En) (e : Ending) (w' : World) : Prop :=
  e = .returned r ∧ ∃ lv', RO w' mb n z l' tv lv' ∧ Only (SB mb lv) w w' ∧ Mv w lv lv'
theorem StP.same {w w' : World} {mb n : Nat} {z : Nat → Nat → Int} {l : List En} {tv lv r : Value} (h : RO w mb n z l tv lv) (q : Below w.heap.size w w') : StP w mb n z tv lv r l (.returned r) w' :=
  ⟨rfl, lv, h.below q, Only.of_below q, Mv.refl w lv⟩
set_option maxHeartbeats 4000000 in
theorem rlock_any {w : World} {mb n : Nat} {z : Nat → Nat → Int} {l : List En} {tv lv : Value} (h : RO w mb n z l tv lv) (hl : l.length ≤ 900) (hn : n ≤ 1000) (t r : Int) :
    Calls Try.prog 25 #[.pointer (some ⟨mb, 0, none⟩), .int .i64 t, .int .i64 r] w (StP w mb n z tv lv (.int .i64 (lockE n (us n (lo z) r t) l t r)) (lockL n (us n (lo z) r t) l t r)) := by
  obtain ⟨ta, tcap, rfl, ht1, ht2⟩ := h.tk.slice
  obtain ⟨a, cap, rfl, hn1, hn2⟩ := h.rs.es.slice
  obtain ⟨c0, c1⟩ := h.rs.cells
  have HP := Lib.hid h
  obtain ⟨u, hu⟩ : ∃ u, u = us n (lo z) r t := ⟨_, rfl⟩
  have HU := Lib.hid (ruses_any h.tk t r)
  rw [← hu] at HU ⊢
  clear hu
  obtain ⟨m, hm⟩ : ∃ m, m = l.length := ⟨_, rfl⟩
  have HM := Lib.hid hm
  have hmx : m ≤ 9223372036854775807 := by omega
  rw [← hm] at hl hn1 HP c1 ⊢
  clear h hm
  cases h0 : decide (t < 0) with
  | true =>
    have HE : Hid (lockE n u l t r = 9 ∧ lockL n u l t r = l) := by
      have : lockE n u l t r = 9 := if_neg (by have := of_decide_eq_true h0; omega)
      exact ⟨this, by unfold lockL; rw [this]; rfl⟩
    go_enter Try.func25, Try.ntmps25
    go_wp2_with fail
    go_ret
    rw [HE.out.1, HE.out.2]
    exact StP.same HP.out (Below.refl _ _)
  | false =>
  have ht0 : 0 ≤ t := by have := of_decide_eq_false h0; omega
  by_cases h1 : (n : Int) ≤ t
  · have HE : Hid (lockE n u l t r = 9 ∧ lockL n u l t r = l) := by
      have : lockE n u l t r = 9 := if_neg (by omega)
      exact ⟨this, by unfold lockL; rw [this]; rfl⟩
    have hd : decide ((n : Int) ≤ t) = true := by simpa using h1
    have hd2 : decide (t < (n : Int)) = false := by simp; omega
    go_enter Try.func25, Try.ntmps25
    go_wp2_with fail
    go_ret
    rw [HE.out.1, HE.out.2]
    exact StP.same HP.out (Below.refl _ _)
  have hlt : t < (n : Int) := by omega
  have hd : decide ((n : Int) ≤ t) = false := by simp; omega
  have hd2 : decide (t < (n : Int)) = true := by simp; omega
  have HLE : Hid (lockE n u l t r = if u then (if has l r then 131 else if (held l t).length = 4 then 130 else 0) else 133) := if_pos ⟨ht0, hlt⟩
  cases u with
  | false =>
    have HE : Hid (lockE n false l t r = 133 ∧ lockL n false l t r = l) := by
      have : lockE n false l t r = 133 := by rw [HLE.out]; rfl
      exact ⟨this, by unfold lockL; rw [this]; rfl⟩
    clear HLE
    go_enter Try.func25, Try.ntmps25
    go_wp2_with fail
    refine HU.out.mono ?_
    rintro e w1 ⟨rfl, rfl⟩
    go_wp2_with fail
    go_ret
    rw [HE.out.1, HE.out.2]
    exact StP.same HP.out (Below.refl _ _)
  | true =>
  go_enter Try.func25, Try.ntmps25
  go_wp2_with fail
  refine HU.out.mono ?_
  rintro e w1 ⟨rfl, rfl⟩
  clear HU
  go_wp2_with fail
  go_loopw [7] (fun i wr => ∃ k : Nat, k ≤ m ∧ i = .int .i64 k ∧ Hid (∀ j, j < k → (l.getD j e0).2 ≠ r) ∧ Hid (Below w.heap.size w wr)) (fun i _ => m - (intOf i).toNat)
  case atStart => exact ⟨0, Nat.zero_le _, rfl, (fun j hj => by omega), Below.refl _ _⟩
  case round =>
    obtain ⟨k, hk, rfl, HN, HB⟩ := hrel
    have HPr := Lib.hid (HP.out.below HB.out)
    obtain ⟨c0, c1⟩ := HPr.out.rs.cells
    by_cases hkm : k < m
    · obtain ⟨b, off, rfl, d0, d1⟩ := HPr.out.rs.es.at hkm
      by_cases hx : (l.getD k e0).2 = r
      · have HE : Hid (lockE n true l t r = 131 ∧ lockL n true l t r = l) := by
          have : lockE n true l t r = 131 := by rw [HLE.out, if_pos trivial, if_pos (has_yes (by rw [← HM.out]; exact hkm) hx)]
          exact ⟨this, by unfold lockL; rw [this]; rfl⟩
        rw [hx] at d1
        clear d0 HN hx
        go_wp2_with fail
        go_ret
        rw [HE.out.1, HE.out.2]
        exact StP.same HP.out HB.out
      · have HN2 : Hid (∀ j, j < k + 1 → (l.getD j e0).2 ≠ r) := fun j hj => by
          by_cases q : j = k
          · subst q; exact hx
          · exact HN.out j (by omega)
        have hx2 : ((l.getD k e0).2 == r) = false := by simpa using hx
        have hx3 : decide ((l.getD k e0).2 = r) = false := by simpa using hx
        generalize (l.getD k e0).2 = y at *
        clear HN d0
        go_wp2_with fail
        go_roundw
        case rel => exact ⟨k + 1, by omega, by go_num, HN2, HB⟩
        case measure => simp [intOf]; omega
    · obtain rfl : k = m := by omega
      have HH : Hid (has l r = false) := has_no (by rw [← HM.out]; exact HN.out)
      have HLE2 : Hid (lockE n true l t r = if (held l t).length = 4 then 130 else 0) := by unfold Hid; rw [HLE.out, if_pos trivial, HH.out]; rfl
      have HC := Lib.hid (rheld_any HPr.out.rs (by rw [← HM.out]; omega) t)
      clear HN HLE HH
      go_wp2_with fail
      refine HC.out.mono ?_
      rintro e w2 ⟨rv, rfl, hnr, hb2⟩
      obtain ⟨ra, rcap, rfl⟩ := hnr.is_form
      have HB2 := Lib.hid (chn HB.out hb2)
      obtain ⟨q, hq⟩ : ∃ q, q = (held l t).length := ⟨_, rfl⟩
      rw [← hq] at HLE2 ⊢
      have HP2 := Lib.hid (HP.out.below HB2.out)
      obtain ⟨c0, c1⟩ := HP2.out.rs.cells
      clear hnr hb2 HC HPr HB hq
      by_cases h4 : q = 4
      · subst h4
        have HE : Hid (lockE n true l t r = 130 ∧ lockL n true l t r = l) := by
          have : lockE n true l t r = 130 := by rw [HLE2.out]; rfl
          exact ⟨this, by unfold lockL; rw [this]; rfl⟩
        go_wp2_with fail
        go_ret
        rw [HE.out.1, HE.out.2]
        exact StP.same HP.out HB2.out
      · have HE : Hid (lockE n true l t r = 0 ∧ lockL n true l t r = l ++ [(t, r)]) := by
          have : lockE n true l t r = 0 := by rw [HLE2.out, if_neg h4]
          exact ⟨this, by unfold lockL; rw [this]; rfl⟩
        have h5 : decide ((q : Int) = 4) = false := by simp; omega
        have h6 : ((q : Int) == 4) = false := by simp; omega
        obtain ⟨v', w3, hrun, hown, hgr, hbk⟩ := app_ent (w := w2.alloc (.cells #[.int .i64 t, .int .i64 r] 76)) 58 t r (World.ownsRow.alloc HP2.out.ow _) (g := w2.heap.size) (heap_alloc_new w2 _) (by have := lt_of_block HP2.out.ob; simp; omega) (by rw [← HM.out]; omega)
        obtain ⟨va, vcap, rfl⟩ := own_slice hown
        have hob3 : w3.heap[mb]? = some (.cells #[.slice ta n tcap, .slice a k cap] 60 (0, 0)) := (hgr.block mb (by have := lt_of_block HP2.out.ob; simp; omega) (fun e => by have := (HP2.out.ow.lt mb e.symm).1; omega)).trans ((Below.heap_alloc _ _ _ (lt_of_block HP2.out.ob)).trans HP2.out.ob)
        have s1 : w3.cell? ⟨mb, 0 + 1, none⟩ = some (.slice a k cap) := cell_of_row _ _ 1 _ _ _ hob3
        have s2 : w3.frozen? ⟨mb, 0 + 1, none⟩ = false := frozen_of_row _ _ _ _ _ hob3
        clear hob3
        have HRUN := Lib.hid hrun
        have HPUT := Lib.hid (RO.put HP.out (HB2.out.alloc HB2.out.size _) (by rw [← HM.out] at hown ⊢; exact hown) hgr hbk)
        clear hrun hown hgr hbk h4 HLE2
        go_wp2_with (at_builtin; refine wpList_append_eq rfl _ _ 58 58 rfl _ _ _ _ rfl rfl HRUN.out ?_)
        go_ret
        rw [HE.out.1, HE.out.2]
        exact ⟨rfl, _, HPUT.out⟩
end Go.Proofs.Ytmheggedlepdlaa
