/- The document's Drop. -/
import Derived.Test.YtmheggedlepdlaaStaL
namespace Go.Proofs.Ytmheggedlepdlaa
open Go.RowKit Lv Sk Go.Sort
set_option linter.unusedVariables false

set_option maxHeartbeats 4000000 in
theorem rdrop_any {w : World} {sb n : Nat} {z : Nat → Nat → Int} {l : List En} {tv lv : Value} (h : RO w sb n z l tv lv) (ok : Ok n l) (hn : n ≤ 1000) (t : Int) :
    Calls Try.prog 27 #[.pointer (some ⟨sb, 0, none⟩), .int .i64 t] w (RrpP w sb n z tv lv (held l t).reverse (drp l t)) := by
  have HD := Lib.hid (RrpB.start h ok t)
  have HSB := Lib.hid (lt_of_block h.ob)
  have hk8 : (held l t).length ≤ 8 := by have := ok.len; have := held_len l t; omega
  obtain ⟨q, hq⟩ : ∃ q, q = (held l t).length := ⟨_, rfl⟩
  rw [← hq] at HD hk8
  clear h ok hq
  go_enter Try.func27, Try.ntmps27
  go_wp2_with fail
  obtain ⟨D, hD⟩ : ∃ D : Value → Nat, ∀ a m c, D (.slice a m c) = 20 - m := ⟨fun v => match v with | .slice _ m _ => 20 - m | _ => 0, fun _ _ _ => rfl⟩
  go_loopw [5] (fun o wr => ∃ (k : Nat) (lc : List En) (lv1 : Value) (xs : List Int), k + xs.length = q ∧ Hid (RrpB w sb n z l tv lv t o k wr lc lv1 xs)) (fun o _ => D o)
  case atStart => exact ⟨q, l, lv, [], rfl, HD.out⟩
  case round =>
    clear HD
    obtain ⟨k, lc, lv1, xs, hk, HB⟩ := hrel
    obtain ⟨oa, oc, rfl⟩ := HB.out.nr.is_form
    have HH := Lib.hid (rheld_any HB.out.so.rs (by have := HB.out.ok.len; omega) t)
    have HK := Lib.hid HB.out.kk
    go_wp2_with fail
    refine HH.out.mono ?_
    rintro e w1 ⟨rv, rfl, hnr, hb1⟩
    obtain ⟨ra, rcap, rfl⟩ := hnr.is_form
    rw [HK.out]
    have HB1 := Lib.hid hb1
    clear hnr hb1 HH HK
    cases k with
    | zero =>
      have h0 : held lc t = [] := List.eq_nil_of_length_eq_zero HB.out.kk
      have hlt : ∀ j, (Value.slice oa xs.length oc).ownBlock = some j → w.heap.size ≤ j ∧ j < wr.heap.size := fun j hj => World.ownsRow.lt HB.out.nr j hj
      have HFin : Hid (RrpP w sb n z tv lv (held l t).reverse (drp l t) (.returned (.slice oa xs.length oc)) w1) := by
        refine ⟨_, rfl, ?_, lv1, ?_, HB.out.on.step HB.out.mv (Only.of_below HB1.out), HB.out.mv⟩
        · have h5 := HB.out.hs
          rw [h0] at h5
          rw [← h5]
          simpa using NR.kept HB.out.nr HB1.out
        · rw [← HB.out.dr, drp_no h0]; exact HB.out.so.below HB1.out
      clear h0 hlt
      go_wp2_with fail
      go_ret
      exact HFin.out
    | succ k =>
      have HE : Hid (∃ i, unl lc t lc.length = some i ∧ i < lc.length ∧ ∃ x ys, (held lc t).reverse = x :: ys ∧ (lc.getD i e0).2 = x ∧ (held (cut lc i) t).reverse = ys ∧ drp (cut lc i) t = drp lc t) := by
        have h1 : (held lc t).reverse.length = k + 1 := by rw [List.length_reverse]; exact HB.out.kk
        cases hr : (held lc t).reverse with
        | nil => rw [hr] at h1; cases h1
        | cons x ys => obtain ⟨i, a1, a2, a3, a4, a5⟩ := unl_of_held hr; exact ⟨i, a1, a2, x, ys, rfl, a3, a4, a5⟩
      obtain ⟨i, a1, a2, x, ys, a3, a4, a5, a6⟩ := HE.out
      have HC := Lib.hid (runl_any (HB.out.so.below HB1.out) (by have := HB.out.ok.len; omega) hn t)
      have ht : 0 ≤ t ∧ t < (n : Int) := by
        by_cases ht : 0 ≤ t ∧ t < (n : Int)
        · exact ht
        · rw [held_out HB.out.ok ht] at a3; cases a3
      have e1 : unlV n lc t = .tuple #[.int .i64 x, .int .i64 0] := by unfold unlV unlR unlE; rw [if_pos ht, if_pos ht, a1, ← a4]
      have e2 : unlN n lc t = cut lc i := by unfold unlN unlL; rw [if_pos ht, a1]
      rw [e1, e2] at HC
      have A3 : Hid ((held lc t).reverse = x :: (held (cut lc i) t).reverse) := by rw [a5]; exact a3
      have A6 := Lib.hid a6
      have hxl : xs.length ≤ 900 := by have := HB.out.xl; omega
      clear HE a1 a2 a3 a4 a5 a6 e1 e2 ht
      go_wp2_with fail
      refine HC.out.mono ?_
      rintro e w2 ⟨rfl, lv2, so, on1, mv1⟩
      have on : Only (SB sb lv1) wr w2 := (Only.of_below (S := SB sb lv1) HB1.out).trans' on1 fun j hj hS => hS
      have mv : Mv wr lv1 lv2 := Mv.step HB1.out.size (Mv.refl _ _) mv1
      have hlt : ∀ j, (Value.slice oa xs.length oc).ownBlock = some j → w.heap.size ≤ j ∧ j < wr.heap.size := fun j hj => World.ownsRow.lt HB.out.nr j hj
      have hnr2 := NR.apart HB.out.nr on fun j hj => ⟨by have := (hlt j hj).1; have := HSB.out; omega, HB.out.ap j hj⟩
      have ha : Below w2.heap.size w2 (w2.alloc (.cells #[.int .i64 x] 3)) := (Below.refl _ _).alloc (Nat.le_refl _) _
      obtain ⟨v', w3, hrun, hn3, hg3, hb3⟩ := app_num2 (w := w2.alloc (.cells #[.int .i64 x] 3)) 40 x (World.ownsRow.alloc hnr2 _) (g := w2.heap.size) (heap_alloc_new w2 _) (by have := on.size; have := HB.out.on.size; simp; omega) (by omega)
      have HRUN := Lib.hid hrun
      have HB2 := Lib.hid (HB.out.put HSB.out so on mv (cut_sub lc i) A6.out A3.out ha hn3 hg3 hb3)
      obtain ⟨ob, oc2, hov⟩ := hn3.is_form
      rw [show (xs ++ [x]).length = xs.length + 1 by simp] at hov
      subst hov
      clear hrun hn3 hg3 hb3 so on mv on1 mv1 hlt hnr2 ha HB HC A3 A6 HB1
      go_wp2_with (at_builtin; refine wpList_append_eq rfl _ _ 40 40 rfl _ _ _ _ rfl rfl HRUN.out ?_)
      go_roundw
      case rel => exact ⟨k, cut lc i, lv2, xs ++ [x], by simp; omega, HB2.out⟩
      case measure => rw [hD, hD]; omega
end Go.Proofs.Ytmheggedlepdlaa
