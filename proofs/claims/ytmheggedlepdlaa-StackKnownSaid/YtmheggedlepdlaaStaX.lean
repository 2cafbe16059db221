/- The program's stack and the document's: same. -/
import Derived.Test.YtmheggedlepdlaaStaW
import Derived.Test.YtmheggedlepdlaaStaQ
namespace Go.Proofs.Ytmheggedlepdlaa
open Go.RowKit Lv Sk Go.Sort
set_option linter.unusedVariables false

theorem NR.form {w : World} {C : Nat} {a : Option Addr} {n cap : Nat} {xs : List Int} (h : NR w C (.slice a n cap) xs) (hn : 0 < xs.length) : ∃ g, a = some ⟨g, 0, none⟩ ∧ C ≤ g ∧ n = xs.length := by
  rcases h.2 with ⟨_, h0⟩ | ⟨g, cap', cur, e, hb, _⟩
  · omega
  · injection e with e1 e2 _
    exact ⟨g, e1, hb, e2⟩
section
variable {B : Nat} {W w w' : World} {sb mb n : Nat} {z : Nat → Nat → Int} {l m : List En}
theorem tw_top (h : TW B W w sb mb n z l m) {x : Int} {b : Bool} (h1 : topT l = x) (h2 : topB l = b) : Calls Try.prog 23 #[.pointer (some ⟨sb, 0, none⟩)] w (TopP x b w) := by
  obtain ⟨_, _, _, _, h⟩ := h
  subst h1; subst h2
  exact top_any h.so (by have := h.okl.1.len; omega)
theorem tw_rtop (h : TW B W w sb mb n z l m) {x : Int} {b : Bool} (h1 : topT m = x) (h2 : topB m = b) : Calls Try.prog 28 #[.pointer (some ⟨mb, 0, none⟩)] w (TopP x b w) := by
  obtain ⟨_, _, _, _, h⟩ := h
  subst h1; subst h2
  exact rtop_any h.ro.rs (by have := h.okm.1.len; omega)
theorem tw_cls (h : TW B W w sb mb n z l m) {x : Int} (h1 : cls (ceil n (dl z) (lo z)) l l.length = x) : Calls Try.prog 22 #[.pointer (some ⟨sb, 0, none⟩)] w (YI x w) := by
  obtain ⟨_, _, _, _, h⟩ := h
  subst h1
  exact cls_any h.so (by have := h.okl.1.len; omega) (by have := h.n4; omega)
theorem tw_rcls (h : TW B W w sb mb n z l m) {x : Int} (h1 : cls (ceil n (dl z) (lo z)) m m.length = x) : Calls Try.prog 29 #[.pointer (some ⟨mb, 0, none⟩)] w (YI x w) := by
  obtain ⟨_, _, _, _, h⟩ := h
  subst h1
  exact rcls_any h.ro.rs (by have := h.okm.1.len; omega) (by have := h.n4; omega)
theorem tw_len (h : TW B W w sb mb n z l m) {x : Nat} (h1 : l.length = x) : Calls Try.prog 20 #[.pointer (some ⟨sb, 0, none⟩)] w (YI x w) := by
  obtain ⟨_, _, _, _, h⟩ := h
  subst h1
  exact len_any h.so
theorem tw_rlen (h : TW B W w sb mb n z l m) {x : Nat} (h1 : m.length = x) : Calls Try.prog 30 #[.pointer (some ⟨mb, 0, none⟩)] w (YI x w) := by
  obtain ⟨_, _, _, _, h⟩ := h
  subst h1
  exact rlen_any h.ro.rs
theorem tw_held (h : TW B W w sb mb n z l m) (t : Int) {xs : List Int} (hx : held l t = xs) : Calls Try.prog 19 #[.pointer (some ⟨sb, 0, none⟩), .int .i64 t] w (HeldP w xs) := by
  obtain ⟨_, _, _, _, h⟩ := h
  subst hx
  exact held_any h.so (by have := h.okl.1.len; omega) t
theorem tw_rheld (h : TW B W w sb mb n z l m) (t : Int) {xs : List Int} (hx : held m t = xs) : Calls Try.prog 31 #[.pointer (some ⟨mb, 0, none⟩), .int .i64 t] w (HeldP w xs) := by
  obtain ⟨_, _, _, _, h⟩ := h
  subst hx
  exact rheld_any h.ro.rs (by have := h.okm.1.len; omega) t
end
set_option maxHeartbeats 4000000 in
theorem same_any {B : Nat} {W w : World} {sb mb n : Nat} {z : Nat → Nat → Int} {l : List En} (h : TW B W w sb mb n z l l) :
    Calls Try.prog 10 #[.pointer (some ⟨sb, 0, none⟩), .pointer (some ⟨mb, 0, none⟩)] w (TrueB w) := by
  obtain ⟨T, hT⟩ : ∃ T, topT l = T := ⟨_, rfl⟩
  obtain ⟨Bt, hB⟩ : ∃ Bt, topB l = Bt := ⟨_, rfl⟩
  obtain ⟨C, hC⟩ : ∃ C, cls (ceil n (dl z) (lo z)) l l.length = C := ⟨_, rfl⟩
  obtain ⟨L, hL⟩ : ∃ L, l.length = L := ⟨_, rfl⟩
  have HTT := Lib.hid hT
  have HBB := Lib.hid hB
  have HCC := Lib.hid hC
  have HLL := Lib.hid hL
  have H0 := Lib.hid h
  have HH4 := Lib.hid h.ok.2
  clear hT hB hC hL h
  go_enter Try.func10, Try.ntmps10
  go_wp2_with fail
  refine (tw_top H0.out HTT.out HBB.out).mono ?_
  rintro e w1 ⟨rfl, hb⟩
  have HB1 := Lib.hid hb
  clear hb
  go_wp2_with fail
  refine (tw_rtop (H0.out.below HB1.out) HTT.out HBB.out).mono ?_
  rintro e w2 ⟨rfl, hb⟩
  have HB2 := Lib.hid (chn HB1.out hb)
  clear hb
  go_wp2_with fail
  refine (tw_cls (H0.out.below HB2.out) HCC.out).mono ?_
  rintro e w3 ⟨rfl, hb⟩
  have HB3 := Lib.hid (chn HB2.out hb)
  clear hb
  go_wp2_with fail
  refine (tw_rcls (H0.out.below HB3.out) HCC.out).mono ?_
  rintro e w4 ⟨rfl, hb⟩
  have HB4 := Lib.hid (chn HB3.out hb)
  clear hb
  go_wp2_with fail
  refine (tw_len (H0.out.below HB4.out) HLL.out).mono ?_
  rintro e w5 ⟨rfl, hb⟩
  have HB5 := Lib.hid (chn HB4.out hb)
  clear hb
  go_wp2_with fail
  refine (tw_rlen (H0.out.below HB5.out) HLL.out).mono ?_
  rintro e w6 ⟨rfl, hb⟩
  have HB6 := Lib.hid (chn HB5.out hb)
  clear hb HB1 HB2 HB3 HB4 HB5
  go_wp2_with fail
  go_loopw [9] (fun i wr => ∃ I : Int, -1 ≤ I ∧ I ≤ 5 ∧ i = .int .i64 I ∧ Hid (Below w.heap.size w wr)) (fun i _ => (5 - intOf i).toNat)
  case atStart => exact ⟨-1, by omega, by omega, rfl, HB6.out⟩
  case round =>
    clear HB6
    obtain ⟨I, hI1, hI2, rfl, HBr⟩ := hrel
    have HX := Lib.hid (H0.out.below HBr.out)
    by_cases hI5 : I < 5
    · have hd : decide (I < 5) = true := by simpa using hI5
      obtain ⟨xs, hxs⟩ : ∃ xs, held l I = xs := ⟨_, rfl⟩
      have HXS := Lib.hid hxs
      have hxl : xs.length ≤ 4 := by rw [← hxs]; exact HH4.out I
      clear hxs
      go_wp2_with fail
      refine (tw_held HX.out I HXS.out).mono ?_
      rintro e w7 ⟨rv, rfl, hn7, hb7⟩
      have HN7 := Lib.hid hn7
      obtain ⟨ra, rc, rfl⟩ := hn7.is_form
      have HB7 := Lib.hid hb7
      clear hn7 hb7
      go_wp2_with fail
      refine (tw_rheld (HX.out.below HB7.out) I HXS.out).mono ?_
      rintro e w8 ⟨rv, rfl, hn8, hb8⟩
      have HN8 := Lib.hid hn8
      have HN7b := Lib.hid (NR.kept HN7.out hb8)
      have HB8 := Lib.hid (chn HB7.out hb8)
      clear hn8 hb8 HN7
      go_wp2_with fail
      refine (eqs_any HN7b.out.is HN8.out.is (by omega)).mono ?_
      rintro e w9 ⟨rfl, hb9⟩
      have HN9 := Lib.hid (NR.kept HN7b.out hb9)
      have HB9 := Lib.hid (HBr.out.trans ((chn HB8.out hb9).mono HBr.out.size))
      obtain ⟨C0, hC0⟩ : ∃ C0, wr.heap.size = C0 := ⟨_, rfl⟩
      have HZ : Hid (w.heap.size ≤ C0) := by rw [← hC0]; exact HBr.out.size
      obtain ⟨m, hm⟩ : ∃ m, m = xs.length := ⟨_, rfl⟩
      have HM := Lib.hid hm
      rw [← hm] at HN9 hxl ⊢
      rw [hC0] at HN9
      clear hb9 HN7b HN8 HB7 HB8 hm hC0
      go_wp2_with fail
      go_loopw [11] (fun i wi => ∃ (k : Nat) (ys : List Int), k ≤ m ∧ i = .int .i64 k ∧ Hid (ys.length = m) ∧ Hid (NR wi C0 (.slice ra m rc) ys) ∧ Hid (Below w.heap.size w wi)) (fun i _ => m - (intOf i).toNat)
      case atStart => exact ⟨0, xs, Nat.zero_le _, rfl, HM.out.symm, HN9.out, HB9.out⟩
      case round =>
        clear HN9 HB9
        obtain ⟨k, ys, hk, rfl, HY, HN, HBi⟩ := hrel
        by_cases hkm : k < m
        · obtain ⟨g, rfl, hg, _⟩ := HN.out.form (by rw [HY.out]; omega)
          have hn := HN.out
          unfold NR at hn
          rw [HY.out] at hn
          have s1 : wr.cell? ⟨g, k, none⟩ = some (.int .i64 (ys.getD k 0)) := by
            rw [World.ownsRow.cellAt hn k (by omega)]
            exact nums_at ys k (by rw [HY.out]; exact hkm)
          have s2 : wr.frozen? ⟨g, k, none⟩ = false := World.ownsRow.frozenAt hn k
          have HN2 : Hid (NR (wr.setCell ⟨g, k, none⟩ (.int .i64 (-1))) C0 (.slice (some ⟨g, 0, none⟩) m rc) (ys.set k (-1))) := by
            unfold Hid NR
            rw [List.length_set, HY.out]
            have := (World.ownsRow.stored hn k (.int .i64 (-1))).1
            unfold nums at this ⊢
            rw [List.map_set]
            exact this
          have HY2 : Hid ((ys.set k (-1)).length = m) := by unfold Hid; rw [List.length_set]; exact HY.out
          have HB2 : Hid (Below w.heap.size w (wr.setCell ⟨g, k, none⟩ (.int .i64 (-1)))) := HBi.out.setCell (Nat.le_trans HZ.out hg) _
          generalize ys.getD k 0 = y0 at *
          have hk0 : (0 : Int) ≤ k := by omega
          have hkI : (k : Int) < (m : Int) := by omega
          clear hn hg HN HY HBi
          go_wp2_with fail
          go_roundw
          case rel => exact ⟨k + 1, _, by omega, by go_num, HY2.out, HN2.out, HB2.out⟩
          case measure => simp [intOf]; omega
        · obtain rfl : k = m := by omega
          go_wp2_with fail
          go_roundw
          case rel => exact ⟨I + 1, by omega, by omega, rfl, HBi.out⟩
          case measure => simp [intOf]; omega
    · obtain rfl : I = 5 := by omega
      go_wp2_with fail
      go_ret
      exact ⟨rfl, HBr.out⟩
end Go.Proofs.Ytmheggedlepdlaa
