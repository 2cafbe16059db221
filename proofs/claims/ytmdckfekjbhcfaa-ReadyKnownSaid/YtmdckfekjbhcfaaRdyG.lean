/- The program's queue and the document's, beside each other; same. -/
import Derived.Test.YtmdckfekjbhcfaaRdyF
import Derived.Deep.RegionHeld3
namespace Go.Proofs.Ytmdckfekjbhcfaa
open Go.RowKit Rk Rd Go.Sort
set_option linter.unusedVariables false

/-- both, apart -/
structure TX (B : Nat) (W w : World) (qb mb : Nat) (L M : List Int) (lv : Value) (rb hb g : Nat) : Prop where
  q : QS w qb rb hb g L
  d : DQ w mb B M lv
  okm : Gd M
  b : B ≤ qb ∧ B ≤ rb ∧ B ≤ hb ∧ B ≤ g ∧ B ≤ mb
  bel : Below B W w
  ap : mb ≠ hb ∧ mb ≠ g
  al : ∀ k, lv.ownBlock = some k → k ≠ qb ∧ k ≠ rb ∧ k ≠ hb ∧ k ≠ g
/-- they are -/
def TW (B : Nat) (W w : World) (qb mb : Nat) (L M : List Int) : Prop := ∃ lv rb hb g, TX B W w qb mb L M lv rb hb g
section
variable {B : Nat} {W w w' : World} {qb mb : Nat} {L M L' M' : List Int} {lv : Value} {rb hb g : Nat}
theorem TX.bsz (h : TX B W w qb mb L M lv rb hb g) : B ≤ w.heap.size := by have := h.q.lt; have := h.b; omega
theorem TX.p {v : Value} {e : Ending} (h : TX B W w qb mb L M lv rb hb g) (o : QP v qb rb hb g L' w e w') : ∃ g', TX B W w' qb mb L' M lv rb hb g' := by
  obtain ⟨_, ⟨g', h1, h2⟩, h3⟩ := o
  have hs := h.bsz
  obtain ⟨b1, b2, b3, b4, b5⟩ := h.b
  obtain ⟨a1, a2⟩ := h.ap
  have hm := h.d.lt
  refine ⟨g', h1, h.d.only h3 (fun e => by rcases e with e | e; · exact a1 e
                                           · exact a2 e) (fun k hk e => ?_), h.okm, ⟨b1, b2, b3, by omega, b5⟩, h.bel.trans (h3.below hs fun k _ hk => ?_), ⟨a1, by omega⟩, fun k hk => ?_⟩
  · obtain ⟨_, _, q1, q2⟩ := h.al k hk
    rcases e with e | e
    · exact q1 e
    · exact q2 e
  · rcases hk with rfl | rfl
    · exact b3
    · exact b4
  · obtain ⟨q0, q1, q2, q3⟩ := h.al k hk
    have := (World.ownsRow.lt h.d.ow k hk).2
    exact ⟨q0, q1, q2, by omega⟩
theorem TX.dd {v : Value} {e : Ending} (h : TX B W w qb mb L M lv rb hb g) (ok : Gd M') (o : DP v mb B M' lv w e w') : TX B W w' qb mb L M' lv rb hb g := by
  obtain ⟨_, h1, h3⟩ := o
  have hs := h.bsz
  refine ⟨h.q.only h3 (fun e => (h.al _ e).1 rfl) (fun e => (h.al _ e).2.1 rfl) (fun e => (h.al _ e).2.2.1 rfl) (fun e => (h.al _ e).2.2.2 rfl), h1, ok, h.b, h.bel.trans (h3.below hs fun k _ hk => (World.ownsRow.lt h.d.ow k hk).1), h.ap, h.al⟩
theorem TX.below (h : TX B W w qb mb L M lv rb hb g) (q : Below w.heap.size w w') : TX B W w' qb mb L M lv rb hb g := ⟨h.q.below q, h.d.below q, h.okm, h.b, h.bel.trans (q.mono h.bsz), h.ap, h.al⟩
theorem TX.new (h : TX B W w qb mb L M lv rb hb g) : ¬ Two hb g w.heap.size ∧ ¬ lv.ownBlock = some w.heap.size := by
  refine ⟨fun e => ?_, fun e => ?_⟩
  · have h1 := h.q.k.lt1
    have h2 := h.q.k.lt2
    rcases e with e | e <;> omega
  · have := (World.ownsRow.lt h.d.ow _ e).2
    omega
theorem TW.below (h : TW B W w qb mb L M) (q : Below w.heap.size w w') : TW B W w' qb mb L M := by obtain ⟨_, _, _, _, h⟩ := h; exact ⟨_, _, _, _, h.below q⟩
theorem TW.bel (h : TW B W w qb mb L M) : Below B W w := by obtain ⟨_, _, _, _, h⟩ := h; exact h.bel
theorem tx_put (h : TX B W w qb mb L M lv rb hb g) (t d : Int) {x : Int} (h1 : qE L t d = x) (h2 : qL L t d = L') : Calls Try.prog 10 #[.pointer (some ⟨qb, 0, none⟩), .int .i64 t, .int .i64 d] w (fun e w' => e = .returned (.int .i64 x) ∧ (∃ g', TX B W w' qb mb L' M lv rb hb g') ∧ Only (Two hb g) w w') := by
  subst h1; subst h2
  exact (qput_any h.q t d).mono fun e w' o => ⟨o.1, h.p o, o.2.2⟩
theorem tx_rput (h : TX B W w qb mb L M lv rb hb g) (t d : Int) {x : Int} (h1 : qE M t d = x) (h2 : qL M t d = M') : Calls Try.prog 11 #[.pointer (some ⟨mb, 0, none⟩), .int .i64 t, .int .i64 d] w (fun e w' => e = .returned (.int .i64 x) ∧ TX B W w' qb mb L M' lv rb hb g ∧ Only (fun k => lv.ownBlock = some k) w w') := by
  subst h1; subst h2
  exact (rput_any h.d h.okm t d).mono fun e w' o => ⟨o.1, h.dd (h.okm.put t d) o, o.2.2⟩
theorem tx_rem (h : TX B W w qb mb L M lv rb hb g) (t : Int) {x : Bool} (h1 : decide (0 ≤ dl L t) = x) (h2 : rmL L t = L') : Calls Try.prog 12 #[.pointer (some ⟨qb, 0, none⟩), .int .i64 t] w (fun e w' => e = .returned (.bool x) ∧ (∃ g', TX B W w' qb mb L' M lv rb hb g') ∧ Only (Two hb g) w w') := by
  subst h1; subst h2
  exact (qrem_any h.q t).mono fun e w' o => ⟨o.1, h.p o, o.2.2⟩
theorem tx_rrem (h : TX B W w qb mb L M lv rb hb g) (t : Int) {x : Bool} (h1 : decide (0 ≤ dl M t) = x) (h2 : rmL M t = M') : Calls Try.prog 13 #[.pointer (some ⟨mb, 0, none⟩), .int .i64 t] w (fun e w' => e = .returned (.bool x) ∧ TX B W w' qb mb L M' lv rb hb g ∧ Only (fun k => lv.ownBlock = some k) w w') := by
  subst h1; subst h2
  exact (rrem_any h.d h.okm t).mono fun e w' o => ⟨o.1, h.dd (h.okm.rm t) o, o.2.2⟩
theorem tx_late (h : TX B W w qb mb L M lv rb hb g) (now : Int) {xs : List Int} (h1 : ids (lateL L now) = xs) : Calls Try.prog 15 #[.pointer (some ⟨qb, 0, none⟩), .int .i64 now] w (LateP xs w) := by
  subst h1; exact qlate_any h.q now
theorem tx_rlate (h : TX B W w qb mb L M lv rb hb g) (now : Int) {xs : List Int} (h1 : ids (lateL M now) = xs) : Calls Try.prog 16 #[.pointer (some ⟨mb, 0, none⟩), .int .i64 now] w (NumsP w xs) := by
  subst h1; exact rlate_any h.d h.okm now
end
theorem chn {w w1 w2 : World} (h : Below w.heap.size w w1) (k : Below w1.heap.size w1 w2) : Below w.heap.size w w2 := h.trans (k.mono h.size)
set_option maxRecDepth 100000 in
set_option maxHeartbeats 8000000 in
theorem same_any {B : Nat} {W w : World} {qb mb : Nat} {L : List Int} (h : TW B W w qb mb L L) : Calls Try.prog 17 #[.pointer (some ⟨qb, 0, none⟩), .pointer (some ⟨mb, 0, none⟩)] w (TrueB w) := by
  obtain ⟨lv, rb, hb, g, h⟩ := h
  have H0 := Lib.hid h
  have HF := Lib.hid (fun (w1 : World) (q : Below w.heap.size w w1) => qfirst_any (h.q.below q))
  have HG := Lib.hid (fun (w1 : World) (q : Below w.heap.size w w1) => rfirst_any (h.d.below q) h.okm)
  have HJ := Lib.hid (fun (w1 : World) (q : Below w.heap.size w w1) => qjobs_any (h.q.below q))
  have HK := Lib.hid (fun (w1 : World) (q : Below w.heap.size w w1) => rjobs_any (h.d.below q) h.okm)
  have hN4 : (srt L).length ≤ 4 := Nat.le_trans (srt_len L) h.okm.len
  unfold JobsP at HJ
  obtain ⟨N, hN⟩ : ∃ N, N = (srt L).length := ⟨_, rfl⟩
  have HEN : Hid ((ids (srt L)).length = N) := by unfold Hid; rw [ids_len, hN]
  rw [← hN] at hN4 HF HG HJ
  generalize decide (0 < N) = isb at *
  generalize ids (srt L) = xs at *
  generalize fs L = ff at *
  obtain ⟨f1, f2⟩ := ff
  dsimp only at HF HG
  clear h hN
  go_enter Try.func17, Try.ntmps17
  go_wp2_with fail
  refine (HF.out _ (Below.refl _ _)).mono ?_
  rintro e w1 ⟨rfl, hb1⟩
  have HB1 := Lib.hid hb1
  clear hb1 HF
  go_wp2_with fail
  refine (HG.out _ HB1.out).mono ?_
  rintro e w2 ⟨rfl, hb2⟩
  have HB2 := Lib.hid (chn HB1.out hb2)
  clear hb2 HG HB1
  go_wp2_with fail
  refine (HJ.out _ HB2.out).mono ?_
  rintro e w3 ⟨jg, rfl, hn3, hb3⟩
  have HN3 := Lib.hid hn3
  have HB3 := Lib.hid (chn HB2.out hb3)
  obtain ⟨C0, hC0⟩ : ∃ C0, w2.heap.size = C0 := ⟨_, rfl⟩
  have HZ : Hid (w.heap.size ≤ C0) := by rw [← hC0]; exact HB2.out.size
  rw [hC0] at HN3
  clear hn3 hb3 hC0 HB2 HJ
  cases isb
  all_goals
    go_wp2_with fail
    refine (HK.out _ HB3.out).mono ?_
    rintro e w4 ⟨rv, rfl, hn4, hb4⟩
    have HI3 := Lib.hid (HN3.out.is.below hb4)
    have HI4 := Lib.hid hn4.is
    have HN4 := Lib.hid (World.ownsRow.kept (row := none) HN3.out ⟨hb4.os, hb4.tape, hb4.output, hb4.size, fun k hk _ => hb4.block k hk⟩ (Or.inr (by simp [Value.ownBlock])))
    have HB4 := Lib.hid (chn HB3.out hb4)
    clear hn4 hb4 HN3 HB3
    go_wp2_with fail
    refine (eqs_any HI3.out HI4.out (by rw [HEN.out]; omega)).mono ?_
    rintro e w5 ⟨rfl, hb5⟩
    have HN5 : Hid (NR w5 C0 (.slice (some ⟨jg, 0, none⟩) N N) xs) := World.ownsRow.kept (row := none) HN4.out ⟨hb5.os, hb5.tape, hb5.output, hb5.size, fun k hk _ => hb5.block k hk⟩ (Or.inr (by simp [Value.ownBlock]))
    have HB5 := Lib.hid (chn HB4.out hb5)
    clear hb5 HN4 HB4 HI3 HI4
    go_wp2_with fail
    go_loopw [12] (fun i wi => ∃ (k : Nat) (ys : List Int), k ≤ N ∧ i = .int .i64 k ∧ Hid (ys.length = N) ∧ Hid (NR wi C0 (.slice (some ⟨jg, 0, none⟩) N N) ys) ∧ Hid (Below w.heap.size w wi)) (fun i _ => N - (intOf i).toNat)
    case atStart => exact ⟨0, xs, Nat.zero_le _, rfl, HEN.out, HN5.out, HB5.out⟩
    case round =>
      clear HN5 HB5
      obtain ⟨k, ys, hk, rfl, HY, HN, HBi⟩ := hrel
      by_cases hkN : k < N
      · have hn := HN.out
        unfold NR at hn
        rw [HY.out] at hn
        have hg := (World.ownsRow.lt hn jg rfl).1
        have s1 : wr.cell? ⟨jg, k, none⟩ = some (.int .i64 (ys.getD k 0)) := by
          rw [World.ownsRow.cellAt hn k (by omega)]
          exact nums_at ys k (by rw [HY.out]; exact hkN)
        have s2 : wr.frozen? ⟨jg, k, none⟩ = false := World.ownsRow.frozenAt hn k
        have HN2 : Hid (NR (wr.setCell ⟨jg, k, none⟩ (.int .i64 (-1))) C0 (.slice (some ⟨jg, 0, none⟩) N N) (ys.set k (-1))) := by
          unfold Hid NR
          rw [List.length_set, HY.out]
          have := (World.ownsRow.stored hn k (.int .i64 (-1))).1
          unfold nums at this ⊢
          rw [List.map_set]
          exact this
        have HY2 : Hid ((ys.set k (-1)).length = N) := by unfold Hid; rw [List.length_set]; exact HY.out
        have HB2 : Hid (Below w.heap.size w (wr.setCell ⟨jg, k, none⟩ (.int .i64 (-1)))) := HBi.out.setCell (Nat.le_trans HZ.out hg) _
        generalize ys.getD k 0 = y0 at *
        have hk0 : (0 : Int) ≤ k := by omega
        have hkI : (k : Int) < (N : Int) := by omega
        clear hn hg HN HY HBi
        go_wp2_with fail
        go_roundw
        case rel => exact ⟨k + 1, _, by omega, by go_num, HY2.out, HN2.out, HB2.out⟩
        case measure => simp [intOf]; omega
      · obtain rfl : k = N := by omega
        clear HN HY
        go_wp2_with fail
        go_loopw [13] (fun i wi => ∃ I : Int, -1 ≤ I ∧ I ≤ 6 ∧ i = .int .i64 I ∧ Hid (Below w.heap.size w wi)) (fun i _ => (6 - intOf i).toNat)
        case atStart => exact ⟨-1, by omega, by omega, rfl, HBi.out⟩
        case round =>
          clear HBi
          obtain ⟨I, hI1, hI2, rfl, HBr⟩ := hrel
          by_cases hI5 : I < 6
          · have hd : decide (I < 6) = true := by simpa using hI5
            have HX := Lib.hid (H0.out.below HBr.out)
            have HD1 := Lib.hid (qdl_any HX.out.q I)
            have HD2 := Lib.hid (rdl_any HX.out.d HX.out.okm I)
            generalize dk L I = D1 at *
            generalize decide (0 ≤ dl L I) = b1 at *
            clear HX
            cases b1
            all_goals
              go_wp2_with fail
              refine HD1.out.mono ?_
              rintro e w7 ⟨rfl, rfl⟩
              go_wp2_with fail
              refine HD2.out.mono ?_
              rintro e w8 ⟨rfl, rfl⟩
              go_wp2_with fail
              go_roundw
              case rel => exact ⟨I + 1, by omega, by omega, by go_num, HBr.out⟩
              case measure => simp [intOf]; omega
          · obtain rfl : I = 6 := by omega
            go_wp2_with fail
            go_ret
            exact ⟨rfl, HBr.out⟩
end Go.Proofs.Ytmdckfekjbhcfaa
