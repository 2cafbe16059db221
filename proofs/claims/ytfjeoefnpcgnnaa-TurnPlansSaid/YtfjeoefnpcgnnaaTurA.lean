/- The program's Who: the method value of a rank of those that have something left. -/
import Derived.Test.YtfjeoefnpcgnnaaTurT
import Derived.Test.YtfjeoefnpcgnnaaPurN
import Derived.Test.YtfjeoefnpcgnnaaRkWalksE
import Derived.Deep.CutRange
namespace Go.Proofs.Ytfjeoefnpcgnnaa.Pw
open Go.RowKit Go.Sort Pu
set_option linter.unusedVariables false
set_option maxRecDepth 100000

/-- those of the first j that have something left, by when their periods end -/
def rk (s : Nat → Option St) (j : Nat) : Int → Option Int := fun id => if 0 ≤ id ∧ id < j ∧ 0 < lf s id.toNat then some (ef s id.toNat : Int) else none
theorem rk_zero (s : Nat → Option St) : rk s 0 = fun _ => none := by funext id; exact if_neg (by omega)
theorem rk_keep {s : Nat → Option St} {j : Nat} (h : lf s j = 0) : rk s (j + 1) = rk s j := by
  funext id; unfold rk
  by_cases hc : 0 ≤ id ∧ id < j ∧ 0 < lf s id.toNat
  · rw [if_pos hc, if_pos ⟨hc.1, by omega, hc.2.2⟩]
  · rw [if_neg hc, if_neg]
    rintro ⟨h1, h2, h3⟩
    by_cases e : id.toNat = j
    · rw [e] at h3; omega
    · exact hc ⟨h1, by omega, h3⟩
theorem rk_put {s : Nat → Option St} {j : Nat} (h : 0 < lf s j) : Rq.Rk.upd (rk s j) j (some (ef s j : Int)) = rk s (j + 1) := by
  funext id; unfold Rq.Rk.upd rk
  by_cases e : id = j
  · subst e; rw [if_pos rfl, if_pos ⟨by omega, by omega, by simpa using h⟩]; simp
  · rw [if_neg e]
    by_cases hc : 0 ≤ id ∧ id < j ∧ 0 < lf s id.toNat
    · rw [if_pos hc, if_pos ⟨hc.1, by omega, hc.2.2⟩]
    · rw [if_neg hc, if_neg (by rintro ⟨h1, h2, h3⟩; exact hc ⟨h1, by omega, h3⟩)]
theorem rk_new (s : Nat → Option St) (j : Nat) : rk s j j = none := if_neg (by omega)
theorem who_none {s : Nat → Option St} {j : Nat} (h : who s j = -1) (id : Int) : rk s j id = none := by
  rcases Tu.near_cases (lf s) (ef s) j with ⟨_, h0⟩ | ⟨m, z, _⟩
  · refine if_neg ?_
    rintro ⟨h1, h2, h3⟩
    have := h0 id.toNat (by omega); omega
  · unfold who at h; omega
theorem who_is {s : Nat → Option St} {j k : Nat} (h : who s j = k) : Rq.IsFirst (rk s j) ((k : Int), (ef s k : Int)) := by
  rcases Tu.near_cases (lf s) (ef s) j with ⟨z, _⟩ | ⟨m, z, z1, z2, z3⟩
  · unfold who at h; omega
  · obtain rfl : m = k := by unfold who at h; omega
    constructor
    · show rk s j (m : Int) = some (ef s m : Int)
      unfold rk; rw [if_pos ⟨by omega, by omega, by simpa using z2⟩]; simp
    · intro id x hx
      unfold rk at hx
      split at hx
      · rename_i hc
        obtain ⟨h1, h2, h3⟩ := hc
        obtain rfl : (ef s id.toNat : Int) = x := by simpa using hx
        have h4 := z3 id.toNat (by omega) h3
        rintro (h5 | ⟨h5, h6⟩)
        · have h5' : (ef s id.toNat : Int) < (ef s m : Int) := h5
          omega
        · have h5' : (ef s id.toNat : Int) = (ef s m : Int) := h5
          have h6' : id < (m : Int) := h6
          have := Tu.near_first (lf s) (ef s) z id.toNat (by omega) h3
          omega
      · cases hx
/-- what is left of one that may be none, and when its period ends -/
theorem left_of_row {w : World} {g o : Nat} {s : Nat → Option St} {j : Nat} (h : DC PP w g o (s j)) (ok : ∀ x, s j = some x → 0 ≤ x.n ∧ 0 ≤ x.e ∧ (x.ov = true → x.n = 0)) : ∃ pv, w.cell? ⟨g, o, none⟩ = some (.pointer pv) ∧ (∀ w', Below w.heap.size w w' → Calls Try.prog 48 #[.pointer pv] w' (VB (.int .i64 (lf s j : Nat)) w')) ∧ (0 < lf s j → ∀ w', Below w.heap.size w w' → Calls Try.prog 50 #[.pointer pv] w' (VB (.int .i64 (ef s j : Nat)) w')) := by
  cases hs : s j with
  | none =>
    refine ⟨none, h.no hs, fun w' _ => ?_, fun hl => ?_⟩
    · rw [lf_none hs]; exact n_left (Or.inl rfl)
    · rw [lf_none hs] at hl; omega
  | some x =>
    obtain ⟨c, h1, h2⟩ := h.yes hs
    obtain ⟨k1, k2, k3⟩ := ok x hs
    refine ⟨_, h1, fun w' q => ?_, fun _ w' q => ?_⟩
    · have := left_any (h2.below q)
      have e : (lf s j : Int) = x.n := by
        rw [lf_some hs]
        by_cases hv : x.ov = true
        · rw [if_pos hv, k3 hv]; rfl
        · rw [if_neg hv]; omega
      rwa [← e] at this
    · have := ends_any (h2.below q)
      have e : (ef s j : Int) = x.e := by rw [ef_some hs]; omega
      rwa [← e] at this
/-- a rank of those that have something left, of the first four -/
def RkdP (w : World) (s : Nat → Option St) (M : Nat) (E : Ending) (w' : World) : Prop := ∃ rb hb g n, E = .returned (.pointer (some ⟨rb, 0, none⟩)) ∧ Rq.RK w' rb hb g n (rk s M) ∧ Below w.heap.size w w'
set_option maxHeartbeats 8000000 in
theorem ranked_any {w : World} {v : Value} {m : Nat} {s : Nat → Option St} (h : DW PP w v m s) (ok : OkS m s) : Calls Try.prog 36 #[v] w (RkdP w s (min m 4)) := by
  obtain ⟨a, cap, rfl, hn1, hn2⟩ := h.slice
  have hmx : m ≤ 9223372036854775807 := by unfold maxLen at hn2; omega
  obtain ⟨M, hM⟩ : ∃ M, M = min m 4 := ⟨_, rfl⟩
  have HMM := Lib.hid hM
  have hM4 : M ≤ 4 := by omega
  have hMm : M ≤ m := by omega
  have HD := Lib.hid h
  have HOK := Lib.hid ok
  have HN := Lib.hid (Rq.new_any w)
  rw [← hM]
  clear h ok hM
  go_enter Try.func36, Try.ntmps36
  go_wp2_with fail
  refine HN.out.mono ?_
  rintro E w1 ⟨rfl, hr, hb⟩
  have HR : Hid (Rq.RK w1 (w.heap.size + 1) w.heap.size w.heap.size 0 (rk s 0)) := by rw [rk_zero]; exact hr.out
  have HB := hb
  clear hr hb HN
  go_upto_region 2 with (fail)
  go_cut [11, 12, 13] from 7 to 13 (fun x y z wc => x = .slice a M cap ∧ y = .int .i64 M ∧ z = .int .i64 0 ∧ w1 = wc)
  case first =>
    have hm := HMM.out
    clear HMM
    by_cases h4 : (4 : Int) < (m : Int)
    · obtain rfl : M = 4 := by omega
      clear hm
      go_wp2_with fail
      go_meet
      case rel => exact ⟨rfl, rfl, rfl, rfl⟩
    · obtain rfl : M = m := by omega
      clear hm
      go_wp2_with fail
      go_meet
      case rel => exact ⟨rfl, rfl, rfl, rfl⟩
  case rest =>
    obtain ⟨rfl, rfl, rfl, rfl⟩ := hcut
    have HRB : Hid (w.heap.size ≤ w.heap.size + 1 ∧ w.heap.size ≤ w.heap.size) := ⟨by omega, by omega⟩
    generalize hrb : w.heap.size + 1 = rb at *
    obtain ⟨hb, hhb⟩ : ∃ hb, hb = w.heap.size := ⟨_, rfl⟩
    have HHB : Hid (w.heap.size ≤ hb ∧ w.heap.size ≤ rb) := by rw [hhb]; exact ⟨Nat.le_refl _, by omega⟩
    have HR2 : Hid (Rq.RK w1 rb hb hb 0 (rk s 0)) := by rw [hhb]; exact HR.out
    clear HRB HR hrb hhb
    go_wp2_with fail
    go_loopw [13] (fun jv W => ∃ (j n g : Nat), j ≤ M ∧ n ≤ j ∧ jv = .int .i64 j ∧ Hid (Rq.RK W rb hb g n (rk s j)) ∧ Hid (w.heap.size ≤ g) ∧ Hid (Below w.heap.size w W)) (fun jv _ => M - (intOf jv).toNat)
    case atStart => exact ⟨0, 0, hb, Nat.zero_le _, Nat.le_refl _, rfl, HR2.out, HHB.out.1, HB.out⟩
    case round =>
      clear HR2 HB
      obtain ⟨j, n, g, hjM, hnj, rfl, HR, HG, HB⟩ := hrel
      by_cases hj : j < M
      · obtain ⟨_, hat⟩ := (HD.out.below pk_prog HB.out).at
        obtain ⟨gw, off, rfl, hc⟩ := hat (by omega)
        have hI : (j : Int) < (M : Int) := by omega
        have hI0 : (0 : Int) ≤ j := by omega
        obtain ⟨pv, c0, hL, hE⟩ := left_of_row (hc j (by omega)) (fun x hx => HOK.out j x (by omega) hx)
        have HL := Lib.hid (hL wr (Below.refl _ _))
        have HE := Lib.hid hE
        have HGW := Lib.hid HB.out.size
        clear hc hat hL hE
        by_cases hl : 0 < lf s j
        · have HP := Lib.hid (rk_put hl)
          have HEE := Lib.hid (HE.out hl)
          have dl : decide ((0 : Int) < ((lf s j : Nat) : Int)) = true := by simp; omega
          have dl2 : decide (0 < lf s j) = true := by simpa using hl
          have HNW := Lib.hid (rk_new s j)
          clear HE hl
          generalize lf s j = l at *
          generalize ef s j = e at *
          go_wp2_with fail
          refine HL.out.mono ?_
          rintro E w2 ⟨rfl, hq⟩
          have HR2 := Lib.hid (HR.out.below hq)
          have HE2 := Lib.hid (HEE.out w2 hq)
          have HB2 := Lib.hid (HB.out.trans (hq.mono HB.out.size))
          clear hq HR HB HL HEE
          go_wp2_with fail
          refine HE2.out.mono ?_
          rintro E w3 ⟨rfl, hq⟩
          have HR3 := Lib.hid (HR2.out.below hq)
          have HB3 := Lib.hid (HB2.out.trans (hq.mono HB2.out.size))
          have HPU := Lib.hid (Rq.put_any w3 rb hb g n (rk s j) j e HR3.out (by omega))
          have hpo := Rq.put_ok (m := rk s j) (id := (j : Int)) (e : Int) n ⟨by omega, by omega⟩ HNW.out
          rw [hpo.1, hpo.2.1, hpo.2.2, HP.out] at HPU
          clear hq HR2 HB2 HE2 hpo
          go_wp2_with fail
          refine HPU.out.mono ?_
          rintro E w4 ⟨rfl, ⟨g', hr, hg'⟩, ho⟩
          have HR4 := Lib.hid hr
          have HG4 : Hid (w.heap.size ≤ g') := by
            rcases hg' with e' | e'
            · rw [e']; exact HG.out
            · exact Nat.le_trans HB3.out.size e'
          have HB4 : Hid (Below w.heap.size w w4) := HB3.out.trans ⟨ho.os, ho.tape, ho.output, ho.size, fun k hk => ho.block k (Nat.lt_of_lt_of_le hk HB3.out.size) (by have h1 := HHB.out.1; have h2 := HG.out; rintro (e' | e') <;> omega)⟩
          clear hr hg' ho HR3 HB3 HPU
          go_wp2_with fail
          go_roundw
          case rel => exact ⟨j + 1, n + 1, g', by omega, by omega, by go_num, HR4.out, HG4.out, HB4.out⟩
          case measure => simp [intOf]; omega
        · have HP := Lib.hid (rk_keep (s := s) (j := j) (by omega))
          have dl : decide ((0 : Int) < ((lf s j : Nat) : Int)) = false := by simp; omega
          have dl2 : decide (0 < lf s j) = false := by simpa using hl
          clear HE hl
          generalize lf s j = l at *
          go_wp2_with fail
          refine HL.out.mono ?_
          rintro E w2 ⟨rfl, hq⟩
          have HR2 : Hid (Rq.RK w2 rb hb g n (rk s (j + 1))) := by rw [HP.out]; exact HR.out.below hq
          have HB2 := Lib.hid (HB.out.trans (hq.mono HB.out.size))
          clear hq HR HB HL
          go_wp2_with fail
          go_roundw
          case rel => exact ⟨j + 1, n, g, by omega, by omega, by go_num, HR2.out, HG.out, HB2.out⟩
          case measure => simp [intOf]; omega
      · obtain rfl : j = M := by omega
        have HBB := Lib.hid HB.out
        have HRR := Lib.hid HR.out
        clear HR HB
        go_wp2_with fail
        go_ret
        exact ⟨rb, hb, g, n, rfl, HRR.out, HBB.out⟩
set_option maxHeartbeats 8000000 in
theorem who_any {w : World} {v : Value} {m : Nat} {s : Nat → Option St} (h : DW PP w v m s) (ok : OkS m s) : Calls Try.prog 18 #[v] w (WhoP (who s (min m 4)) w) := by
  have HR := Lib.hid (ranked_any h ok)
  clear h ok
  generalize min m 4 = j at *
  go_enter Try.func18, Try.ntmps18
  go_wp2_with fail
  refine HR.out.mono ?_
  rintro E wr ⟨rb, hb, g, n, rfl, hr, hq⟩
  have HF : Hid (∃ x y : Int, Calls Try.prog 37 #[.pointer (some ⟨rb, 0, none⟩)] wr (Rq.Fst x y (decide (0 ≤ who s j)) wr) ∧ x = (if who s j < 0 then 0 else who s j)) := by
    rcases who_cases s j with hw | ⟨k, z, hw, _⟩
    · have hn0 : n = 0 := by
        rcases Nat.eq_zero_or_pos n with h | h
        · exact h
        · obtain ⟨x, hx⟩ := hr.first h
          have := hx.1; rw [who_none hw] at this; cases this
      subst hn0
      refine ⟨0, 0, ?_, by rw [hw]; rfl⟩
      rw [hw]
      exact Rq.first_none wr rb hb g _ hr
    · have hn0 : 0 < n := by
        rcases Nat.eq_zero_or_pos n with h | h
        · subst h
          have h1 := (who_is hw).1
          have h2 := hr.none (k : Int)
          rw [h2] at h1; cases h1
        · exact h
      refine ⟨k, ef s k, ?_, by rw [hw, if_neg (by omega)]⟩
      rw [hw, decide_eq_true (by omega)]
      exact Rq.first_some wr rb hb g n _ _ hr hn0 (who_is hw)
  obtain ⟨x, y, hF, hx⟩ := HF.out
  have HFF := Lib.hid hF
  have HX := Lib.hid hx
  have HBB := Lib.hid hq
  clear hF hx HF HR hr hq
  obtain ⟨bb, hbb⟩ : ∃ bb, bb = decide (0 ≤ who s j) := ⟨_, rfl⟩
  rw [← hbb] at HFF
  have HBX := Lib.hid hbb
  clear hbb
  go_wp2_with fail
  refine HFF.out.mono ?_
  rintro E w5 ⟨rfl, hq⟩
  have HBF := Lib.hid (HBB.out.trans (hq.mono HBB.out.size))
  clear hq
  go_wp2_with fail
  go_ret2
  refine ⟨?_, HBF.out⟩
  rw [← HX.out, ← HBX.out]; rfl
end Go.Proofs.Ytfjeoefnpcgnnaa.Pw
