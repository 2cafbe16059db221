/- BellPlays: the law. -/
import Derived.Test.YtdfolbnnhglpeaaBellM
namespace Go.Proofs.Ytdfolbnnhglpeaa
open Go.RowKit Rk
set_option linter.unusedVariables false

theorem od_start {w w1 w2 : World} {bb rb hb g : Nat} (k1 : BK w1 bb rb hb g []) (b1 : Below w.heap.size w w1) (hg : w.heap.size ≤ bb ∧ w.heap.size ≤ rb ∧ w.heap.size ≤ hb ∧ w.heap.size ≤ g) (k2 : RB w2 w1.heap.size w1.heap.size []) (b2 : Below w1.heap.size w1 w2) :
    OD w.heap.size w w2 bb rb hb [] w1.heap.size [] (fun _ => False) := by
  have l := k1.lt; have l0 := k1.R.lt0; have l1 := k1.R.lt1; have l2 := k1.R.lt2
  exact ⟨⟨_, _, k1.below b2, k2, ⟨hg.2.2.2, b1.size⟩, by omega, fun k hk => hk.elim⟩, ⟨hg.1, hg.2.1, hg.2.2.1, b1.size⟩, b1.trans (b2.mono b1.size), Wf.nil⟩

/-- a call that only draws -/
def QuP (k : Int) (b : Bool) (w : World) (e : Ending) (w' : World) : Prop := e = .returned (.tuple #[.int .i64 k, .bool b]) ∧ ∃ m, w' = w.drewN m
set_option maxHeartbeats 1000000 in
theorem bat_q (w : World) (bb rb hb g : Nat) (P : List En) (kind id : Int) (h : BK w bb rb hb g P) : Calls Try.prog 12 #[.pointer (some ⟨bb, 0, none⟩), .int .i64 kind, .int .i64 id] w (QuP (keyN (mp P) (bk kind id)) (mp P (bk kind id)).isSome w) := by
  have c0 := h.cell
  have HNone := Lib.hid (bnone_any w bb rb c0)
  have H := Lib.hid h
  clear h
  by_cases hk : 0 ≤ kind ∧ kind ≤ 3 ∧ 0 ≤ id ∧ id ≤ 15
  · have HM := Lib.hid (bmay_yes kind id w hk)
    have HNu : ∀ w', Hid (Calls Try.prog 31 #[.int .i64 kind, .int .i64 id] w' (IsN (bk kind id) w')) := fun w' => number_any kind id w' hk
    have HD : ∀ k, Hid (BK (w.drewN k) bb rb hb g P) := fun k => H.out.below (below_drewN (Below.refl _ _) _)
    clear hk
    go_enter Try.func12, Try.ntmps12
    go_wp2_with fail
    refine HNone.out.mono ?_
    rintro e w' ⟨rfl, rfl⟩
    go_wp2_with fail
    refine HM.out.mono ?_
    rintro e w' ⟨rfl, rfl⟩
    go_wp2_with fail
    go_region_with (first | (go_at_call 31; refine (HNu _).out.mono ?_; rintro e w' ⟨rfl, rfl⟩) | (go_at_call 30; refine ((HD 1).out.key (bk kind id)).mono ?_; rintro e w' ⟨rfl, rfl⟩))
    all_goals
      go_wp2_with fail
      go_ret2
      exact ⟨rfl, 1, rfl⟩
  · have HM := Lib.hid (bmay_no kind id w hk)
    have e1 : keyN (mp P) (-1) = 0 := by unfold keyN; rw [H.out.W.none]; rfl
    rw [bk_no hk, e1, H.out.W.none]
    clear hk e1
    go_enter Try.func12, Try.ntmps12
    go_wp2_with fail
    refine HNone.out.mono ?_
    rintro e w' ⟨rfl, rfl⟩
    go_wp2_with fail
    refine HM.out.mono ?_
    rintro e w' ⟨rfl, rfl⟩
    go_wp2_with fail
    go_ret2
    exact ⟨rfl, 0, rfl⟩

set_option maxHeartbeats 4000000 in
theorem rat_q (w : World) (mb mg : Nat) (l : List En) (kind id : Int) (h : RB w mb mg l) (hW : Wf l) :
    Calls Try.prog 13 #[.pointer (some ⟨mb, 0, none⟩), .int .i64 kind, .int .i64 id] w (QuP (keyN (mp l) (bk kind id)) (mp l (bk kind id)).isSome w) := by
  obtain ⟨v, h1, h2⟩ := h.S
  obtain ⟨a, cap, hv⟩ := h2.slice
  have HW := Lib.hid hW
  have c0 := cell_of_one h1
  rw [hv] at c0
  obtain ⟨n, hn⟩ : ∃ n, l.length = n := ⟨_, rfl⟩
  have HN' := Lib.hid hn
  have hpos : Hid (∀ i (hi : i < l.length), ∃ off : Nat, a = some ⟨mg, off, none⟩ ∧ n ≤ cap ∧ cap ≤ 9223372036854775807 ∧ w.cell? ⟨mg, off + i * 3, none⟩ = some (.int .i64 (l[i]).2) ∧ w.cell? ⟨mg, off + i * 3 + 1, none⟩ = some (.int .i64 ((l[i]).1 / 16)) ∧ w.cell? ⟨mg, off + i * 3 + 2, none⟩ = some (.int .i64 ((l[i]).1 % 16))) := fun i hin => by
    obtain ⟨off, cap', hv', hle, hmx, _, hc⟩ := h2.form (by omega)
    rw [hv] at hv'
    injection hv' with e1 e2 e3
    unfold maxLen at hmx
    obtain ⟨c1, c2, c3⟩ := hc i hin
    exact ⟨off, e1, by omega, by omega, c1, c2, c3⟩
  rw [hn] at c0
  have HC0 := Lib.hid c0
  clear h h1 h2 hv hn hW c0
  go_enter Try.func13, Try.ntmps13
  go_wp2_with fail
  go_loop [8] (fun i => ∃ i' : Nat, i' ≤ n ∧ i = .int .i64 i' ∧ Hid (∀ j (hj : j < l.length), j < i' → (l[j]).1 ≠ bk kind id)) (fun i => n - (intOf i).toNat)
  case atStart => exact ⟨0, Nat.zero_le _, rfl, fun j _ hj => by omega⟩
  case round =>
    obtain ⟨i, hi, rfl, HNot⟩ := hrel
    have c0 := HC0.out
    by_cases hin : i < n
    · have hil : i < l.length := by rw [HN'.out]; exact hin
      obtain ⟨off, ha, hle, hmx, d1, d2, d3⟩ := hpos.out i hil
      have hnum := num_iff (HW.out.dom (l[i]) (List.getElem_mem _)) (kind := kind) (id := id)
      have hmem : l[i] ∈ l := List.getElem_mem _
      have HNx : Hid ((l[i]).1 ≠ bk kind id → ∀ j (hj : j < l.length), j < i + 1 → (l[j]).1 ≠ bk kind id) := fun hne j hj hji => by
        by_cases e : j = i
        · subst e; exact hne
        · exact HNot.out j hj (by omega)
      generalize l[i] = x at d1 d2 d3 hnum hmem HNx
      obtain ⟨x1, x2⟩ := x
      dsimp only at d1 d2 d3 hnum HNx
      have HMem := Lib.hid hmem
      generalize x1 / 16 = q at d2 hnum
      generalize x1 % 16 = r at d3 hnum
      rw [ha] at c0
      clear ha hmem
      by_cases hk : q = kind
      · have t1 : (q == kind) = true := by simpa using hk
        by_cases hd : r = id
        · have t2 : (r == id) = true := by simpa using hd
          have hx1 : x1 = bk kind id := hnum.2 ⟨hk, hd⟩
          have HM : Hid (mp l (bk kind id) = some x2) := HW.out.look.2 (by rw [← hx1]; exact HMem.out)
          have HF : Hid (QuP (keyN (mp l) (bk kind id)) (mp l (bk kind id)).isSome w (.returned (.tuple #[.int .i64 x2, .bool true])) w) := by unfold Hid keyN; rw [HM.out]; exact ⟨rfl, 0, rfl⟩
          clear hnum hk hd hx1 HM HMem
          go_wp2_with fail
          go_ret2
          exact HF.out
        · have t2 : (r == id) = false := by simpa using hd
          have HNx2 := Lib.hid (HNx.out fun e => hd (hnum.1 e).2)
          clear hnum hk hd HNx
          go_wp2_with fail
          go_round
          case rel => exact ⟨i + 1, by omega, by go_num, HNx2.out⟩
          case measure => simp [intOf]; omega
      · have t1 : (q == kind) = false := by simpa using hk
        have HNx2 := Lib.hid (HNx.out fun e => hk (hnum.1 e).1)
        clear hnum hk HNx
        go_wp2_with fail
        go_round
        case rel => exact ⟨i + 1, by omega, by go_num, HNx2.out⟩
        case measure => simp [intOf]; omega
    · have HM : Hid (mp l (bk kind id) = none) := by
        unfold Hid
        cases hm : mp l (bk kind id) with
        | none => rfl
        | some k =>
          obtain ⟨j, hj, e⟩ := List.getElem_of_mem (HW.out.look.1 hm)
          exact (HNot.out j hj (by have := HN'.out; omega) (by rw [e])).elim
      have HF : Hid (QuP (keyN (mp l) (bk kind id)) (mp l (bk kind id)).isSome w (.returned (.tuple #[.int .i64 0, .bool false])) w) := by unfold Hid keyN; rw [HM.out]; exact ⟨rfl, 0, rfl⟩
      clear HM
      go_wp2_with fail
      go_ret2
      exact HF.out

theorem od_atq {B : Nat} {W w : World} {bb rb hb : Nat} {P1 : List En} {mb : Nat} {P2 : List En} {X : Nat → Prop} (kind id : Int) (h : OD B W w bb rb hb P1 mb P2 X) : Calls Try.prog 12 #[.pointer (some ⟨bb, 0, none⟩), .int .i64 kind, .int .i64 id] w (QuP (keyN (mp P1) (bk kind id)) (mp P1 (bk kind id)).isSome w) := by
  obtain ⟨g, mg, k1, k2, x, ap, gd⟩ := h.ex
  exact bat_q w bb rb hb g P1 kind id k1
theorem od_ratq {B : Nat} {W w : World} {bb rb hb : Nat} {P1 : List En} {mb : Nat} {P2 : List En} {X : Nat → Prop} (kind id : Int) (h : OD B W w bb rb hb P1 mb P2 X) : Calls Try.prog 13 #[.pointer (some ⟨mb, 0, none⟩), .int .i64 kind, .int .i64 id] w (QuP (keyN (mp P2) (bk kind id)) (mp P2 (bk kind id)).isSome w) := by
  obtain ⟨g, mg, k1, k2, x, ap, gd⟩ := h.ex
  exact rat_q w mb mg P2 kind id k2 h.W2

set_option maxRecDepth 100000 in
set_option maxHeartbeats 8000000 in
theorem plays_law (b off cap n0 : Nat) (zw zk zi za : Nat → Int) (w : World) (hle : n0 ≤ cap) (hmx : cap ≤ 9223372036854775807) (hpos : 0 < n0) (hc : Calls4 w b off n0 zw zk zi za) :
    Calls Try.prog 3 #[.slice (some ⟨b, off, none⟩) n0 cap] w (TrueB w) := by
  have HC := Lib.hid hc
  clear hc
  go_enter Try.func3, Try.ntmps3
  go_wp2_with fail
  refine (bnew_any w).mono ?_
  rintro e w1 ⟨bb, rb, hb, g, rfl, HK1, HB1, HG1⟩
  go_wp2_with fail
  refine (rbnew_any w1).mono ?_
  rintro e w2 ⟨rfl, HK2, HB2⟩
  have HS : Hid (OD w.heap.size w w2 bb rb hb [] w1.heap.size [] (fun _ => False)) := od_start HK1.out HB1.out HG1.out HK2.out HB2.out
  clear HK1 HB1 HG1 HK2 HB2
  generalize w1.heap.size = mb at *
  go_wp2_with fail
  go_loopw [5] (fun iv wr => ∃ i : Nat, i ≤ n0 ∧ i ≤ 300 ∧ iv = .int .i64 i ∧ Hid (∃ P, OD w.heap.size w wr bb rb hb P mb P (fun _ => False))) (fun iv _ => 300 - (intOf iv).toNat)
  case atStart => exact ⟨0, Nat.zero_le _, Nat.zero_le _, rfl, _, HS⟩
  case round =>
    clear HS
    obtain ⟨i, hi, hi2, rfl, HO⟩ := hrel
    obtain ⟨P, hod⟩ := HO.out
    have H := Lib.hid hod
    clear hod HO
    by_cases hg : i < n0 ∧ i < 300
    · obtain ⟨hin, hi3⟩ := hg
      have hd1 : decide ((i : Int) < 300) = true := by simp; omega
      obtain ⟨i1, i2, i3, i4⟩ := Calls4.below HC.out H.out.bel i hin
      go_wp2_with fail
      refine (step_any w.heap.size w wr bb rb hb P mb (zw i) (zk i) (zi i) (za i) H.out).mono ?_
      rintro e w3 ⟨rfl, P', hod3⟩
      have H3 := Lib.hid hod3
      clear hod3 H i1 i2 i3 i4
      go_wp2_with fail
      refine (od_count H3.out).mono ?_
      rintro e w0 ⟨rfl, rfl⟩
      go_wp2_with fail
      refine (od_rcount H3.out).mono ?_
      rintro e w0 ⟨rfl, rfl⟩
      obtain ⟨kx, hkx⟩ : ∃ k, keyN (mp P') (bk (zk i) (zi i)) = k := ⟨_, rfl⟩
      obtain ⟨sx, hsx⟩ : ∃ k, (mp P' (bk (zk i) (zi i))).isSome = k := ⟨_, rfl⟩
      have HKX := Lib.hid hkx
      have HSX := Lib.hid hsx
      clear hkx hsx
      obtain ⟨i1, i2, i3, i4⟩ := Calls4.below HC.out H3.out.bel i hin
      have HA : Hid (∀ n, Calls Try.prog 12 #[.pointer (some ⟨bb, 0, none⟩), .int .i64 (zk i), .int .i64 (zi i)] (w3.drewN n) (QuP kx sx (w3.drewN n))) := fun n => by
        have := od_atq (zk i) (zi i) (H3.out.below (below_drewN (Below.refl _ _) n))
        rw [HKX.out, HSX.out] at this; exact this
      go_wp2_with fail
      go_quiet ((go_at_call 12; exact Calls.quiet_of (HA.out _)))
      have H4 : Hid (OD w.heap.size w (w3.drewN nq) bb rb hb P' mb P' (fun _ => False)) := H3.out.below (below_drewN (Below.refl _ _) _)
      clear H3 HA i1 i2 i3 i4
      generalize w3.drewN nq = w4 at H4 ⊢
      have HA : Hid (∀ n, Calls Try.prog 13 #[.pointer (some ⟨mb, 0, none⟩), .int .i64 (zk i), .int .i64 (zi i)] (w4.drewN n) (QuP kx sx (w4.drewN n))) := fun n => by
        have := od_ratq (zk i) (zi i) (H4.out.below (below_drewN (Below.refl _ _) n))
        rw [HKX.out, HSX.out] at this; exact this
      obtain ⟨i1, i2, i3, i4⟩ := Calls4.below HC.out H4.out.bel i hin
      go_wp2_with fail
      go_quiet ((go_at_call 13; exact Calls.quiet_of (HA.out _)))
      have HF : Hid (∃ P, OD w.heap.size w (w4.drewN nq) bb rb hb P mb P (fun _ => False)) := ⟨_, H4.out.below (below_drewN (Below.refl _ _) _)⟩
      clear H4 HA HKX HSX i1 i2 i3 i4
      cases sx
      all_goals
        go_wp2_with fail
        go_roundw
        case rel => exact ⟨i + 1, by omega, by omega, by go_num, HF⟩
        case measure => simp [intOf]; omega
    · by_cases hin : i < n0
      · have hd1 : decide ((i : Int) < 300) = false := by simp; omega
        have HCut : Hid (Cut P 1099511627776 P []) := ⟨by simp, fun x hx => (H.out.W1.key x hx).2, fun x hx => (nomatch hx)⟩
        have HLn := Lib.hid H.out.W1.len
        go_wp2_with fail
        refine (od_due H.out HCut.out).mono ?_
        rintro e w4 ⟨v, rfl, HR4, H4⟩
        clear H
        go_wp2_with fail
        refine (od_rdue H4.out HCut.out).mono ?_
        rintro e w5 ⟨v2, rfl, HR5, H5, HK5⟩
        have HRa : Hid (BR w5 _ v P) := HR4.out.keep fun k _ hk => HK5.out k hk
        have hw5 : 0 < w5.heap.size := by obtain ⟨g, mg, k1, _⟩ := H5.out.ex; have := k1.lt; omega
        clear HR4 H4 HK5
        go_wp2_with fail
        refine (same_rows HRa.out HR5.out hw5 (by have := HLn.out; omega)).mono ?_
        rintro e w6 ⟨rfl, hb6⟩
        have H6 := Lib.hid (H5.out.below hb6)
        clear hb6 HRa HR5 H5 hw5
        go_wp2_with fail
        refine (works_any w6).mono ?_
        rintro e w7 ⟨rfl, hb7⟩
        have HF := Lib.hid (H6.out.below hb7).bel
        clear hb7 H6
        go_wp2_with fail
        go_ret
        exact ⟨rfl, HF.out⟩
      · have hd0 : decide ((i : Int) < (n0 : Int)) = false := by simp; omega
        have HCut : Hid (Cut P 1099511627776 P []) := ⟨by simp, fun x hx => (H.out.W1.key x hx).2, fun x hx => (nomatch hx)⟩
        have HLn := Lib.hid H.out.W1.len
        go_wp2_with fail
        refine (od_due H.out HCut.out).mono ?_
        rintro e w4 ⟨v, rfl, HR4, H4⟩
        clear H
        go_wp2_with fail
        refine (od_rdue H4.out HCut.out).mono ?_
        rintro e w5 ⟨v2, rfl, HR5, H5, HK5⟩
        have HRa : Hid (BR w5 _ v P) := HR4.out.keep fun k _ hk => HK5.out k hk
        have hw5 : 0 < w5.heap.size := by obtain ⟨g, mg, k1, _⟩ := H5.out.ex; have := k1.lt; omega
        clear HR4 H4 HK5
        go_wp2_with fail
        refine (same_rows HRa.out HR5.out hw5 (by have := HLn.out; omega)).mono ?_
        rintro e w6 ⟨rfl, hb6⟩
        have H6 := Lib.hid (H5.out.below hb6)
        clear hb6 HRa HR5 H5 hw5
        go_wp2_with fail
        refine (works_any w6).mono ?_
        rintro e w7 ⟨rfl, hb7⟩
        have HF := Lib.hid (H6.out.below hb7).bel
        clear hb7 H6
        go_wp2_with fail
        go_ret
        exact ⟨rfl, HF.out⟩

set_option maxRecDepth 100000 in
set_option maxHeartbeats 8000000 in
theorem plays_nil (a : Option Addr) (cap : Nat) (w : World) : Calls Try.prog 3 #[.slice a 0 cap] w (TrueB w) := by
  go_enter Try.func3, Try.ntmps3
  go_wp2_with fail
  refine (bnew_any w).mono ?_
  rintro e w1 ⟨bb, rb, hb, g, rfl, HK1, HB1, HG1⟩
  go_wp2_with fail
  refine (rbnew_any w1).mono ?_
  rintro e w2 ⟨rfl, HK2, HB2⟩
  have HS : Hid (OD w.heap.size w w2 bb rb hb [] w1.heap.size [] (fun _ => False)) := od_start HK1.out HB1.out HG1.out HK2.out HB2.out
  clear HK1 HB1 HG1 HK2 HB2
  generalize w1.heap.size = mb at *
  go_wp2_with fail
  go_loopw [5] (fun iv wr => iv = .int .i64 0 ∧ Hid (∃ P, OD w.heap.size w wr bb rb hb P mb P (fun _ => False))) (fun iv _ => 0)
  case atStart => exact ⟨rfl, _, HS⟩
  case round =>
    clear HS
    obtain ⟨rfl, HO⟩ := hrel
    obtain ⟨P, hod⟩ := HO.out
    have H := Lib.hid hod
    clear hod HO
    have HCut : Hid (Cut P 1099511627776 P []) := ⟨by simp, fun x hx => (H.out.W1.key x hx).2, fun x hx => (nomatch hx)⟩
    have HLn := Lib.hid H.out.W1.len
    go_wp2_with fail
    refine (od_due H.out HCut.out).mono ?_
    rintro e w4 ⟨v, rfl, HR4, H4⟩
    clear H
    go_wp2_with fail
    refine (od_rdue H4.out HCut.out).mono ?_
    rintro e w5 ⟨v2, rfl, HR5, H5, HK5⟩
    have HRa : Hid (BR w5 _ v P) := HR4.out.keep fun k _ hk => HK5.out k hk
    have hw5 : 0 < w5.heap.size := by obtain ⟨g, mg, k1, _⟩ := H5.out.ex; have := k1.lt; omega
    clear HR4 H4 HK5
    go_wp2_with fail
    refine (same_rows HRa.out HR5.out hw5 (by have := HLn.out; omega)).mono ?_
    rintro e w6 ⟨rfl, hb6⟩
    have H6 := Lib.hid (H5.out.below hb6)
    clear hb6 HRa HR5 H5 hw5
    go_wp2_with fail
    refine (works_any w6).mono ?_
    rintro e w7 ⟨rfl, hb7⟩
    have HF := Lib.hid (H6.out.below hb7).bel
    clear hb7 H6
    go_wp2_with fail
    go_ret
    exact ⟨rfl, HF.out⟩

/-- the law of any calls that came in -/
theorem plays_any (a : Option Addr) (cap n : Nat) (w : World) (hc : (a = none ∧ n = 0 ∧ cap = 0) ∨ ∃ (x : Addr) (z : Nat → Nat → Int), a = some x ∧ n ≤ cap ∧ cap ≤ maxLen ∧ (0 < n → ∃ b off, x = ⟨b, off, none⟩ ∧ ∀ i j, i < n → j < 4 → w.cell? ⟨b, off + i * 4 + j, none⟩ = some (.int .i64 (z i j)))) :
    Calls Try.prog 3 #[.slice a n cap] w (TrueB w) := by
  rcases hc with ⟨rfl, rfl, rfl⟩ | ⟨x, z, rfl, hl, hm, hx⟩
  · exact plays_nil none 0 w
  · by_cases h0 : n = 0
    · subst h0; exact plays_nil _ cap w
    · obtain ⟨b, off, rfl, h⟩ := hx (by omega)
      unfold maxLen at hm
      exact plays_law b off cap n (fun i => z i 0) (fun i => z i 1) (fun i => z i 2) (fun i => z i 3) w hl (by omega) (by omega) (fun i hi => ⟨h i 0 hi (by omega), h i 1 hi (by omega), h i 2 hi (by omega), h i 3 hi (by omega)⟩)

end Go.Proofs.Ytdfolbnnhglpeaa
