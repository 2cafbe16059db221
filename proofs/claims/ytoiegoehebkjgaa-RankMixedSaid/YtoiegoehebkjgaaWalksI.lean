/- RankMixed: two ranks that were filled in other orders. -/
import Derived.Test.YtoiegoehebkjgaaWalksH
import Derived.Test.YtoiegoehebkjgaaPlainC
namespace Go.Proofs.Ytoiegoehebkjgaa
open Go.RowKit Rk
set_option linter.unusedVariables false

def Ap (r1 h1 g1 r2 h2 g2 : Nat) : Prop := (r1 ≠ r2 ∧ r1 ≠ h2 ∧ r1 ≠ g2) ∧ (h1 ≠ r2 ∧ h1 ≠ h2 ∧ h1 ≠ g2) ∧ g1 ≠ r2 ∧ g1 ≠ h2 ∧ g1 ≠ g2
/-- two ranks of the call's own -/
structure Own2 (B : Nat) (W w : World) (r1 h1 n1 : Nat) (m1 : Mp) (r2 h2 n2 : Nat) (m2 : Mp) : Prop where
  ex : ∃ g1 g2, RK w r1 h1 g1 n1 m1 ∧ RK w r2 h2 g2 n2 m2 ∧ B ≤ g1 ∧ B ≤ g2 ∧ Ap r1 h1 g1 r2 h2 g2
  b1 : B ≤ r1 ∧ B ≤ h1 ∧ B ≤ r2 ∧ B ≤ h2
  bel : Below B W w
theorem Own2.size {B : Nat} {W w : World} {r1 h1 n1 : Nat} {m1 : Mp} {r2 h2 n2 : Nat} {m2 : Mp} (h : Own2 B W w r1 h1 n1 m1 r2 h2 n2 m2) : B ≤ w.heap.size := by
  obtain ⟨g1, g2, k1, k2, x, _⟩ := h.ex; have := k1.lt2; omega
theorem Own2.below {B : Nat} {W w w' : World} {r1 h1 n1 : Nat} {m1 : Mp} {r2 h2 n2 : Nat} {m2 : Mp} (h : Own2 B W w r1 h1 n1 m1 r2 h2 n2 m2) (b : Below w.heap.size w w') : Own2 B W w' r1 h1 n1 m1 r2 h2 n2 m2 := by
  have hs := h.size
  obtain ⟨g1, g2, k1, k2, x⟩ := h.ex
  exact ⟨⟨g1, g2, k1.below b, k2.below b, x⟩, h.b1, h.bel.trans (b.mono hs)⟩
theorem Own2.op1 {B : Nat} {W w w' : World} {r1 h1 g1 n1 n1' : Nat} {m1 m1' : Mp} {r2 h2 g2 n2 : Nat} {m2 : Mp} {v : Value} {e : Ending} (hb : Below B W w) (b1 : B ≤ r1 ∧ B ≤ h1 ∧ B ≤ r2 ∧ B ≤ h2)
    (k1 : RK w r1 h1 g1 n1 m1) (k2 : RK w r2 h2 g2 n2 m2) (x1 : B ≤ g1) (x2 : B ≤ g2) (ap : Ap r1 h1 g1 r2 h2 g2) (o : OpP v r1 h1 g1 n1' m1' w e w') : Own2 B W w' r1 h1 n1' m1' r2 h2 n2 m2 := by
  obtain ⟨_, ⟨g', k1', hg⟩, ho⟩ := o
  have hs : B ≤ w.heap.size := by have := k1.lt2; omega
  have l1 := k2.lt0; have l2 := k2.lt1; have l3 := k2.lt2
  obtain ⟨a1, a2, a3⟩ := ap
  refine ⟨⟨g', g2, k1', k2.only ho ?_ ?_ ?_, by omega, x2, a1, a2, by omega, by omega, by omega⟩, b1, hb.trans (ho.below hs fun k _ hk => ?_)⟩
  · rintro (e | e) <;> omega
  · rintro (e | e) <;> omega
  · rintro (e | e) <;> omega
  · rcases hk with rfl | rfl
    · exact b1.2.1
    · exact x1
theorem Ap.symm {r1 h1 g1 r2 h2 g2 : Nat} (h : Ap r1 h1 g1 r2 h2 g2) : Ap r2 h2 g2 r1 h1 g1 := by unfold Ap at *; omega
theorem Own2.symm {B : Nat} {W w : World} {r1 h1 n1 : Nat} {m1 : Mp} {r2 h2 n2 : Nat} {m2 : Mp} (h : Own2 B W w r1 h1 n1 m1 r2 h2 n2 m2) : Own2 B W w r2 h2 n2 m2 r1 h1 n1 m1 := by
  obtain ⟨g1, g2, k1, k2, x1, x2, ap⟩ := h.ex
  obtain ⟨b1, b2, b3, b4⟩ := h.b1
  exact ⟨⟨g2, g1, k2, k1, x2, x1, ap.symm⟩, ⟨b3, b4, b1, b2⟩, h.bel⟩
def Own2P (v : Value) (B : Nat) (W : World) (r1 h1 n1 : Nat) (m1 : Mp) (r2 h2 n2 : Nat) (m2 : Mp) (e : Ending) (w' : World) : Prop := e = .returned v ∧ Own2 B W w' r1 h1 n1 m1 r2 h2 n2 m2
theorem o2_put1 {B : Nat} {W w : World} {r1 h1 n1 n' : Nat} {m1 m' : Mp} {r2 h2 n2 : Nat} {m2 : Mp} (id k r : Int) (h : Own2 B W w r1 h1 n1 m1 r2 h2 n2 m2) (hN : n1 ≤ 100000) (e1 : putE m1 id = r) (e2 : putN m1 id n1 = n') (e3 : putM m1 id k = m') :
    Calls Try.prog 16 #[.pointer (some ⟨r1, 0, none⟩), .int .i64 id, .int .i64 k] w (Own2P (.int .i64 r) B W r1 h1 n' m' r2 h2 n2 m2) := by
  subst e1 e2 e3
  obtain ⟨g1, g2, k1, k2, x1, x2, ap⟩ := h.ex
  exact (put_any w r1 h1 g1 n1 m1 id k k1 hN).mono fun e w' o => ⟨o.1, Own2.op1 h.bel h.b1 k1 k2 x1 x2 ap o⟩
theorem o2_put2 {B : Nat} {W w : World} {r1 h1 n1 n' : Nat} {m1 m' : Mp} {r2 h2 n2 : Nat} {m2 : Mp} (id k r : Int) (h : Own2 B W w r1 h1 n1 m1 r2 h2 n2 m2) (hN : n2 ≤ 100000) (e1 : putE m2 id = r) (e2 : putN m2 id n2 = n') (e3 : putM m2 id k = m') :
    Calls Try.prog 16 #[.pointer (some ⟨r2, 0, none⟩), .int .i64 id, .int .i64 k] w (Own2P (.int .i64 r) B W r1 h1 n1 m1 r2 h2 n' m') :=
  (o2_put1 id k r h.symm hN e1 e2 e3).mono fun e w' o => ⟨o.1, o.2.symm⟩
theorem o2_low2 {B : Nat} {W w : World} {r1 h1 n1 : Nat} {m1 m' : Mp} {r2 h2 n2 : Nat} {m2 : Mp} (id k r : Int) (h : Own2 B W w r1 h1 n1 m1 r2 h2 n2 m2) (hN : n2 ≤ 100000) (e1 : lowE m2 id k = r) (e3 : lowM m2 id k = m') :
    Calls Try.prog 17 #[.pointer (some ⟨r2, 0, none⟩), .int .i64 id, .int .i64 k] w (Own2P (.int .i64 r) B W r1 h1 n1 m1 r2 h2 n2 m') := by
  subst e1 e3
  have h' := h.symm
  obtain ⟨g1, g2, k1, k2, x1, x2, ap⟩ := h'.ex
  exact (lowr_any w r2 h2 g1 n2 m2 id k k1 hN).mono fun e w' o => ⟨o.1, (Own2.op1 h'.bel h'.b1 k1 k2 x1 x2 ap o).symm⟩
theorem o2_rem2 {B : Nat} {W w : World} {r1 h1 n1 n' : Nat} {m1 : Mp} {r2 h2 n2 : Nat} {m2 : Mp} (id : Int) (r : Bool) (h : Own2 B W w r1 h1 n1 m1 r2 h2 n2 m2) (hN : n2 ≤ 100000) (e1 : (m2 id).isSome = r) (e2 : remN m2 id n2 = n') :
    Calls Try.prog 18 #[.pointer (some ⟨r2, 0, none⟩), .int .i64 id] w (Own2P (.bool r) B W r1 h1 n1 m1 r2 h2 n' (upd m2 id none)) := by
  subst e1 e2
  have h' := h.symm
  obtain ⟨g1, g2, k1, k2, x1, x2, ap⟩ := h'.ex
  exact (rem_any w r2 h2 g1 n2 m2 id k1 hN).mono fun e w' o => ⟨o.1, (Own2.op1 h'.bel h'.b1 k1 k2 x1 x2 ap o).symm⟩
theorem o2_new {B : Nat} {W w : World} {r1 h1 n1 : Nat} {m1 : Mp} (h : Own B W w r1 h1 n1 m1) : Calls Try.prog 7 #[] w (Own2P (.pointer (some ⟨w.heap.size + 1, 0, none⟩)) B W r1 h1 n1 m1 (w.heap.size + 1) w.heap.size 0 (fun _ => none)) :=
  (new_any w).mono fun e w' ⟨he, k2, hb⟩ => by
    have hs := h.size
    have hb' : Below w.heap.size w w' := hb
    obtain ⟨g, k1, x1⟩ := h.ex
    have l1 := k1.lt0; have l2 := k1.lt1; have l3 := k1.lt2
    exact ⟨he, ⟨⟨g, w.heap.size, k1.below hb', k2, x1, hs, by unfold Ap; omega⟩, ⟨h.b1, h.b2, by omega, hs⟩, h.bel.trans (hb'.mono hs)⟩⟩
/-- a row of numbers that came in -/
def Row (w : World) (a : Option Addr) (zs : List Int) : Prop := zs = [] ∨ ∃ b off, a = some ⟨b, off, none⟩ ∧ ∀ i, i < zs.length → w.cell? ⟨b, off + i, none⟩ = some (.int .i64 (zs.getD i 0))

/-- the law where there are no keys -/
theorem mk_zero (z : Nat → Int) : mk z 0 = fun _ => none := rfl
set_option maxRecDepth 100000 in
set_option maxHeartbeats 4000000 in
theorem mixed_nil (a : Option Addr) (cap : Nat) (turn : Int) (w : World) : Calls Try.prog 5 #[.slice a 0 cap, .int .i64 turn] w (TrueB w) := by
  have hmin : min (0 : Int) 64 = 0 := by decide
  go_enter Try.func5, Try.ntmps5
  go_wp2_with fail
  refine (own_new w).mono ?_
  rintro e w1 ⟨rfl, h1⟩
  have H1 := Lib.hid h1; clear h1
  go_wp2_with fail
  refine (o2_new H1.out).mono ?_
  rintro e w2 ⟨rfl, h2⟩
  obtain ⟨r2, hr2⟩ : ∃ r2, w1.heap.size + 1 = r2 := ⟨_, rfl⟩
  rw [hr2] at h2
  have H2 := Lib.hid h2; clear h2
  have HR2 := Lib.hid hr2
  clear H1
  rw [hr2]
  clear hr2 HR2
  generalize w1.heap.size = q2 at *
  go_wp2_with fail
  go_loopw [8] (fun i wr => i = .int .i64 0 ∧ Hid (Own2 w.heap.size w wr (w.heap.size + 1) w.heap.size 0 (fun _ => none) r2 q2 0 (fun _ => none))) (fun _ _ => 0)
  case atStart => exact ⟨rfl, H2⟩
  case round =>
    clear H2
    obtain ⟨rfl, HO⟩ := hrel
    go_wp2_with fail
    go_loopw [9] (fun i wr => i = .int .i64 0 ∧ Hid (Own2 w.heap.size w wr (w.heap.size + 1) w.heap.size 0 (fun _ => none) r2 q2 0 (fun _ => none))) (fun _ _ => 0)
    case atStart => exact ⟨rfl, HO⟩
    case round =>
      clear HO
      obtain ⟨rfl, HO⟩ := hrel
      obtain ⟨g1, g2, k1, k2, x1, x2, ap⟩ := HO.out.ex
      have HO' := Lib.hid HO.out
      go_wp2_with fail
      refine (ids_any wr _ _ g1 _ _ k1 (by omega)).mono ?_
      rintro e w3 ⟨ga, P, rfl, hP, hPl, hPo, hb3⟩
      have K2 := k2.below hb3
      have HO3 := Lib.hid (HO.out.below hb3)
      have HPo := Lib.hid hPo
      have HB3 := Lib.hid hb3
      have HP := Lib.hid hP
      have HPl := Lib.hid hPl
      clear hP hPl hPo hb3 k1 k2
      go_wp2_with fail
      refine (ids_any w3 _ _ g2 _ _ K2 (by omega)).mono ?_
      rintro e w4 ⟨gb, P', rfl, hP', hPl', hPo', hb4⟩
      obtain rfl : P = P' := HP.out.unique hP'
      have HO4 := Lib.hid (HO3.out.below hb4)
      have HQ := Lib.hid (ids_cell hPo' hPl')
      have HQ' : Hid (∀ i, i < 0 → w4.cell? ⟨ga, i, none⟩ = some (.int .i64 (P.getD i (0, 0)).1)) := fun i hi => (hb4.cell (p := ⟨ga, i, none⟩) (HPo.out.lt ga rfl).2).trans (ids_cell HPo.out HPl.out i hi)
      clear hP' hPl' hPo' hb4 K2
      go_wp2_with fail
      refine (eq_cells ga gb 0 0 0 (fun i => (P.getD i (0, 0)).1) w4 (by omega) HQ'.out HQ.out).mono ?_
      rintro e w5 ⟨rfl, hb5⟩
      have HO5 := Lib.hid (HO4.out.below hb5)
      clear hb5
      go_wp2_with fail
      refine (works_any w5).mono ?_
      rintro e w6 ⟨rfl, hb6⟩
      have HO6 := Lib.hid (HO5.out.below hb6)
      clear hb6
      go_wp2_with fail
      go_ret
      exact ⟨rfl, HO6.out.bel⟩

theorem low_max {m : Mp} {id k K : Int} (h : 0 ≤ id ∧ id ≤ 63) (hk : k ≤ K) : lowE (upd m id (some K)) id k = 0 ∧ lowM (upd m id (some K)) id k = upd m id (some k) := by
  have := low_ok (m := upd m id (some K)) (k := k) (k0 := K) h (upd_same _ _ _) hk
  rw [upd_upd] at this
  exact this

set_option maxRecDepth 100000 in
set_option maxHeartbeats 8000000 in
theorem mixed_some (b off cap n : Nat) (z : Nat → Int) (turn : Int) (w : World) (hn0 : 0 < n) (hl : n ≤ 9223372036854775807) (hc : ∀ i, i < n → w.cell? ⟨b, off + i, none⟩ = some (.int .i64 (z i))) :
    Calls Try.prog 5 #[.slice (some ⟨b, off, none⟩) n cap, .int .i64 turn] w (TrueB w) := by
  obtain ⟨N, hN0, hN1, hN2, hmin⟩ : ∃ N : Nat, 0 < N ∧ N ≤ 64 ∧ N ≤ n ∧ min (n : Int) 64 = (N : Int) := by
    by_cases h : 64 < n
    · exact ⟨64, by omega, by omega, by omega, by omega⟩
    · exact ⟨n, by omega, by omega, by omega, by omega⟩
  have HC := Lib.hid hc; clear hc
  go_enter Try.func5, Try.ntmps5
  go_wp2_with fail
  refine (own_new w).mono ?_
  rintro e w1 ⟨rfl, h1⟩
  have H1 := Lib.hid h1; clear h1
  go_wp2_with fail
  refine (o2_new H1.out).mono ?_
  rintro e w2 ⟨rfl, h2⟩
  obtain ⟨r2, hr2⟩ : ∃ r2, w1.heap.size + 1 = r2 := ⟨_, rfl⟩
  rw [hr2] at h2
  have H2 := Lib.hid h2; clear h2
  have HR2 := Lib.hid hr2
  clear H1
  rw [hr2]
  clear hr2 HR2
  generalize w1.heap.size = q2 at *
  go_wp2_with fail
  go_loopw [8] (fun i wr => ∃ k : Nat, k ≤ N ∧ i = .int .i64 k ∧ Hid (Own2 w.heap.size w wr (w.heap.size + 1) w.heap.size k (mk z k) r2 q2 0 (fun _ => none))) (fun i _ => N - (intOf i).toNat)
  case atStart => exact ⟨0, Nat.zero_le _, rfl, H2⟩
  case round =>
    clear H2
    obtain ⟨k, hk, rfl, HO⟩ := hrel
    by_cases hlt : k < N
    · have e1 := HC.out k (by omega)
      have hcell := (HO.out.bel.cell (p := ⟨b, off + k, none⟩) (World.block_lt_of_cell? w _ e1)).trans e1
      clear e1
      have hm : mk z k (k : Nat) = none := by rw [mk_at, if_neg (by omega)]
      obtain ⟨p1, p2, p3⟩ := put_ok (m := mk z k) (z k) k (by omega : (0 : Int) ≤ (k : Nat) ∧ ((k : Nat) : Int) ≤ 63) hm
      have P1 := Lib.hid p1; have P2 := Lib.hid p2; have P3 := Lib.hid p3
      clear hm p1 p2 p3
      generalize hzk : z k = zk at *
      have HZ := Lib.hid hzk
      clear hzk
      go_wp2_with fail
      refine (o2_put1 k zk 0 HO.out (by omega) P1.out P3.out P2.out).mono ?_
      rintro e w3 ⟨rfl, h3⟩
      have H3 : Hid (Own2 w.heap.size w w3 (w.heap.size + 1) w.heap.size (k + 1) (mk z (k + 1)) r2 q2 0 (fun _ => none)) := by unfold mk; rw [HZ.out]; exact h3
      clear h3 HO
      go_wp2_with fail
      go_roundw
      case rel => exact ⟨k + 1, by omega, by go_num, H3⟩
      case measure => simp [intOf]; omega
    · obtain rfl : N = k := by omega
      obtain ⟨t, ht⟩ : ∃ t : Nat, bringN turn N = t := ⟨(bringN turn N).toNat, by have := (bring_bd turn N (by omega)).1; omega⟩
      have htN : t < N := by have := (bring_bd turn N (by omega)).2; omega
      have HT := Lib.hid ht
      clear ht hlt hk
      have hz : ((N : Int) == 0) = false := by simp; omega
      go_wp2_with fail
      go_loopw [9] (fun i wr => ∃ i' : Nat, i' ≤ N ∧ i = .int .i64 i' ∧ Hid (Own2 w.heap.size w wr (w.heap.size + 1) w.heap.size N (mk z N) r2 q2 i' (mt z N t i'))) (fun i _ => N - (intOf i).toNat)
      case atStart => exact ⟨0, Nat.zero_le _, rfl, HO⟩
      case round =>
        clear HO
        obtain ⟨i, hi, rfl, HO⟩ := hrel
        by_cases hlt : i < N
        · obtain ⟨q, hq⟩ : ∃ q, tn N t i = q := ⟨_, rfl⟩
          have hqN : q < N := by rw [← hq]; exact tn_lt hN0
          have hqe : ((i : Int) + (t : Int)) % (N : Int) = (q : Int) := by rw [← hq]; simp [tn]
          have e1 := HC.out q (by omega)
          have hcell := (HO.out.bel.cell (p := ⟨b, off + q, none⟩) (World.block_lt_of_cell? w _ e1)).trans e1
          clear e1
          obtain ⟨K, hK, hmax⟩ : ∃ K : Int, z q ≤ K ∧ max (z q) 1099511627776 = K := ⟨_, Int.le_max_left _ _, rfl⟩
          have hm : mt z N t i (q : Nat) = none := by rw [← hq]; exact mt_new htN i i (Nat.le_refl _) hlt
          have hq0 : (0 : Int) ≤ (q : Nat) ∧ ((q : Nat) : Int) ≤ 63 := by omega
          have P1 := Lib.hid (put_ok (m := mt z N t i) K i hq0 hm)
          have P2 := Lib.hid (low_max (m := mt z N t i) hq0 hK)
          have P3 : Hid (remN (upd (mt z N t i) (q : Nat) (some (z q))) (q : Nat) (i + 1) = i) := by unfold Hid remN; rw [upd_same]; rfl
          have P4 := Lib.hid (put_ok (m := upd (mt z N t i) (q : Nat) none) (z q) i hq0 (upd_same _ _ _))
          have hstep : mt z N t (i + 1) = upd (mt z N t i) (q : Nat) (some (z q)) := by show upd _ _ _ = _; rw [hq]
          have HS := Lib.hid hstep
          have HQ := Lib.hid hq
          have P5 : Hid ((upd (mt z N t i) (q : Nat) (some (z q)) (q : Nat)).isSome = true) := by unfold Hid; rw [upd_same]; rfl
          clear hm hstep hq
          generalize hzq : z q = zq at *
          have HZ := Lib.hid hzq
          clear hzq
          cases h3 : (((i : Int) % 3) == 0) with
          | true =>
            go_wp2_with fail
            refine (bring_any turn N _ (by omega) (by omega)).mono ?_
            rintro e w3 ⟨rfl, rfl⟩
            rw [HT.out]
            go_wp2_with fail
            refine (o2_put2 q K 0 HO.out (by omega) P1.out.1 P1.out.2.2 P1.out.2.1).mono ?_
            rintro e w4 ⟨rfl, h4⟩
            have H4 := Lib.hid h4
            have hcell4 := (h4.bel.cell (p := ⟨b, off + q, none⟩) (World.block_lt_of_cell? w _ (HC.out q (by omega)))).trans (HC.out q (by omega))
            rw [HZ.out] at hcell4
            clear h4 HO hcell
            go_wp2_with fail
            refine (o2_low2 q zq 0 H4.out (by omega) P2.out.1 P2.out.2).mono ?_
            rintro e w5 ⟨rfl, h5⟩
            have H5 := Lib.hid h5
            clear h5 H4 hcell4
            go_wp2_with fail
            refine (o2_rem2 q true H5.out (by omega) P5.out P3.out).mono ?_
            rintro e w6 ⟨rfl, h6⟩
            rw [upd_upd] at h6
            have H6 := Lib.hid h6
            have hcell6 := (h6.bel.cell (p := ⟨b, off + q, none⟩) (World.block_lt_of_cell? w _ (HC.out q (by omega)))).trans (HC.out q (by omega))
            rw [HZ.out] at hcell6
            clear h6 H5
            go_wp2_with fail
            refine (o2_put2 q zq 0 H6.out (by omega) P4.out.1 P4.out.2.2 P4.out.2.1).mono ?_
            rintro e w7 ⟨rfl, h7⟩
            rw [upd_upd, ← HS.out] at h7
            have H7 := Lib.hid h7
            clear h7 H6 hcell6
            go_wp2_with fail
            go_roundw
            case rel => exact ⟨i + 1, by omega, by go_num, H7⟩
            case measure => simp [intOf]; omega
          | false =>
            go_wp2_with fail
            refine (bring_any turn N _ (by omega) (by omega)).mono ?_
            rintro e w3 ⟨rfl, rfl⟩
            rw [HT.out]
            go_wp2_with fail
            refine (o2_put2 q K 0 HO.out (by omega) P1.out.1 P1.out.2.2 P1.out.2.1).mono ?_
            rintro e w4 ⟨rfl, h4⟩
            have H4 := Lib.hid h4
            have hcell4 := (h4.bel.cell (p := ⟨b, off + q, none⟩) (World.block_lt_of_cell? w _ (HC.out q (by omega)))).trans (HC.out q (by omega))
            rw [HZ.out] at hcell4
            clear h4 HO hcell
            go_wp2_with fail
            refine (o2_low2 q zq 0 H4.out (by omega) P2.out.1 P2.out.2).mono ?_
            rintro e w5 ⟨rfl, h5⟩
            rw [← HS.out] at h5
            have H5 := Lib.hid h5
            clear h5 H4 hcell4
            go_wp2_with fail
            go_roundw
            case rel => exact ⟨i + 1, by omega, by go_num, H5⟩
            case measure => simp [intOf]; omega
        · obtain rfl : N = i := by omega
          have HO := Lib.hid (show Own2 w.heap.size w wr (w.heap.size + 1) w.heap.size N (mk z N) r2 q2 N (mk z N) by have := HO.out; rwa [mt_all htN] at this)
          obtain ⟨g1, g2, k1, k2, x1, x2, ap⟩ := HO.out.ex
          have HO' := Lib.hid HO.out
          go_wp2_with fail
          refine (ids_any wr _ _ g1 _ _ k1 (by omega)).mono ?_
          rintro e w3 ⟨ga, P, rfl, hP, hPl, hPo, hb3⟩
          have K2 := k2.below hb3
          have HO3 := Lib.hid (HO.out.below hb3)
          have HPo := Lib.hid hPo
          have HB3 := Lib.hid hb3
          have HP := Lib.hid hP
          have HPl := Lib.hid hPl
          clear hP hPl hPo hb3 k1 k2
          go_wp2_with fail
          refine (ids_any w3 _ _ g2 _ _ K2 (by omega)).mono ?_
          rintro e w4 ⟨gb, P', rfl, hP', hPl', hPo', hb4⟩
          obtain rfl : P = P' := HP.out.unique hP'
          have HO4 := Lib.hid (HO3.out.below hb4)
          have HQ := Lib.hid (ids_cell hPo' hPl')
          have HQ' : Hid (∀ i, i < N → w4.cell? ⟨ga, i, none⟩ = some (.int .i64 (P.getD i (0, 0)).1)) := fun i hi => (hb4.cell (p := ⟨ga, i, none⟩) (HPo.out.lt ga rfl).2).trans (ids_cell HPo.out HPl.out i hi)
          clear hP' hPl' hPo' hb4 K2
          go_wp2_with fail
          refine (eq_cells ga gb N N N (fun i => (P.getD i (0, 0)).1) w4 (by omega) HQ'.out HQ.out).mono ?_
          rintro e w5 ⟨rfl, hb5⟩
          have HO5 := Lib.hid (HO4.out.below hb5)
          clear hb5
          go_wp2_with fail
          refine (works_any w5).mono ?_
          rintro e w6 ⟨rfl, hb6⟩
          have HO6 := Lib.hid (HO5.out.below hb6)
          clear hb6
          go_wp2_with fail
          go_ret
          exact ⟨rfl, HO6.out.bel⟩
theorem mixed_law (a : Option Addr) (cap n : Nat) (zs : List Int) (turn : Int) (w : World) (hn : n = zs.length) (hl : n ≤ 9223372036854775807) (hr : Row w a zs) :
    Calls Try.prog 5 #[.slice a n cap, .int .i64 turn] w (TrueB w) := by
  rcases hr with rfl | ⟨b, off, rfl, hc⟩
  · obtain rfl : n = 0 := by simpa using hn
    exact mixed_nil a cap turn w
  · by_cases h0 : n = 0
    · subst h0; exact mixed_nil _ cap turn w
    · exact mixed_some b off cap n (fun i => zs.getD i 0) turn w (by omega) hl (fun i hi => hc i (by omega))

end Go.Proofs.Ytoiegoehebkjgaa
