/- What is more, the delay by a task, the delay of so many ticks: the program's. -/
import Derived.Test.YthhdfmpoebedcaaDelC
import Derived.Lib.QuietBelow
import Derived.IntWalk
namespace Go.Proofs.Ythhdfmpoebedcaa
open Go.RowKit Tk De Dl Go.Sort
set_option linter.unusedVariables false

theorem tb_b6 {bd : Int} {t : Nat → Int} (h : TB bd t) (hg : 0 < t 5) : t 6 ≤ 64 := by
  have h0 := h.n0 hg
  have htk := tOK_iff.1 h.ok
  have : t 6 * 1 ≤ t 6 * t 7 := Int.mul_le_mul_of_nonneg_left h0.2.2.1 (by omega)
  omega
/-- partitions, one of which is looked at, as a value -/
structure LK (w : World) (ps : List Pn) (a : Option Addr) (m cap q : Nat) (ta : Option Addr) (tcap : Nat) : Prop where
  p : PS w (.slice a m cap) ps
  ok : chkP ps = true
  lt : q < m
  t : TK w (.slice ta (ps.getD q p0).n tcap) (ps.getD q p0).n (ps.getD q p0).z
  l1 : (ps.getD q p0).n ≤ tcap
  l2 : tcap ≤ maxLen
theorem LK.below {w w' : World} {ps : List Pn} {a : Option Addr} {m cap q : Nat} {ta : Option Addr} {tcap : Nat} (h : LK w ps a m cap q ta tcap) (b : Below w.heap.size w w') : LK w' ps a m cap q ta tcap :=
  ⟨h.p.below b, h.ok, h.lt, h.t.below b, h.l1, h.l2⟩
theorem LK.tb {w : World} {ps : List Pn} {a : Option Addr} {m cap q : Nat} {ta : Option Addr} {tcap : Nat} (h : LK w ps a m cap q ta tcap) : PB (ps.getD q p0) := chkP_at h.ok (by have := h.p.len; have := h.lt; omega)
/-- the value that is looked at -/
abbrev lkv (ps : List Pn) (a : Option Addr) (m cap q : Nat) (ta : Option Addr) (tcap : Nat) : Value := lv (ps.getD q p0).per (ps.getD q p0).bud ta (ps.getD q p0).n tcap a m cap q
/-- both boxes -/
theorem box_at {w : World} {per bud : Int} {ta : Option Addr} {n tcap : Nat} {a : Option Addr} {m cap q : Nat} {t : Nat → Int} (W : World) (hW : W = (w.alloc (lvo per bud ta n tcap a m cap q)).alloc (tko t)) :
    (W.cell? ⟨w.heap.size, 0, none⟩ = some (.int .i64 per) ∧ W.cell? ⟨w.heap.size, 1, none⟩ = some (.int .i64 bud) ∧ W.cell? ⟨w.heap.size, 2, none⟩ = some (.slice ta n tcap) ∧ W.cell? ⟨w.heap.size, 3, none⟩ = some (.slice a m cap) ∧ W.cell? ⟨w.heap.size, 4, none⟩ = some (.int .i64 q)) ∧
    (∀ j, j < 8 → W.cell? ⟨w.heap.size + 1, j, none⟩ = some (.int .i64 (t j))) ∧ Below w.heap.size w W := by
  subst hW
  have h1 := heap_alloc_new w (lvo per bud ta n tcap a m cap q)
  have h2 := (Below.heap_alloc _ (tko t) _ (lt_of_block h1)).trans h1
  refine ⟨⟨cell_of_row _ _ 0 _ _ _ h2, cell_of_row _ _ 1 _ _ _ h2, cell_of_row _ _ 2 _ _ _ h2, cell_of_row _ _ 3 _ _ _ h2, cell_of_row _ _ 4 _ _ _ h2⟩, fun j hj => ?_, ((Below.refl _ w).alloc (Nat.le_refl _) _).alloc (by simp) _⟩
  have := tko_at (w.alloc (lvo per bud ta n tcap a m cap q)) t hj
  rwa [World.size_alloc] at this
set_option maxRecDepth 100000 in
set_option maxHeartbeats 4000000 in
theorem more1_any {w : World} {per bud : Int} {ta : Option Addr} {n tcap : Nat} {a : Option Addr} {m cap q : Nat} {t : Nat → Int} {ps : List Pn} {bd : Int} (hP : PS w (.slice a m cap) ps) (hok : chkP ps = true) (ht : TB bd t) :
    Calls Try.prog 41 #[lv per bud ta n tcap a m cap q, tv t] w (YI (mor ps q t) w) := by
  have hwb := wait_bd hok q t
  have h5 := ht.g0
  have htk := tOK_iff.1 ht.ok
  have hn0 := ht.n0
  have hn6 := tb_b6 ht
  obtain ⟨R, hR⟩ : ∃ R, R = mor ps q t := ⟨_, rfl⟩
  have HR := Lib.hid hR
  rw [← hR]
  have HWA := Lib.hid (fun W (b : Below w.heap.size w W) => wait_any (per := per) (bud := bud) (ta := ta) (n := n) (tcap := tcap) (q := q) (hP.below b) hok h5)
  obtain ⟨W2, hW2⟩ : ∃ W2, W2 = (w.alloc (lvo per bud ta n tcap a m cap q)).alloc (tko t) := ⟨_, rfl⟩
  obtain ⟨⟨b0, b1, b2, b3, b4⟩, bt, hB⟩ := box_at W2 hW2
  have HB := Lib.hid hB
  have HMO : Hid (mor ps q t = if 0 < t 5 then t 7 * (wait ps q t + t 6 - 1) else 0) := rfl
  generalize wait ps q t = wa at *
  have c5 := bt 5 (by decide); have c6 := bt 6 (by decide); have c7 := bt 7 (by decide)
  have c0 := bt 0 (by decide); have c1 := bt 1 (by decide); have c2 := bt 2 (by decide); have c3 := bt 3 (by decide); have c4 := bt 4 (by decide)
  unfold lvo tko at hW2
  unfold lv tv at HWA ⊢
  clear hR hP hB bt ht
  generalize t 0 = t0 at *
  generalize t 1 = t1 at *
  generalize t 2 = t2 at *
  generalize t 3 = t3 at *
  generalize t 4 = t4 at *
  generalize t 5 = t5 at *
  generalize t 6 = t6 at *
  generalize t 7 = t7 at *
  have HW2 := Lib.hid hW2
  cases h0 : t5 == 0 with
  | true =>
    have HE : Hid (R = 0) := by
      have : t5 = 0 := by simpa using h0
      unfold Hid; rw [HR.out, HMO.out, if_neg (by omega)]
    rw [hW2] at HB
    clear hn0 hn6 htk hwb h5 hW2 b0 b1 b2 b3 b4 c0 c1 c2 c3 c4 c5 c6 c7
    go_enter Try.func41, Try.ntmps41
    go_wp2_with fail
    go_ret
    exact ⟨by rw [HE.out]; rfl, HB.out⟩
  | false =>
    have hg : 0 < t5 := by have : t5 ≠ 0 := by simpa using h0
                           omega
    have h0' := hn0 hg
    have h6' := hn6 hg
    have HE : Hid (R = t7 * (wa + t6 - 1)) := by unfold Hid; rw [HR.out, HMO.out, if_pos hg]
    have p1 : 0 ≤ t7 * (wa + t6 - 1) := Int.mul_nonneg (by omega) (by omega)
    have p2 : t7 * (wa + t6 - 1) ≤ 64 * 1000 := Int.mul_le_mul (by omega) (by omega) (by omega) (by decide)
    have w1 : IntKind.i64.wrap (wa + t6) = wa + t6 := IntWalk.i64_in _ (by omega)
    have w2 : IntKind.i64.wrap (wa + t6 - 1) = wa + t6 - 1 := IntWalk.i64_in _ (by omega)
    have w3 : IntKind.i64.wrap (t7 * (wa + t6 - 1)) = t7 * (wa + t6 - 1) := IntWalk.i64_in _ (by omega)
    have v1 : wrap64 (wa + t6) = wa + t6 := by unfold wrap64; omega
    have v2 : wrap64 (wa + t6 - 1) = wa + t6 - 1 := by unfold wrap64; omega
    have v3 : wrap64 (t7 * (wa + t6 - 1)) = t7 * (wa + t6 - 1) := by unfold wrap64; omega
    have k0 := cell_regrown b0; have k1 := cell_regrown b1; have k2 := cell_regrown b2; have k3 := cell_regrown b3; have k4 := cell_regrown b4
    have d0 := cell_regrown c0; have d1 := cell_regrown c1; have d2 := cell_regrown c2; have d3 := cell_regrown c3; have d4 := cell_regrown c4; have d5 := cell_regrown c5; have d6 := cell_regrown c6; have d7 := cell_regrown c7
    have cQ := Lib.hid (fun d os => Calls.regrown_of (HWA.out _ (HB.out.trans ((below_regrown W2 d os).mono HB.out.size))))
    have mixed : Try.prog.follows .mixedOrders = true := by kernel_rfl
    clear hW2 hn0 hn6 htk hwb h5 b0 b1 b2 b3 b4 c0 c1 c2 c3 c4 c5 c6 c7 HWA p1 p2 hg h0' h6'
    go_enter Try.func41, Try.ntmps41
    go_wp2_with fail
    rw [← HW2.out]
    refine wp_region_quiet_below (by assumption) (by kernel_rfl) ?_
    repeat (quiet_step (first | exact cQ.out _ _))
    refine wpQuiet_nil ?_
    intro _ hw'
    obtain ⟨⟨dq, osq⟩, hw''⟩ := hw'
    subst hw''
    have HF := Lib.hid (HB.out.trans ((below_regrown W2 dq osq).mono HB.out.size))
    clear k0 k1 k2 k3 k4 d0 d1 d2 d3 d4 d5 d6 d7 cQ
    go_wp2_with fail
    go_ret
    exact ⟨by rw [HE.out]; first | rfl | simp [w1, w2, w3, v1, v2, v3], HF.out⟩
set_option maxRecDepth 100000 in
set_option maxHeartbeats 4000000 in
theorem by_any {w : World} {per bud : Int} {ta : Option Addr} {n tcap : Nat} {a : Option Addr} {m cap q : Nat} {t : Nat → Int} {ps : List Pn} {bd : Int} (hP : PS w (.slice a m cap) ps) (hok : chkP ps = true) (ht : TB bd t) :
    Calls Try.prog 62 #[lv per bud ta n tcap a m cap q, tv t] w (YI (del1 ps q t) w) := by
  have hwb := wait_bd hok q t
  have h5 := ht.g0
  have htk := tOK_iff.1 ht.ok
  have hn0 := ht.n0
  have hn6 := tb_b6 ht
  obtain ⟨R, hR⟩ : ∃ R, R = del1 ps q t := ⟨_, rfl⟩
  have HR := Lib.hid hR
  rw [← hR]
  have HWA := Lib.hid (fun W (b : Below w.heap.size w W) => wait_any (per := per) (bud := bud) (ta := ta) (n := n) (tcap := tcap) (q := q) (hP.below b) hok h5)
  obtain ⟨W2, hW2⟩ : ∃ W2, W2 = (w.alloc (lvo per bud ta n tcap a m cap q)).alloc (tko t) := ⟨_, rfl⟩
  obtain ⟨⟨b0, b1, b2, b3, b4⟩, bt, hB⟩ := box_at W2 hW2
  have HB := Lib.hid hB
  have HMO : Hid (del1 ps q t = if 0 < t 5 then max (t 4) (wait ps q t + 2 * t 6 - 1) else t 4) := rfl
  have h4 := ht.l0; have h4' := ht.l1
  generalize wait ps q t = wa at *
  have c5 := bt 5 (by decide); have c6 := bt 6 (by decide); have c7 := bt 7 (by decide)
  have c0 := bt 0 (by decide); have c1 := bt 1 (by decide); have c2 := bt 2 (by decide); have c3 := bt 3 (by decide); have c4 := bt 4 (by decide)
  unfold lvo tko at hW2
  unfold lv tv at HWA ⊢
  clear hR hP hB bt ht
  generalize t 0 = t0 at *
  generalize t 1 = t1 at *
  generalize t 2 = t2 at *
  generalize t 3 = t3 at *
  generalize t 4 = t4 at *
  generalize t 5 = t5 at *
  generalize t 6 = t6 at *
  generalize t 7 = t7 at *
  have HW2 := Lib.hid hW2
  cases h0 : t5 == 0 with
  | true =>
    have HE : Hid (R = t4) := by
      have : t5 = 0 := by simpa using h0
      unfold Hid; rw [HR.out, HMO.out, if_neg (by omega)]
    rw [hW2] at HB
    clear hn0 hn6 htk hwb h5 hW2 h4 h4' b0 b1 b2 b3 b4 c0 c1 c2 c3 c4 c5 c6 c7
    go_enter Try.func62, Try.ntmps62
    go_wp2_with fail
    go_ret
    exact ⟨by rw [HE.out]; rfl, HB.out⟩
  | false =>
    have hg : 0 < t5 := by have : t5 ≠ 0 := by simpa using h0
                           omega
    have h0' := hn0 hg
    have h6' := hn6 hg
    have HE : Hid (R = max t4 (wa + 2 * t6 - 1)) := by unfold Hid; rw [HR.out, HMO.out, if_pos hg]
    have w0 : IntKind.i64.wrap (2 * t6) = 2 * t6 := IntWalk.i64_in _ (by omega)
    have w1 : IntKind.i64.wrap (wa + 2 * t6) = wa + 2 * t6 := IntWalk.i64_in _ (by omega)
    have w2 : IntKind.i64.wrap (wa + 2 * t6 - 1) = wa + 2 * t6 - 1 := IntWalk.i64_in _ (by omega)
    have v0 : wrap64 (2 * t6) = 2 * t6 := by unfold wrap64; omega
    have v1 : wrap64 (wa + 2 * t6) = wa + 2 * t6 := by unfold wrap64; omega
    have v2 : wrap64 (wa + 2 * t6 - 1) = wa + 2 * t6 - 1 := by unfold wrap64; omega
    have k0 := cell_regrown b0; have k1 := cell_regrown b1; have k2 := cell_regrown b2; have k3 := cell_regrown b3; have k4 := cell_regrown b4
    have d0 := cell_regrown c0; have d1 := cell_regrown c1; have d2 := cell_regrown c2; have d3 := cell_regrown c3; have d4 := cell_regrown c4; have d5 := cell_regrown c5; have d6 := cell_regrown c6; have d7 := cell_regrown c7
    have cQ := Lib.hid (fun d os => Calls.regrown_of (HWA.out _ (HB.out.trans ((below_regrown W2 d os).mono HB.out.size))))
    have mixed : Try.prog.follows .mixedOrders = true := by kernel_rfl
    clear hW2 hn0 hn6 htk hwb h5 b0 b1 b2 b3 b4 c0 c1 c2 c3 c4 c5 c6 c7 HWA hg h0' h6' h4 h4'
    go_enter Try.func62, Try.ntmps62
    go_wp2_with fail
    rw [← HW2.out]
    refine wp_region_quiet_below (by assumption) (by kernel_rfl) ?_
    repeat (quiet_step (first | exact cQ.out _ _))
    refine wpQuiet_nil ?_
    intro _ hw'
    obtain ⟨⟨dq, osq⟩, hw''⟩ := hw'
    subst hw''
    have HF := Lib.hid (HB.out.trans ((below_regrown W2 dq osq).mono HB.out.size))
    clear k0 k1 k2 k3 k4 d0 d1 d2 d3 d4 d5 d6 d7 cQ
    go_wp2_with fail
    all_goals go_ret
    all_goals exact ⟨by rw [HE.out]; exact congrArg (fun z => Ending.returned (.int .i64 z)) (by omega), HF.out⟩
set_option maxRecDepth 100000 in
set_option maxHeartbeats 4000000 in
theorem del_any {w : World} {ps : List Pn} {a : Option Addr} {m cap q : Nat} {ta : Option Addr} {tcap : Nat} (h : LK w ps a m cap q ta tcap) (T : Int) :
    Calls Try.prog 48 #[lkv ps a m cap q ta tcap, .int .i64 T] w (YI (del ps q T (ps.getD q p0).n) w) := by
  have hpb := h.tb
  obtain ⟨n, hn⟩ : ∃ n, n = (ps.getD q p0).n := ⟨_, rfl⟩
  obtain ⟨z, hz⟩ : ∃ z, z = (ps.getD q p0).z := ⟨_, rfl⟩
  have hT := h.t
  have hn4 := hpb.n4
  have htb := hpb.t
  have hl2 := h.l2
  rw [← hn, ← hz] at hT
  rw [← hn] at hn4
  rw [← hn, ← hz] at htb
  unfold lkv
  rw [← hn]
  generalize (ps.getD q p0).per = per at *
  generalize (ps.getD q p0).bud = bud at *
  have HBY := Lib.hid (fun W (b : Below w.heap.size w W) i (hi : i < n) => by_any (per := per) (bud := bud) (ta := ta) (n := n) (tcap := tcap) (q := q) (h.p.below b) h.ok (htb i hi))
  have HST : Hid (∀ i, del ps q T (i + 1) = if z i 1 ≤ T then del ps q T i else max (del ps q T i) (del1 ps q (z i))) := fun i => by rw [del, hz]
  have hk := heap_alloc_new w (lvo per bud ta n tcap a m cap q)
  have hB := (Below.refl _ w).alloc (Nat.le_refl _) (lvo per bud ta n tcap a m cap q)
  have HTK := Lib.hid hT
  have hmx : n ≤ 9223372036854775807 := by omega
  have z2 := cell_of_row _ _ 2 _ _ _ hk
  have HKK := Lib.hid hk; have HB0 := Lib.hid hB
  change _ = some (Value.slice ta n tcap) at z2
  unfold lvo at HKK HB0 z2
  unfold lv at HBY ⊢
  clear hk hB hT hn4 htb hpb hl2 h hn hz
  go_enter Try.func48, Try.ntmps48
  go_wp2_with fail
  clear z2
  go_loopw [5, 12] (fun s i wr => ∃ k : Nat, k ≤ n ∧ i = .int .i64 k ∧ s = .int .i64 (del ps q T k) ∧ Hid (wr.heap[w.heap.size]? = some (.cells #[.int .i64 per, .int .i64 bud, .slice ta n tcap, .slice a m cap, .int .i64 q] 82 (0, 0))) ∧ Hid (Below w.heap.size w wr)) (fun _ i _ => n - (intOf i).toNat)
  case atStart => exact ⟨0, by omega, rfl, rfl, HKK.out, HB0.out⟩
  case round =>
    clear HKK HB0
    obtain ⟨k, hk, rfl, rfl, HKK, HB⟩ := hrel
    by_cases hlt : k < n
    · obtain ⟨b, off, rfl, c⟩ := (HTK.out.below HB.out).at hlt
      obtain ⟨c0, c1, c2, c3, c4, c5, c6, c7⟩ := c
      have HS := Lib.hid (HST.out k)
      have hA := (Below.refl _ wr).alloc (Nat.le_refl _) (tko (z k))
      have HB2 := Lib.hid (HB.out.trans (hA.mono HB.out.size))
      have HK2 := Lib.hid ((hA.block _ (lt_of_block HKK.out)).trans HKK.out)
      have HC := Lib.hid (HBY.out _ HB2.out k hlt)
      have e0 := cell_of_row _ _ 0 _ _ _ HK2.out
      have e1 := cell_of_row _ _ 1 _ _ _ HK2.out
      have e2 := cell_of_row _ _ 2 _ _ _ HK2.out
      have e3 := cell_of_row _ _ 3 _ _ _ HK2.out
      have e4 := cell_of_row _ _ 4 _ _ _ HK2.out
      change _ = some (Value.int .i64 per) at e0
      change _ = some (Value.int .i64 bud) at e1
      change _ = some (Value.slice _ n tcap) at e2
      change _ = some (Value.slice a m cap) at e3
      change _ = some (Value.int .i64 q) at e4
      obtain ⟨X, hX⟩ : ∃ X, X = del1 ps q (z k) := ⟨_, rfl⟩
      rw [← hX] at HS HC
      obtain ⟨D, hD⟩ : ∃ D, D = del ps q T k := ⟨_, rfl⟩
      rw [← hD] at HS ⊢
      clear hX hD hA
      unfold tko at HB2 HK2 HC e0 e1 e2 e3 e4
      unfold tv at HC
      cases hd : decide (T < z k 1) with
      | false =>
        have HE : Hid (del ps q T (k + 1) = D) := HS.out.trans (if_pos (by have := of_decide_eq_false hd; omega))
        clear HS HC
        go_wp2_with fail
        go_roundw
        case rel => exact ⟨k + 1, by omega, by go_num, by rw [HE.out], HK2, HB2⟩
        case measure => simp [intOf]; omega
      | true =>
        have HE : Hid (del ps q T (k + 1) = max D X) := HS.out.trans (if_neg (by have := of_decide_eq_true hd; omega))
        clear HS
        go_wp2_with fail
        refine HC.out.mono ?_
        rintro e w1 ⟨rfl, hb⟩
        have HB3 := Lib.hid (HB2.out.trans (hb.mono HB2.out.size))
        have HK3 := Lib.hid ((hb.block _ (lt_of_block HK2.out)).trans HK2.out)
        clear hb HC HK2 HB2 e0 e1 e2 e3 e4 c0 c1 c2 c3 c4 c5 c6 c7
        go_wp2_with fail
        all_goals go_roundw
        all_goals first | (exact ⟨k + 1, by omega, by go_num, by rw [HE.out]; exact congrArg (Value.int .i64) (by omega), HK3, HB3⟩) | (simp [intOf]; omega)
    · obtain rfl : k = n := by omega
      go_wp2_with fail
      go_ret
      exact ⟨rfl, HB.out⟩
end Go.Proofs.Ythhdfmpoebedcaa
