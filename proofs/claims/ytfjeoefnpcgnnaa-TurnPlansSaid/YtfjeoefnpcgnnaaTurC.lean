/- Servers of the call's own; servers by turns. -/
import Derived.Test.YtfjeoefnpcgnnaaTurQ
import Derived.Lib.SmallJoins
namespace Go.Proofs.Ytfjeoefnpcgnnaa.Pw
open Go.RowKit Go.Sort Pu
set_option linter.unusedVariables false
set_option maxRecDepth 100000

theorem wr2 {x : Int} (h0 : 0 ≤ x) (h : x ≤ 1099511627776) : IntKind.i64.wrap x = x ∧ wrap64 x = x := ⟨IntWalk.i64_in _ (by omega), by unfold wrap64; omega⟩
theorem lit_add {W : World} {s : Nat} (hs : W.heap.size = s) (l : List Value) (t : TypeId) : ∀ j u, l[j]? = some u → (W.alloc (.cells l.toArray t)).cell? ((⟨s, 0, none⟩ : Addr).add j) = some u := by
  intro j u hj
  subst hs
  rw [Addr.add_lit, cell_of_row _ _ _ _ _ _ (heap_alloc_new W _)]
  simpa using hj
theorem wr3 {x : Int} {c : Nat} (h : x = (c : Int)) (hc : c ≤ 1099511627776) : wrap64 x = (c : Int) ∧ IntKind.i64.wrap x = (c : Int) := by
  subst h
  exact ⟨(wr2 (by omega) (by omega)).2, (wr2 (by omega) (by omega)).1⟩

theorem SV.nil (w : World) (p b : Nat → Int) : SV w (.slice none 0 0) 0 p b := ⟨none, 0, rfl, Nat.le_refl _, Nat.zero_le _, fun _ => rfl, fun h => by cases h⟩
theorem bring_eq (a : Int) {n : Int} (h : 0 < n) : (if a.tmod n < 0 then a.tmod n + n else a.tmod n) = a % n := by
  by_cases ha : 0 ≤ a
  · rw [Int.tmod_eq_emod_of_nonneg ha, if_neg (by have := Int.emod_nonneg a (show n ≠ 0 by omega); omega)]
  · rw [tmod_neg a n (by omega) (by omega), emod_neg a n (by omega)]
    have h1 := Int.emod_nonneg (-a) (show n ≠ 0 by omega)
    have h2 := Int.emod_lt_of_pos (-a) h
    by_cases h0 : (-a) % n = 0
    · rw [h0]; simp
    · rw [if_pos (by omega), if_neg h0]; omega
set_option maxHeartbeats 400000 in
theorem brings_any (a n : Int) (w : World) (h : 1 ≤ n) (hn : n ≤ 9007199254740992) : Calls Try.prog 15 #[.int .i64 a, .int .i64 n] w (IsN (a % n) w) := by
  rw [← bring_eq a (show 0 < n by omega)]
  have h1 := Int.lt_tmod_of_pos a (by omega : 0 < n)
  have h2 := Int.tmod_lt_of_pos a (by omega : 0 < n)
  have hz : (n == 0) = false := by simp; omega
  have hw64 : wrap64 (a.tmod n) = a.tmod n := by unfold wrap64; omega
  by_cases hr : a.tmod n < 0
  · rw [if_pos hr]
    have hd : decide (a.tmod n < 0) = true := by simpa using hr
    have hw2 : wrap64 (a.tmod n + n) = a.tmod n + n := by unfold wrap64; omega
    go_enter Try.func15, Try.ntmps15
    go_wp2
    go_ret
    exact ⟨rfl, rfl⟩
  · rw [if_neg hr]
    have hd : decide (a.tmod n < 0) = false := by simpa using hr
    go_enter Try.func15, Try.ntmps15
    go_wp2
    go_ret
    exact ⟨rfl, rfl⟩
/-- a number, brought to be a natural below n -/
def bn (a : Int) (n : Nat) : Nat := (a % (n : Int)).toNat
theorem bn_lt (a : Int) {n : Nat} (h : 0 < n) : bn a n < n := by
  unfold bn
  have h1 := Int.emod_nonneg a (show (n : Int) ≠ 0 by omega)
  have h2 := Int.emod_lt_of_pos a (show (0 : Int) < n by omega)
  omega
theorem bring_bn (a : Int) (n : Nat) (w : World) (h : 0 < n) (hn : n ≤ 1000000) : Calls Try.prog 15 #[.int .i64 a, .int .i64 n] w (IsN (bn a n : Nat) w) := by
  have e : ((bn a n : Nat) : Int) = a % (n : Int) := by
    unfold bn
    have h1 := Int.emod_nonneg a (show (n : Int) ≠ 0 by omega)
    omega
  rw [e]
  exact brings_any a n w (by omega) (by omega)
theorem bring_q (a : Int) (n : Nat) (w : World) (h : 0 < n) (hn : n ≤ 1000000) : Calls Try.prog 15 #[.int .i64 a, .int .i64 n] w (fun e w' => e = .returned (.int .i64 (bn a n : Nat)) ∧ w' = w) := (bring_bn a n w h hn).mono fun _ _ h => ⟨h.1, h.2.symm⟩
/-- what is made of the numbers that came in -/
def mP (p : Nat → Int) (i : Nat) : Nat := 1 + bn (p i) 20
def mB (p b : Nat → Int) (i : Nat) : Nat := 1 + bn (b i) (mP p i)
theorem m_bd (p b : Nat → Int) (i : Nat) : 1 ≤ mP p i ∧ mP p i ≤ 20 ∧ 1 ≤ mB p b i ∧ mB p b i ≤ mP p i := by
  have h1 := bn_lt (p i) (n := 20) (by decide)
  have e1 : mP p i = 1 + bn (p i) 20 := rfl
  have h2 := bn_lt (b i) (n := mP p i) (by omega)
  have e2 : mB p b i = 1 + bn (b i) (mP p i) := rfl
  omega
/-- servers of the call's own -/
def sflat (P B : Nat → Int) : Nat → List Value
  | 0 => []
  | k + 1 => sflat P B k ++ [.int .i64 (P k), .int .i64 (B k), .slice none 0 0]
theorem sflat_len (P B : Nat → Int) : ∀ k, (sflat P B k).length = k * 3
  | 0 => rfl
  | k + 1 => by rw [sflat, List.length_append, sflat_len]; simp; omega
theorem sflat_at (P B : Nat → Int) : ∀ {n i : Nat}, i < n → (sflat P B n)[i * 3]? = some (.int .i64 (P i)) ∧ (sflat P B n)[i * 3 + 1]? = some (.int .i64 (B i)) ∧ (sflat P B n)[i * 3 + 2]? = some (.slice none 0 0)
  | 0, _, h => by cases h
  | n + 1, i, h => by
    have hl := sflat_len P B n
    rw [sflat]
    by_cases hc : i < n
    · rw [List.getElem?_append_left (by omega), List.getElem?_append_left (by omega), List.getElem?_append_left (by omega)]
      exact sflat_at P B hc
    · obtain rfl : i = n := by omega
      rw [List.getElem?_append_right (by omega), List.getElem?_append_right (by omega), List.getElem?_append_right (by omega), hl, Nat.sub_self, Nat.add_sub_cancel_left, Nat.add_sub_cancel_left]
      exact ⟨rfl, rfl, rfl⟩
def SW (w : World) (C : Nat) (v : Value) (n : Nat) (P B : Nat → Int) : Prop := w.ownsRow C 53 3 v n (sflat P B n)
theorem SW.sv {w : World} {C n : Nat} {v : Value} {P B : Nat → Int} (h : SW w C v n P B) : SV w v n P B := by
  have hc := h
  rcases h.2 with ⟨rfl, h0⟩ | ⟨g, cap, cur, rfl, hg, hh, hnc, hcm, _⟩
  · subst h0
    exact SV.nil _ _ _
  · refine ⟨some ⟨g, 0, none⟩, cap, rfl, hnc, hcm, (fun h => by cases h), fun _ => ⟨g, 0, rfl, fun i hi => ?_⟩⟩
    obtain ⟨a0, a1, a2⟩ := sflat_at P B hi
    have k0 := World.ownsRow.cells hc (g := g) rfl _ _ a0
    have k1 := World.ownsRow.cells hc (g := g) rfl _ _ a1
    have k2 := World.ownsRow.cells hc (g := g) rfl _ _ a2
    rw [Addr.add_lit] at k0 k1 k2
    exact ⟨k0, k1, none, 0, 0, k2⟩
theorem SW.drew {w : World} {C n : Nat} {v : Value} {P B : Nat → Int} (h : SW w C v n P B) : SW w.drew C v n P B := h
theorem infoPt : (Try.prog.info? 53).map (fun i => (i.zero, i.size, i.bytes)) = some (some (.agg #[.int .i64 0, .int .i64 0, .slice none 0 0]), 3, 40) := by kernel_rfl
theorem sv_one (per bud : Int) : ∀ u ∈ [Value.int .i64 per, .int .i64 bud, .slice none 0 0], u.oneCell' = true := by
  intro u hu
  simp only [List.mem_cons, List.not_mem_nil, or_false] at hu
  rcases hu with rfl | rfl | rfl <;> rfl
def MadeP (w : World) (n : Nat) (p b : Nat → Int) (e : Ending) (w' : World) : Prop := ∃ r, e = .returned r ∧ SW w' w.heap.size r (min n 4) (fun i => (mP p i : Nat)) (fun i => (mB p b i : Nat)) ∧ Below w.heap.size w w'
set_option maxHeartbeats 4000000 in
theorem made_any {w : World} {v : Value} {n : Nat} {p b : Nat → Int} (h : SV w v n p b) : Calls Try.prog 20 #[v] w (MadeP w n p b) := by
  obtain ⟨i0, hi, hz0, hz1, hz2⟩ := info_parts infoPt
  have HI := Lib.hid (⟨hi, hz0, hz1, hz2⟩ : _ ∧ _ ∧ _ ∧ _)
  obtain ⟨a, cap, rfl, hn1, hn2⟩ := h.slice
  have HP := Lib.hid h
  have hmx : n ≤ 9223372036854775807 := by unfold maxLen at hn2; omega
  have HO := Lib.hid (World.ownsRow_nil w w.heap.size 53 3)
  clear h hi hz0 hz1 hz2 hn2
  go_enter Try.func20, Try.ntmps20
  go_wp2_with fail
  go_loopw [3, 4] (fun o i wr => ∃ k : Nat, k ≤ n ∧ k ≤ 4 ∧ i = .int .i64 k ∧ Hid (SW wr w.heap.size o k (fun i => (mP p i : Nat)) (fun i => (mB p b i : Nat))) ∧ Hid (Below w.heap.size w wr)) (fun _ i _ => 4 - (intOf i).toNat)
  case atStart => exact ⟨0, by omega, by omega, rfl, HO.out, Below.refl _ _⟩
  case round =>
    clear HO
    rename_i o _
    obtain ⟨k, hk, hk4, rfl, HO, HB⟩ := hrel
    by_cases hlt : k < n ∧ k < 4
    · obtain ⟨hlt, hl4⟩ := hlt
      have hd4 : decide ((k : Int) < 4) = true := by simp; omega
      obtain ⟨b1, off, ta, tn, tc, rfl, c0, c1, _⟩ := (HP.out.below HB.out).at hlt
      obtain ⟨h1, h2, h3, h4⟩ := m_bd p b k
      have B0 := Lib.hid (fun w => bring_bn (p k) 20 w (by decide) (by decide))
      have B1 := Lib.hid (fun w => bring_bn (b k) (mP p k) w h1 (by omega))
      have HF : Hid (sflat (fun i => (mP p i : Nat)) (fun i => (mB p b i : Nat)) (k + 1) = sflat (fun i => (mP p i : Nat)) (fun i => (mB p b i : Nat)) k ++ [.int .i64 (mP p k : Nat), .int .i64 (mB p b k : Nat), .slice none 0 0]) := rfl
      have e1 : (1 : Int) + (bn (p k) 20 : Nat) = (mP p k : Int) := (Int.natCast_add 1 _).symm
      have e2 : (1 : Int) + (bn (b k) (mP p k) : Nat) = (mB p b k : Int) := (Int.natCast_add 1 _).symm
      generalize p k = pk at *
      generalize b k = bk at *
      generalize mB p b k = Bk at *
      generalize mP p k = Pk at *
      generalize bn pk 20 = q0 at *
      generalize bn bk Pk = q1 at *
      obtain ⟨w1, w1'⟩ := wr3 e1 (by omega)
      obtain ⟨w2, w2'⟩ := wr3 e2 (by omega)
      clear e1 e2 h1 h2 h3 h4
      go_wp2_with fail
      refine (B0.out _).mono ?_
      rintro e w' ⟨rfl, rfl⟩
      go_wp2_with fail
      refine (B1.out _).mono ?_
      rintro e w' ⟨rfl, rfl⟩
      have Hm1 : Hid (k + 1 ≤ maxLen) := by unfold Hid maxLen; omega
      have Hm2 : Hid ((k + 1) * 40 ≤ 140737488355328) := by unfold Hid; omega
      have Hm3 : Hid (w.heap.size ≤ (wr.alloc (.cells #[.int .i64 (Pk : Nat), .int .i64 (Bk : Nat), .slice none 0 0] 53)).heap.size) := by have := HB.out.size; unfold Hid; simp; omega
      go_wp2_with (at_builtin; refine wpList_append_own _ rfl _ _ 22 rfl w.heap.size 53 i0 (.agg #[.int .i64 0, .int .i64 0, .slice none 0 0]) 3 40 Try.underlying22 HI.out.1 HI.out.2.1 HI.out.2.2.1 HI.out.2.2.2 rfl (by decide) _ k _ rfl (World.ownsRow.alloc HO.out _) ⟨wr.heap.size, 0, none⟩ 1 1 [.int .i64 (Pk : Nat), .int .i64 (Bk : Nat), .slice none 0 0] rfl rfl (lit_add rfl _ _) (sv_one _ _) Hm1.out Hm2.out Hm3.out ?_)
      intro v' w1' hown hgrow _
      have HO2 : Hid (SW w1' w.heap.size v' (k + 1) (fun i => (mP p i : Nat)) (fun i => (mB p b i : Nat))) := by unfold Hid SW; rw [HF.out]; exact hown
      have HB2 : Hid (Below w.heap.size w w1') := Below.grown (HB.out.alloc HB.out.size _) hgrow Hm3.out (fun q hq => (HO.out.lt q hq).1)
      clear hown hgrow
      go_wp2_with fail
      go_roundw
      case rel => exact ⟨k + 1, by omega, by omega, by go_num, HO2.out, HB2.out⟩
      case measure => simp [intOf]; omega
    · have HM : Hid (min n 4 = k) := by unfold Hid; omega
      have HO3 := HO
      obtain ⟨a', c', rfl, _, _⟩ := HO.out.sv.slice
      by_cases h1 : k < n
      · have hd4 : decide ((k : Int) < 4) = false := by simp; omega
        go_wp2_with fail
        go_ret
        exact ⟨_, rfl, by rw [HM.out]; exact HO.out, HB.out⟩
      · obtain rfl : k = n := by omega
        go_wp2_with fail
        go_ret
        exact ⟨_, rfl, by rw [HM.out]; exact HO.out, HB.out⟩
/-- an append whose run is known, as one step of a region that draws -/
theorem step_append_eq {P : Program} {ops : Array Oper} {o : Oper} {a : Act} {w w' : World} {K : Act → World → Prop} {Q : Exit → Act → World → Prop} {E : Prop}
    (hg : o.guard = none) (s x : Operand) (t : TypeId) (hop : o.op = Op.call { callee := Callee.builtin Builtin.append, args := #[s, x], argTypes := #[t, t] })
    (sv xv v' : Value) (hs : a.eval s = sv) (hx : a.eval x = xv) (hrun : (Builtin.append_ #[t, t] o.type #[sv, xv]).run P w = .ok v' w') (hK : K (a.put o.dst v') w') :
    if Region.wanted o (yielded ops a.tmps) = true then Oper.wp P o a w K Q else E := by
  have hw : Region.wanted o (yielded ops a.tmps) = true := by simp [Region.wanted, hg]
  rw [if_pos hw]
  unfold Oper.wp
  simp [execOp, hop, resolve, invoke, builtin, hs, hx, hrun, Result.andThen]
  exact hK
/-- a server more in a row of the call's own -/
theorem app_server {w : World} {C n : Nat} {v : Value} {P B : Nat → Int} (hown : SW w C v n P B) {g : Nat} (hg : w.heap[g]? = some (.cells #[.int .i64 (P n), .int .i64 (B n), .slice none 0 0] 53 (0, 0))) (hB : C ≤ w.heap.size) (hn : n ≤ 1000) (ty : TypeId) :
    ∃ v' w', (Builtin.append_ #[22, 22] ty #[v, .slice (some ⟨g, 0, none⟩) 1 1]).run Try.prog w = .ok v' w' ∧ SW w' C v' (n + 1) P B ∧ Below C w w' := by
  obtain ⟨i0, hi, hz0, hz1, hz2⟩ := info_parts infoPt
  obtain ⟨v', w', hrun, hown', hgr, _⟩ := run_append_own (P := Try.prog) (w := w) C 22 ty 53 i0 _ 3 40 Try.underlying22 hi hz0 hz1 hz2 rfl (by decide) v n _ hown ⟨g, 0, none⟩ 1 1 [.int .i64 (P n), .int .i64 (B n), .slice none 0 0] rfl
    (fun j u hj => by rw [Addr.add_lit, Nat.zero_add, cell_of_row _ _ j _ _ _ hg, List.getElem?_toArray]; exact hj) (sv_one _ _) (by unfold maxLen; omega) (by omega) hB
  exact ⟨v', w', hrun, hown', (Below.refl C w).grown hgr hB (fun k e => (hown.lt k e).1)⟩
def tP (xs : List Int) (i : Nat) : Int := xs.getD (2 * i + 1) 0
def tB (xs : List Int) (i : Nat) : Int := xs.getD (2 * i) 0
def TurnP (w : World) (xs : List Int) (e : Ending) (w' : World) : Prop := ∃ r, e = .returned r ∧ SW w' w.heap.size r (xs.length / 2) (tP xs) (tB xs) ∧ Below w.heap.size w w'
set_option maxHeartbeats 4000000 in
theorem servers_any {w : World} {v : Value} {xs : List Int} (h : IS w v xs) (hl : xs.length ≤ 1000) : Calls Try.prog 23 #[v] w (TurnP w xs) := by
  obtain ⟨i0, hi, hz0, hz1, hz2⟩ := info_parts infoPt
  have HI := Lib.hid (⟨hi, hz0, hz1, hz2⟩ : _ ∧ _ ∧ _ ∧ _)
  have mixed : Try.prog.follows .mixedOrders = true := by kernel_rfl
  obtain ⟨a, cap, rfl, hn1, hn2⟩ := h.slice
  have HP := Lib.hid h
  have HO := Lib.hid (World.ownsRow_nil w w.heap.size 53 3)
  obtain ⟨n, hn⟩ : ∃ n, n = xs.length := ⟨_, rfl⟩
  have HN := Lib.hid hn
  rw [← hn] at HP hl ⊢
  clear h hi hz0 hz1 hz2 hn1 hn2 hn
  go_enter Try.func23, Try.ntmps23
  go_wp2_with fail
  go_loopw [3, 4] (fun o i wr => ∃ j k : Nat, j = 2 * k ∧ k ≤ n / 2 ∧ i = .int .i64 j ∧ Hid (SW wr w.heap.size o k (tP xs) (tB xs)) ∧ Hid (Below w.heap.size w wr)) (fun _ i _ => n + 2 - (intOf i).toNat)
  case atStart => exact ⟨0, 0, rfl, Nat.zero_le _, rfl, HO.out, Below.refl _ _⟩
  case round =>
    clear HO
    rename_i o _
    obtain ⟨j, k, hjk, hk, rfl, HO, HB⟩ := hrel
    obtain ⟨j1, hj1⟩ : ∃ j1 : Nat, (j : Int) + 1 = (j1 : Nat) := ⟨j + 1, rfl⟩
    obtain ⟨w1, w1'⟩ := wr3 hj1 (by omega)
    have HJ1 : Hid (j1 = j + 1) := by unfold Hid; omega
    by_cases hlt : j1 < n
    · have hd : decide ((j1 : Int) < n) = true := by simp; omega
      have hd' : decide (j1 < n) = true := by simp; omega
      obtain ⟨b1, off, rfl, c0⟩ := (HP.out.below HB.out).at (i := j) (by omega)
      obtain ⟨b1', off', e', c1⟩ := (HP.out.below HB.out).at (i := j1) hlt
      injection e' with e'
      injection e' with e1 e2 _
      subst e1; subst e2
      have hj0 : (0 : Int) ≤ j := by omega
      have hjI : (j : Int) < n := by omega
      have hj10 : (0 : Int) ≤ j1 := by omega
      have hj1I : (j1 : Int) < n := by omega
      have HF : Hid (tP xs k = xs.getD j1 0 ∧ tB xs k = xs.getD j 0) := by
        unfold Hid tP tB
        rw [show 2 * k + 1 = j1 by omega, ← hjk]
        exact ⟨rfl, rfl⟩
      have HK2 : Hid (j + 2 = 2 * (k + 1) ∧ k + 1 ≤ n / 2) := by unfold Hid; omega
      generalize xs.getD j 0 = x0 at *
      generalize xs.getD j1 0 = x1 at *
      obtain ⟨v', w1x, hrun, hown2, hb2⟩ := app_server (w := (wr.alloc (.cells #[.int .i64 x1, .int .i64 x0, .slice none 0 0] 53)).drew) (SW.drew (World.ownsRow.alloc HO.out _)) (g := wr.heap.size) (by rw [HF.out.1, HF.out.2]; exact heap_alloc_new wr _) (Nat.le_trans HB.out.size (by simp [World.drew])) (show k ≤ 1000 by omega) 22
      have HRUN := Lib.hid hrun
      have HO2 := Lib.hid hown2
      have HB2 : Hid (Below w.heap.size w w1x) := ((HB.out.alloc HB.out.size _).drew).trans hb2
      clear hrun hown2 hb2
      have hwj : IntKind.i64.wrap (j1 : Int) = j1 := IntWalk.i64_in _ (by omega)
      clear hlt hjk hk
      go_wp2_with fail
      go_region_law (refine step_append_eq rfl (.tmp 12) (.tmp 23) 22 rfl _ _ _ (by simp [Act.eval]) (by simp [Act.eval]) HRUN.out ?_)
      all_goals
        clear c0 c1 HRUN
        go_wp2_with fail
        go_roundw
        case rel => exact ⟨j + 2, k + 1, HK2.out.1, HK2.out.2, by go_num, HO2.out, HB2.out⟩
        case measure => simp [intOf]; omega
    · have hd : decide ((j1 : Int) < n) = false := by simp; omega
      have hd' : decide (j1 < n) = false := by simp; omega
      have HM : Hid (xs.length / 2 = k) := by have := HN.out; have := HJ1.out; unfold Hid; omega
      have HO3 := HO
      obtain ⟨a', c', rfl, _, _⟩ := HO.out.sv.slice
      have hwj2 : wrap64 (j1 : Int) = j1 := (wr3 rfl (by omega)).1
      clear hlt hjk hk
      go_wp2_with fail
      go_ret
      exact ⟨_, rfl, by rw [HM.out]; exact HO.out, HB.out⟩
theorem lit_is (w : World) (l : List Int) (hl : l.length ≤ maxLen) : IS (w.alloc (.cells (l.map (Value.int .i64)).toArray 3)) (.slice (some ⟨w.heap.size, 0, none⟩) l.length l.length) l :=
  ⟨_, _, rfl, Nat.le_refl _, hl, (fun h => by cases h), fun _ => ⟨_, 0, rfl, fun i hi => (cell_of_row _ _ (0 + i) _ _ _ (heap_alloc_new w _)).trans (by simp [List.getElem?_eq_getElem hi, List.getD])⟩⟩
/-- servers of numbers that are written there -/
def LitP (W : World) (l : List Int) (e : Ending) (w' : World) : Prop := ∃ a cap, e = .returned (.slice a (l.length / 2) cap) ∧ SV w' (.slice a (l.length / 2) cap) (l.length / 2) (tP l) (tB l) ∧ Below W.heap.size W w'
theorem serv_any (W : World) (l : List Int) (hl : l.length ≤ 1000) : Calls Try.prog 23 #[.slice (some ⟨W.heap.size, 0, none⟩) l.length l.length] (W.alloc (.cells (l.map (Value.int .i64)).toArray 3)) (LitP W l) := by
  refine (servers_any (lit_is W l (by unfold maxLen; omega)) hl).mono ?_
  rintro e w' ⟨r, rfl, hs, hb⟩
  have hs2 := hs.sv
  obtain ⟨a, cap, rfl, _⟩ := hs.sv.slice
  exact ⟨a, cap, rfl, hs2, (below_al W _).trans (hb.mono (by simp))⟩
end Go.Proofs.Ytfjeoefnpcgnnaa.Pw
