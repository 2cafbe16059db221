/- RankOrder: what is popped is what was put and not removed, in order. -/
import Derived.Test.YtoiegoehebkjgaaWalksJ
namespace Go.Proofs.Ytoiegoehebkjgaa
open Go.RowKit Rk
set_option linter.unusedVariables false

/-- the calls that came in: kinds, ids, keys -/
def Calls3 (w : World) (b off n : Nat) (zk zi zy : Nat → Int) : Prop :=
  ∀ i, i < n → w.cell? ⟨b, off + i * 3, none⟩ = some (.int .i64 (zk i)) ∧ w.cell? ⟨b, off + i * 3 + 1, none⟩ = some (.int .i64 (zi i)) ∧ w.cell? ⟨b, off + i * 3 + 2, none⟩ = some (.int .i64 (zy i))
theorem Calls3.below {w w' : World} {b off n : Nat} {zk zi zy : Nat → Int} (h : Calls3 w b off n zk zi zy) (hb : Below w.heap.size w w') : Calls3 w' b off n zk zi zy := by
  intro i hi
  obtain ⟨h1, h2, h3⟩ := h i hi
  have hl := World.block_lt_of_cell? w _ h1
  exact ⟨(hb.cell (p := ⟨b, off + i * 3, none⟩) hl).trans h1, (hb.cell (p := ⟨b, off + i * 3 + 1, none⟩) hl).trans h2, (hb.cell (p := ⟨b, off + i * 3 + 2, none⟩) hl).trans h3⟩

/-- at the head of a round -/
def OrdI (W : World) (rb hb tb kb c : Nat) (w : World) : Prop := ∃ m th ks, OA W.heap.size W w rb hb tb kb c m th ks ∧ Rl m th ks
def PopI (W : World) (rb hb tb kb c j : Nat) (l b0 : Int) (w : World) : Prop := ∃ m th ks, OA W.heap.size W w rb hb tb kb (c - j) m th ks ∧ Rl m th ks ∧ (0 < j → Behind m l b0)

theorem bring_fit (a n r : Int) (w : World) (h : 1 ≤ n) (hn : n ≤ 100000) (hr : bringN a n = r) : Calls Try.prog 15 #[.int .i64 a, .int .i64 n] w (IsN r w) := by subst hr; exact bring_any a n w h hn
section
variable {B : Nat} {W w w' : World} {rb hb tb kb n : Nat} {m : Mp} {th : Nat → Bool} {ks : Nat → Int}
def RemS (v : Bool) (tb q : Nat) (x : Value) (B : Nat) (W : World) (rb hb kb n : Nat) (m : Mp) (th : Nat → Bool) (ks : Nat → Int) (e : Ending) (w' : World) : Prop :=
  e = .returned (.bool v) ∧ w'.cell? ⟨tb, q, none⟩ = some x ∧ Hid (OA B W w' rb hb tb kb n m th ks)
theorem rem_S {n' : Nat} (q : Nat) (r t : Bool) (h : OA B W w rb hb tb kb n m th ks) (hq : q < 64) (hN : n ≤ 100000) (e1 : (m q).isSome = r) (e2 : remN m q n = n') (ht : th q = t) :
    Calls Try.prog 18 #[.pointer (some ⟨rb, 0, none⟩), .int .i64 q] w (RemS r tb q (.bool t) B W rb hb kb n' (upd m q none) th ks) := by
  subst ht
  exact (oa_rem q r h hN e1 e2).mono fun e w' ⟨he, ho⟩ => ⟨he, ho.T.cell hq, ho⟩
theorem OA.drew (h : OA B W w rb hb tb kb n m th ks) : OA B W w.drew rb hb tb kb n m th ks := h.below (Below.refl _ _).drew
end

set_option maxRecDepth 100000 in
set_option maxHeartbeats 16000000 in
theorem order_law (b off cap n : Nat) (zk zi zy : Nat → Int) (w : World) (hl : n ≤ 9223372036854775807) (hc : Calls3 w b off n zk zi zy) :
    Calls Try.prog 4 #[.slice (some ⟨b, off, none⟩) n cap] w (TrueB w) := by
  have HC := Lib.hid hc; clear hc
  go_enter Try.func4, Try.ntmps4
  go_wp2_with fail
  refine (works_any w).mono ?_
  rintro e w1 ⟨rfl, hb1⟩
  have HB1 := Lib.hid hb1; clear hb1
  go_wp2_with fail
  refine (own_new w1).mono ?_
  rintro e w2 ⟨rfl, h2⟩
  have HS : ∀ c1 c2 : Array Value, c1 = Array.replicate 64 (.bool false) → c2 = Array.replicate 64 (.int .i64 0) → Hid (OA w.heap.size w ((w2.alloc (.cells c1 36)).alloc (.cells c2 37)) (w1.heap.size + 1) w1.heap.size w2.heap.size (w2.heap.size + 1) 0 (fun _ => none) (fun _ => false) (fun _ => 0)) :=
    fun c1 c2 e1 e2 => oa_start HB1.out h2 e1 e2
  clear h2 HB1
  go_wp2_with fail
  generalize w1.heap.size + 1 = rb at *
  generalize w1.heap.size = hb at *
  generalize w2.heap.size + 1 = kb at *
  generalize w2.heap.size = tb at *
  go_loopw [6, 7] (fun c i wr => ∃ c' i' : Nat, c' ≤ i' ∧ i' ≤ 200 ∧ c = .int .i64 c' ∧ i = .int .i64 i' ∧ Hid (OrdI w rb hb tb kb c' wr)) (fun _ i _ => 200 - (intOf i).toNat)
  case atStart => exact ⟨0, 0, Nat.le_refl _, by omega, rfl, rfl, ⟨_, _, _, HS _ _ rfl rfl, Rl.start⟩⟩
  case round =>
    clear HS
    obtain ⟨c, i, hci, hi2, rfl, rfl, HI⟩ := hrel
    obtain ⟨m, th, ks, hoa, hrl⟩ := HI.out
    have HO := Lib.hid hoa
    have HRl := Lib.hid hrl
    have hap := hoa.ap
    have hbb := hoa.b
    have htl := hoa.T.lt
    have hkl := hoa.K.lt
    clear HI hoa hrl
    by_cases hg : i < n ∧ i < 200
    · obtain ⟨hin, hi200⟩ := hg
      have hd1 : decide ((i : Int) < 200) = true := by simp; omega
      obtain ⟨q, hq, hqe⟩ : ∃ q : Nat, q < 64 ∧ bringN (zi i) 64 = q := by
        have := bring_bd (zi i) 64 (by omega)
        exact ⟨(bringN (zi i) 64).toNat, by omega, by omega⟩
      have HQ := Lib.hid hqe
      have hblt : b < w.heap.size := World.block_lt_of_cell? w _ (HC.out i hin).1
      have hbt : b ≠ tb := by omega
      have hbk : b ≠ kb := by omega
      have hkd : bringN (zk i) 3 = 0 ∨ bringN (zk i) 3 = 1 ∨ bringN (zk i) 3 = 2 := by have := bring_bd (zk i) 3 (by omega); omega
      have hth := (HRl.out q hq).1
      have hks := (HRl.out q hq).2
      have q0 : (0 : Int) ≤ (q : Nat) ∧ ((q : Nat) : Int) ≤ 63 := by omega
      clear hqe
      rcases hkd with hkd | hkd | hkd
      · have HKD := Lib.hid hkd
        clear hkd
        have cT := HO.out.T.cell hq
        have cK := HO.out.K.cell hq
        have fT := HO.out.T.free q
        have fK := HO.out.K.free q
        obtain ⟨i1, i2, i3⟩ := Calls3.below HC.out HO.out.bel i hin
        cases hm : m q with
        | none =>
          have PO := Lib.hid (put_ok (m := m) (zy i) c q0 hm)
          rw [hm] at hth
          have hth' : th q = false := hth
          have HTH := Lib.hid hth'
          clear hm hth hth' hks q0
          go_wp2_with fail
          refine (bring_fit _ 64 q _ (by omega) (by omega) HQ.out).mono ?_
          rintro e w0 ⟨rfl, rfl⟩
          go_wp2_with fail
          refine (bring_fit _ 3 0 _ (by omega) (by omega) HKD.out).mono ?_
          rintro e w0 ⟨rfl, rfl⟩
          go_wp2_with fail
          refine (oa_put q (zy i) 0 HO.out (by omega) PO.out.1 PO.out.2.2 PO.out.2.1).mono ?_
          rintro e w4 ⟨rfl, h4⟩
          have H4 := Lib.hid h4
          clear h4 cT cK fT fK i1 i2 i3
          have cT := H4.out.T.cell hq
          have cK := H4.out.K.cell hq
          have fT := H4.out.T.free q
          have fK := H4.out.K.free q
          obtain ⟨i1, i2, i3⟩ := Calls3.below HC.out H4.out.bel i hin
          rw [HTH.out] at cT
          have hl4 := H4.out.T.lt
          have hl5 := H4.out.K.lt
          have HF : Hid (OrdI w rb hb tb kb (c + 1) ((w4.setCell ⟨tb, q, none⟩ (.bool true)).setCell ⟨kb, q, none⟩ (.int .i64 (zy i)))) := ⟨_, _, _, (H4.out.setT hq true).setK hq (zy i), HRl.out.put hq (zy i)⟩
          go_wp2_with fail
          go_roundw
          case rel => exact ⟨c + 1, i + 1, by omega, by omega, by go_num, by go_num, HF⟩
          case measure => simp [intOf]; omega
        | some k0 =>
          have PO := Lib.hid (put_busy (m := m) (zy i) c q0 hm)
          rw [hm] at hth
          have hth' : th q = true := hth
          have HTH := Lib.hid hth'
          clear hm hth hth' hks q0
          go_wp2_with fail
          refine (bring_fit _ 64 q _ (by omega) (by omega) HQ.out).mono ?_
          rintro e w0 ⟨rfl, rfl⟩
          go_wp2_with fail
          refine (bring_fit _ 3 0 _ (by omega) (by omega) HKD.out).mono ?_
          rintro e w0 ⟨rfl, rfl⟩
          go_wp2_with fail
          refine (oa_put q (zy i) 141 HO.out (by omega) PO.out.1 PO.out.2.2 PO.out.2.1).mono ?_
          rintro e w4 ⟨rfl, h4⟩
          have H4 := Lib.hid h4
          clear h4 cT cK fT fK i1 i2 i3
          have cT := H4.out.T.cell hq
          have cK := H4.out.K.cell hq
          have fT := H4.out.T.free q
          have fK := H4.out.K.free q
          obtain ⟨i1, i2, i3⟩ := Calls3.below HC.out H4.out.bel i hin
          rw [HTH.out] at cT
          have HF : Hid (OrdI w rb hb tb kb c w4) := ⟨_, _, _, H4.out, HRl.out⟩
          go_wp2_with fail
          go_roundw
          case rel => exact ⟨c, i + 1, by omega, by omega, rfl, by go_num, HF⟩
          case measure => simp [intOf]; omega
      · have HKD := Lib.hid hkd
        clear hkd
        have cT := HO.out.T.cell hq
        have cK := HO.out.K.cell hq
        have fT := HO.out.T.free q
        have fK := HO.out.K.free q
        obtain ⟨i1, i2, i3⟩ := Calls3.below HC.out HO.out.bel i hin
        cases hm : m q with
        | none =>
          have PO := Lib.hid (low_none (m := m) (zy i) q0 hm)
          rw [hm] at hth
          have hth' : th q = false := hth
          have HTH := Lib.hid hth'
          clear hm hth hth' hks q0
          go_wp2_with fail
          refine (bring_fit _ 64 q _ (by omega) (by omega) HQ.out).mono ?_
          rintro e w0 ⟨rfl, rfl⟩
          go_wp2_with fail
          refine (bring_fit _ 3 1 _ (by omega) (by omega) HKD.out).mono ?_
          rintro e w0 ⟨rfl, rfl⟩
          go_wp2_with fail
          refine (oa_low q (zy i) 8 HO.out (by omega) PO.out.1 PO.out.2).mono ?_
          rintro e w4 ⟨rfl, h4⟩
          have H4 := Lib.hid h4
          clear h4 cT cK fT fK i1 i2 i3
          have cT := H4.out.T.cell hq
          have cK := H4.out.K.cell hq
          have fT := H4.out.T.free q
          have fK := H4.out.K.free q
          obtain ⟨i1, i2, i3⟩ := Calls3.below HC.out H4.out.bel i hin
          rw [HTH.out] at cT
          have HF : ∀ nq, Hid (OrdI w rb hb tb kb c (w4.drewN nq)) := fun nq => ⟨_, _, _, H4.out.below (below_drewN (Below.refl _ _) nq), HRl.out⟩
          go_wp2_with fail
          go_quiet (fail)
          go_wp2_with fail
          go_roundw
          case rel => exact ⟨c, i + 1, by omega, by omega, rfl, by go_num, HF _⟩
          case measure => simp [intOf]; omega
        | some k0 =>
          rw [hm] at hth
          have hth' : th q = true := hth
          have HTH := Lib.hid hth'
          have HKS := Lib.hid (hks k0 hm)
          by_cases hk : k0 < zy i
          · have PO := Lib.hid (low_hi (m := m) q0 hm hk)
            have hd : decide (zy i ≤ k0) = false := by simp; omega
            clear hm hth hth' hks q0
            go_wp2_with fail
            refine (bring_fit _ 64 q _ (by omega) (by omega) HQ.out).mono ?_
            rintro e w0 ⟨rfl, rfl⟩
            go_wp2_with fail
            refine (bring_fit _ 3 1 _ (by omega) (by omega) HKD.out).mono ?_
            rintro e w0 ⟨rfl, rfl⟩
            go_wp2_with fail
            refine (oa_low q (zy i) 2 HO.out (by omega) PO.out.1 PO.out.2).mono ?_
            rintro e w4 ⟨rfl, h4⟩
            have H4 := Lib.hid h4
            clear h4 cT cK fT fK i1 i2 i3
            have cT := H4.out.T.cell hq
            have cK := H4.out.K.cell hq
            have fT := H4.out.T.free q
            have fK := H4.out.K.free q
            obtain ⟨i1, i2, i3⟩ := Calls3.below HC.out H4.out.bel i hin
            rw [HTH.out] at cT
            rw [HKS.out] at cK
            have HF : ∀ nq, Hid (OrdI w rb hb tb kb c (w4.drewN nq)) := fun nq => ⟨_, _, _, H4.out.below (below_drewN (Below.refl _ _) nq), HRl.out⟩
            go_wp2_with fail
            go_quiet (fail)
            go_wp2_with fail
            go_roundw
            case rel => exact ⟨c, i + 1, by omega, by omega, rfl, by go_num, HF _⟩
            case measure => simp [intOf]; omega
          · have hk' : zy i ≤ k0 := by omega
            have PO := Lib.hid (low_ok (m := m) q0 hm hk')
            have HRl2 := Lib.hid (HRl.out.low hq (zy i) hm)
            have hd : decide (zy i ≤ k0) = true := by simp; omega
            clear hm hth hth' hks q0 hk
            go_wp2_with fail
            refine (bring_fit _ 64 q _ (by omega) (by omega) HQ.out).mono ?_
            rintro e w0 ⟨rfl, rfl⟩
            go_wp2_with fail
            refine (bring_fit _ 3 1 _ (by omega) (by omega) HKD.out).mono ?_
            rintro e w0 ⟨rfl, rfl⟩
            go_wp2_with fail
            refine (oa_low q (zy i) 0 HO.out (by omega) PO.out.1 PO.out.2).mono ?_
            rintro e w4 ⟨rfl, h4⟩
            have H4 := Lib.hid h4
            clear h4 cT cK fT fK i1 i2 i3
            have cT := H4.out.T.cell hq
            have cK := H4.out.K.cell hq
            have fT := H4.out.T.free q
            have fK := H4.out.K.free q
            obtain ⟨i1, i2, i3⟩ := Calls3.below HC.out H4.out.bel i hin
            rw [HTH.out] at cT
            rw [HKS.out] at cK
            have HF : ∀ nq, Hid (OrdI w rb hb tb kb c ((w4.drewN nq).setCell ⟨kb, q, none⟩ (.int .i64 (zy i)))) := fun nq => ⟨_, _, _, (H4.out.below (below_drewN (Below.refl _ _) nq)).setK hq (zy i), HRl2.out⟩
            have HF2 : ∀ nq, Hid (OrdI w rb hb tb kb c ((w4.setCell ⟨kb, q, none⟩ (.int .i64 (zy i))).drewN nq)) := fun nq => ⟨_, _, _, (H4.out.setK hq (zy i)).below (below_drewN (Below.refl _ _) nq), HRl2.out⟩
            go_wp2_with fail
            go_quiet (fail)
            go_wp2_with fail
            go_roundw
            case rel => exact ⟨c, i + 1, by omega, by omega, rfl, by go_num, by first | exact HF _ | exact HF2 _⟩
            case measure => simp [intOf]; omega
      · have HKD := Lib.hid hkd
        clear hkd
        have cT := HO.out.T.cell hq
        have cK := HO.out.K.cell hq
        have fT := HO.out.T.free q
        have fK := HO.out.K.free q
        obtain ⟨i1, i2, i3⟩ := Calls3.below HC.out HO.out.bel i hin
        cases hm : m q with
        | none =>
          have hm' : (m q).isSome = false := by rw [hm]; rfl
          have HM' := Lib.hid hm'
          have HN' : Hid (remN m q c = c) := by unfold Hid remN; rw [hm]; rfl
          rw [hm] at hth
          have hth' : th q = false := hth
          have HTH := Lib.hid hth'
          rw [HTH.out] at cT
          have HU := Lib.hid (upd_none hm)
          clear hm hm' hth hth' hks q0
          have HD : Hid (OA w.heap.size w wr.drew rb hb tb kb c m th ks) := HO.out.drew
          go_wp2_with fail
          refine (bring_fit _ 64 q _ (by omega) (by omega) HQ.out).mono ?_
          rintro e w0 ⟨rfl, rfl⟩
          go_wp2_with fail
          refine (bring_fit _ 3 2 _ (by omega) (by omega) HKD.out).mono ?_
          rintro e w0 ⟨rfl, rfl⟩
          go_wp2_with fail
          have hqi0 : (0 : Int) ≤ (q : Int) := by omega
          have hqi1 : (q : Int) < 64 := by omega
          go_region_held3 (fun w' => w'.cell? ⟨tb, q, none⟩ = some (.bool false)) (first | assumption | go_keep)
            (first | (go_at_call 18; refine (rem_S q false false HD.out hq (by omega) HM'.out HN'.out HTH.out).mono ?_; rintro e w4 ⟨rfl, hq4, H4⟩))
          all_goals
            have HF : Hid (OrdI w rb hb tb kb c w4) := ⟨_, _, _, H4.out, by rw [HU.out]; exact HRl.out⟩
            have cT4 := H4.out.T.cell hq
            rw [HTH.out] at cT4
            clear H4
            go_wp2_with fail
            go_roundw
            case rel => exact ⟨c, i + 1, by omega, by omega, rfl, by go_num, HF⟩
            case measure => simp [intOf]; omega
        | some k0 =>
          have hc0 := HO.out.posn hm
          obtain ⟨c', rfl⟩ : ∃ c', c = c' + 1 := ⟨c - 1, by omega⟩
          have hm' : (m q).isSome = true := by rw [hm]; rfl
          have HM' := Lib.hid hm'
          have HN' : Hid (remN m q (c' + 1) = c') := by unfold Hid remN; rw [hm]; rfl
          rw [hm] at hth
          have hth' : th q = true := hth
          have HTH := Lib.hid hth'
          rw [HTH.out] at cT
          clear hm hm' hth hth' hks q0
          have HD : Hid (OA w.heap.size w wr.drew rb hb tb kb (c' + 1) m th ks) := HO.out.drew
          go_wp2_with fail
          refine (bring_fit _ 64 q _ (by omega) (by omega) HQ.out).mono ?_
          rintro e w0 ⟨rfl, rfl⟩
          go_wp2_with fail
          refine (bring_fit _ 3 2 _ (by omega) (by omega) HKD.out).mono ?_
          rintro e w0 ⟨rfl, rfl⟩
          go_wp2_with fail
          have hqi0 : (0 : Int) ≤ (q : Int) := by omega
          have hqi1 : (q : Int) < 64 := by omega
          go_region_held3 (fun w' => w'.cell? ⟨tb, q, none⟩ = some (.bool true)) (first | assumption | go_keep)
            (first | (go_at_call 18; refine (rem_S q true true HD.out hq (by omega) HM'.out HN'.out HTH.out).mono ?_; rintro e w4 ⟨rfl, hq4, H4⟩))
          all_goals
            have HF : Hid (OrdI w rb hb tb kb c' (w4.setCell ⟨tb, q, none⟩ (.bool false))) := ⟨_, _, _, H4.out.setT hq false, HRl.out.rem⟩
            have cT4 := H4.out.T.cell hq
            have fT4 := H4.out.T.free q
            rw [HTH.out] at cT4
            clear H4
            go_wp2_with fail
            go_roundw
            case rel => exact ⟨c', i + 1, by omega, by omega, by go_num, by go_num, HF⟩
            case measure => simp [intOf]; omega
    · by_cases hin : i < n
      · have hd1 : decide ((i : Int) < 200) = false := by simp; omega
        go_wp2_with fail
        refine (oa_len HO.out).mono ?_
        rintro e w0 ⟨rfl, rfl⟩
        have HP : Hid (PopI w rb hb tb kb c 0 0 0 wr) := ⟨m, th, ks, HO.out, HRl.out, fun h => by omega⟩
        clear HO HRl
        go_wp2_with fail
        go_loopw [12, 13, 14] (fun l b0 j wr => ∃ (l' b0' : Int) (j' : Nat), j' ≤ c ∧ l = .int .i64 l' ∧ b0 = .int .i64 b0' ∧ j = .int .i64 j' ∧ Hid (PopI w rb hb tb kb c j' l' b0' wr)) (fun _ _ j _ => c - (intOf j).toNat)
        case atStart => exact ⟨0, 0, 0, Nat.zero_le _, rfl, rfl, rfl, HP⟩
        case round =>
          clear HP
          obtain ⟨l, b0, j, hj, rfl, rfl, rfl, HP⟩ := hrel
          obtain ⟨m, th, ks, hoa, hrl, hbeh⟩ := HP.out
          clear HP
          by_cases hlt : j < c
          · obtain ⟨d, hd⟩ : ∃ d, c - j = d + 1 := ⟨c - j - 1, by omega⟩
            rw [hd] at hoa
            obtain ⟨x, hx⟩ := hoa.first (by omega)
            have hdom := hoa.dom hx.1
            obtain ⟨x1, x2⟩ := x
            dsimp only at hdom
            obtain ⟨q, rfl⟩ : ∃ q : Nat, x1 = q := ⟨x1.toNat, by omega⟩
            have hq : q < 64 := by omega
            have hth' : th q = true := by rw [(hrl q hq).1, hx.1]; rfl
            have hks' : ks q = x2 := (hrl q hq).2 _ hx.1
            have HB : Hid (0 < j → l < x2 ∨ (l = x2 ∧ b0 < q)) := fun h => hbeh h _ _ hx.1
            have HX := Lib.hid hx
            have HO := Lib.hid hoa
            have HRl := Lib.hid hrl
            have HTH := Lib.hid hth'
            have HKS := Lib.hid hks'
            have HDD := Lib.hid hd
            have hd2 : d ≤ 100000 := by omega
            have hq0 : decide ((q : Int) < 0) = false := by simp
            have hq63 : decide ((63 : Int) < (q : Int)) = false := by simp; omega
            clear hx hoa hrl hth' hks' hd hbeh hdom
            by_cases hj0 : 0 < j
            · have hjd : decide ((0 : Int) < (j : Int)) = true := by simp; omega
              have hb := HB.out hj0
              have hl1 : decide (x2 < l) = false := by simp; omega
              by_cases he : x2 = l
              · have he1 : (x2 == l) = true := by simp [he]
                have hl2 : decide ((q : Int) < b0) = false := by simp; omega
                clear he hb HB
                go_wp2_with fail
                refine (oa_pop ((q : Int), x2) HO.out (by omega) HX.out).mono ?_
                rintro e w3 ⟨rfl, h3⟩
                have H3 := Lib.hid h3
                have cT := h3.T.cell hq
                have cK := h3.K.cell hq
                have fT := h3.T.free q
                rw [HTH.out] at cT
                rw [HKS.out] at cK
                clear h3 HO
                have HF : Hid (PopI w rb hb tb kb c (j + 1) x2 q (w3.setCell ⟨tb, q, none⟩ (.bool false))) := ⟨_, _, _, by
                  have := H3.out.setT hq false
                  have hdd := HDD.out
                  rw [show c - (j + 1) = d by omega]
                  exact this, HRl.out.rem, fun _ => Behind.next HX.out⟩
                go_wp2_with fail
                go_roundw
                case rel => exact ⟨x2, q, j + 1, by omega, rfl, rfl, by go_num, HF⟩
                case measure => simp [intOf]; omega
              · have he1 : (x2 == l) = false := by simp [he]
                clear he hb HB
                go_wp2_with fail
                refine (oa_pop ((q : Int), x2) HO.out (by omega) HX.out).mono ?_
                rintro e w3 ⟨rfl, h3⟩
                have H3 := Lib.hid h3
                have cT := h3.T.cell hq
                have cK := h3.K.cell hq
                have fT := h3.T.free q
                rw [HTH.out] at cT
                rw [HKS.out] at cK
                clear h3 HO
                have HF : Hid (PopI w rb hb tb kb c (j + 1) x2 q (w3.setCell ⟨tb, q, none⟩ (.bool false))) := ⟨_, _, _, by
                  have := H3.out.setT hq false
                  have hdd := HDD.out
                  rw [show c - (j + 1) = d by omega]
                  exact this, HRl.out.rem, fun _ => Behind.next HX.out⟩
                go_wp2_with fail
                go_roundw
                case rel => exact ⟨x2, q, j + 1, by omega, rfl, rfl, by go_num, HF⟩
                case measure => simp [intOf]; omega
            · have hjd : decide ((0 : Int) < (j : Int)) = false := by simp; omega
              clear HB
              go_wp2_with fail
              refine (oa_pop ((q : Int), x2) HO.out (by omega) HX.out).mono ?_
              rintro e w3 ⟨rfl, h3⟩
              have H3 := Lib.hid h3
              have cT := h3.T.cell hq
              have cK := h3.K.cell hq
              have fT := h3.T.free q
              rw [HTH.out] at cT
              rw [HKS.out] at cK
              clear h3 HO
              have HF : Hid (PopI w rb hb tb kb c (j + 1) x2 q (w3.setCell ⟨tb, q, none⟩ (.bool false))) := ⟨_, _, _, by
                have := H3.out.setT hq false
                have hdd := HDD.out
                rw [show c - (j + 1) = d by omega]
                exact this, HRl.out.rem, fun _ => Behind.next HX.out⟩
              go_wp2_with fail
              go_roundw
              case rel => exact ⟨x2, q, j + 1, by omega, rfl, rfl, by go_num, HF⟩
              case measure => simp [intOf]; omega
          · obtain rfl : c = j := by omega
            have ho : OA w.heap.size w wr rb hb tb kb 0 m th ks := by have := hoa; rwa [Nat.sub_self] at this
            have HO := Lib.hid ho
            clear ho hoa hrl hbeh
            go_wp2_with fail
            refine (oa_pop0 HO.out).mono ?_
            rintro e w3 ⟨rfl, h3⟩
            have H3 := Lib.hid h3
            clear h3 HO
            go_wp2_with fail
            refine (oa_len H3.out).mono ?_
            rintro e w0 ⟨rfl, rfl⟩
            go_wp2_with fail
            go_ret
            exact ⟨rfl, H3.out.bel⟩
      · have hd0 : decide ((i : Int) < (n : Int)) = false := by simp; omega
        go_wp2_with fail
        refine (oa_len HO.out).mono ?_
        rintro e w0 ⟨rfl, rfl⟩
        have HP : Hid (PopI w rb hb tb kb c 0 0 0 wr) := ⟨m, th, ks, HO.out, HRl.out, fun h => by omega⟩
        clear HO HRl
        go_wp2_with fail
        go_loopw [12, 13, 14] (fun l b0 j wr => ∃ (l' b0' : Int) (j' : Nat), j' ≤ c ∧ l = .int .i64 l' ∧ b0 = .int .i64 b0' ∧ j = .int .i64 j' ∧ Hid (PopI w rb hb tb kb c j' l' b0' wr)) (fun _ _ j _ => c - (intOf j).toNat)
        case atStart => exact ⟨0, 0, 0, Nat.zero_le _, rfl, rfl, rfl, HP⟩
        case round =>
          clear HP
          obtain ⟨l, b0, j, hj, rfl, rfl, rfl, HP⟩ := hrel
          obtain ⟨m, th, ks, hoa, hrl, hbeh⟩ := HP.out
          clear HP
          by_cases hlt : j < c
          · obtain ⟨d, hd⟩ : ∃ d, c - j = d + 1 := ⟨c - j - 1, by omega⟩
            rw [hd] at hoa
            obtain ⟨x, hx⟩ := hoa.first (by omega)
            have hdom := hoa.dom hx.1
            obtain ⟨x1, x2⟩ := x
            dsimp only at hdom
            obtain ⟨q, rfl⟩ : ∃ q : Nat, x1 = q := ⟨x1.toNat, by omega⟩
            have hq : q < 64 := by omega
            have hth' : th q = true := by rw [(hrl q hq).1, hx.1]; rfl
            have hks' : ks q = x2 := (hrl q hq).2 _ hx.1
            have HB : Hid (0 < j → l < x2 ∨ (l = x2 ∧ b0 < q)) := fun h => hbeh h _ _ hx.1
            have HX := Lib.hid hx
            have HO := Lib.hid hoa
            have HRl := Lib.hid hrl
            have HTH := Lib.hid hth'
            have HKS := Lib.hid hks'
            have HDD := Lib.hid hd
            have hd2 : d ≤ 100000 := by omega
            have hq0 : decide ((q : Int) < 0) = false := by simp
            have hq63 : decide ((63 : Int) < (q : Int)) = false := by simp; omega
            clear hx hoa hrl hth' hks' hd hbeh hdom
            by_cases hj0 : 0 < j
            · have hjd : decide ((0 : Int) < (j : Int)) = true := by simp; omega
              have hb := HB.out hj0
              have hl1 : decide (x2 < l) = false := by simp; omega
              by_cases he : x2 = l
              · have he1 : (x2 == l) = true := by simp [he]
                have hl2 : decide ((q : Int) < b0) = false := by simp; omega
                clear he hb HB
                go_wp2_with fail
                refine (oa_pop ((q : Int), x2) HO.out (by omega) HX.out).mono ?_
                rintro e w3 ⟨rfl, h3⟩
                have H3 := Lib.hid h3
                have cT := h3.T.cell hq
                have cK := h3.K.cell hq
                have fT := h3.T.free q
                rw [HTH.out] at cT
                rw [HKS.out] at cK
                clear h3 HO
                have HF : Hid (PopI w rb hb tb kb c (j + 1) x2 q (w3.setCell ⟨tb, q, none⟩ (.bool false))) := ⟨_, _, _, by
                  have := H3.out.setT hq false
                  have hdd := HDD.out
                  rw [show c - (j + 1) = d by omega]
                  exact this, HRl.out.rem, fun _ => Behind.next HX.out⟩
                go_wp2_with fail
                go_roundw
                case rel => exact ⟨x2, q, j + 1, by omega, rfl, rfl, by go_num, HF⟩
                case measure => simp [intOf]; omega
              · have he1 : (x2 == l) = false := by simp [he]
                clear he hb HB
                go_wp2_with fail
                refine (oa_pop ((q : Int), x2) HO.out (by omega) HX.out).mono ?_
                rintro e w3 ⟨rfl, h3⟩
                have H3 := Lib.hid h3
                have cT := h3.T.cell hq
                have cK := h3.K.cell hq
                have fT := h3.T.free q
                rw [HTH.out] at cT
                rw [HKS.out] at cK
                clear h3 HO
                have HF : Hid (PopI w rb hb tb kb c (j + 1) x2 q (w3.setCell ⟨tb, q, none⟩ (.bool false))) := ⟨_, _, _, by
                  have := H3.out.setT hq false
                  have hdd := HDD.out
                  rw [show c - (j + 1) = d by omega]
                  exact this, HRl.out.rem, fun _ => Behind.next HX.out⟩
                go_wp2_with fail
                go_roundw
                case rel => exact ⟨x2, q, j + 1, by omega, rfl, rfl, by go_num, HF⟩
                case measure => simp [intOf]; omega
            · have hjd : decide ((0 : Int) < (j : Int)) = false := by simp; omega
              clear HB
              go_wp2_with fail
              refine (oa_pop ((q : Int), x2) HO.out (by omega) HX.out).mono ?_
              rintro e w3 ⟨rfl, h3⟩
              have H3 := Lib.hid h3
              have cT := h3.T.cell hq
              have cK := h3.K.cell hq
              have fT := h3.T.free q
              rw [HTH.out] at cT
              rw [HKS.out] at cK
              clear h3 HO
              have HF : Hid (PopI w rb hb tb kb c (j + 1) x2 q (w3.setCell ⟨tb, q, none⟩ (.bool false))) := ⟨_, _, _, by
                have := H3.out.setT hq false
                have hdd := HDD.out
                rw [show c - (j + 1) = d by omega]
                exact this, HRl.out.rem, fun _ => Behind.next HX.out⟩
              go_wp2_with fail
              go_roundw
              case rel => exact ⟨x2, q, j + 1, by omega, rfl, rfl, by go_num, HF⟩
              case measure => simp [intOf]; omega
          · obtain rfl : c = j := by omega
            have ho : OA w.heap.size w wr rb hb tb kb 0 m th ks := by have := hoa; rwa [Nat.sub_self] at this
            have HO := Lib.hid ho
            clear ho hoa hrl hbeh
            go_wp2_with fail
            refine (oa_pop0 HO.out).mono ?_
            rintro e w3 ⟨rfl, h3⟩
            have H3 := Lib.hid h3
            clear h3 HO
            go_wp2_with fail
            refine (oa_len H3.out).mono ?_
            rintro e w0 ⟨rfl, rfl⟩
            go_wp2_with fail
            go_ret
            exact ⟨rfl, H3.out.bel⟩

end Go.Proofs.Ytoiegoehebkjgaa
