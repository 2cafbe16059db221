/- GateFewer. -/
import Derived.Test.YtbdiekolkniajaaGatT
import Derived.Deep.RegionHeld3
namespace Go.Proofs.Ytbdiekolkniajaa
open Go.RowKit Tk De Dl Gt
set_option linter.unusedVariables false

/-- without those -/
def andN (N O : Nat) : Nat := N &&& (15 - O)
theorem andN_eq : ∀ N : Nat, N < 16 → ∀ O : Nat, O < 16 → bits BinOp.andNot IntKind.i64 (N : Int) (O : Int) = ((andN N O : Nat) : Int) ∧ andN N O < 16 := by decide
theorem andN_bit : ∀ N : Nat, N < 16 → ∀ O : Nat, O < 16 → ∀ i : Nat, i < 4 → andN N O / 2 ^ i % 2 = 1 → N / 2 ^ i % 2 = 1 := by decide
theorem who_at {N k i : Nat} : (whoL N k).getD i false = (decide (i < k) && decide (N / 2 ^ i % 2 = 1)) := by
  unfold whoL
  by_cases h : i < k
  · simp [List.getD, h]
  · simp [List.getD, h]
theorem who_fewer {N O k : Nat} (hN : N < 16) (hO : O < 16) (hk : k ≤ 4) : ∀ i, (whoL (andN N O) k).getD i false = true → (whoL N k).getD i false = true := fun i h => by
  rw [who_at, Bool.and_eq_true, decide_eq_true_eq, decide_eq_true_eq] at h ⊢
  exact ⟨h.1, andN_bit N hN O hO i (by omega) h.2⟩
theorem who_none (k : Nat) : ∀ i, (whoL 0 k).getD i false = false := fun i => by
  rw [who_at]
  simp
/-- a configuration's box, and all that was there -/
def SC (W w : World) (b : Nat) (pv : Value) : Prop := w.cell? ⟨b, 0, none⟩ = some pv ∧ w.cell? ⟨b, 1, none⟩ = some (.slice none 0 0) ∧ Below W.heap.size W w
theorem SC.drew {W w : World} {b : Nat} {pv : Value} (h : SC W w b pv) : SC W w.drew b pv := ⟨h.1, h.2.1, h.2.2.drew⟩
theorem SC.below {W w w' : World} {b : Nat} {pv : Value} (h : SC W w b pv) (q : Below w.heap.size w w') : SC W w' b pv :=
  ⟨(q.cell (World.block_lt_of_cell? _ _ h.1)).trans h.1, (q.cell (World.block_lt_of_cell? _ _ h.2.1)).trans h.2.1, chn h.2.2 q⟩
theorem CB.sc {W : World} {b : Nat} {pv : Value} (h : CB W b pv) : SC W W b pv := ⟨cell_of_row _ _ 0 _ _ _ h, cell_of_row _ _ 1 _ _ _ h, Below.refl _ _⟩
theorem who_S {w W : World} {b : Nat} {pv pw : Value} {ps : List Pn} (hp : PS W pw ps) (hl : ps.length ≤ 4) {N : Nat} (hN : N < 16) (h : SC W w b pv) : Calls Try.prog 8 #[.agg #[pw, .slice none 0 0], .int .i64 N] w (fun e w' => ∃ u, e = .returned u ∧ BV w' u (whoL N ps.length) ∧ SC W w' b pv) :=
  (who_any (hp.below h.2.2) hl N hN).mono fun e w' ⟨u, he, ho, hb⟩ => ⟨u, he, ho.bv, h.below hb⟩
theorem test_S {w W : World} {b : Nat} {pv pw u : Value} {ps : List Pn} {ins : List Bool} {r : Int × Int × Int} (hp : PS W pw ps) (hr : gtR ps ins = r) (hu : BV w u ins) (h : SC W w b pv) : Calls Try.prog 7 #[.agg #[pw, .slice none 0 0], u] w (fun e w' => e = .returned (.tuple #[.int .i64 r.1, .int .i64 r.2.1, .int .i64 r.2.2]) ∧ SC W w' b pv) := by
  subst hr
  exact (GTest_any ⟨pw, rfl, hp.below h.2.2⟩ hu).mono fun e w' ⟨he, hb⟩ => ⟨he, h.below hb⟩
set_option maxRecDepth 100000 in
set_option maxHeartbeats 4000000 in
theorem fewer_law {w : World} {v : Value} {ps : List Pn} (h : PS w v ps) (n o : Int) : Calls Try.prog 3 #[v, .int .i64 n, .int .i64 o] w (TrueB w) := by
  have mixed : Try.prog.follows .mixedOrders = true := by kernel_rfl
  have HM : Hid (Calls Try.prog 5 #[v] w (fun e w' => ∃ pv, e = .returned (.agg #[pv, .slice none 0 0]) ∧ PW w' w.heap.size pv (ml ps 4) ∧ Below w.heap.size w w')) := made_any h
  have HB1 := Lib.hid (fun w => bring_bn n 16 w (by decide) (by decide))
  have HB2 := Lib.hid (fun w => bring_bn o 16 w (by decide) (by decide))
  have hN := bn_lt n (n := 16) (by decide)
  have hO := bn_lt o (n := 16) (by decide)
  have HPL := Lib.hid (ml_plain ps)
  have HWK := Lib.hid works_any
  clear h
  generalize ml ps 4 = l at *
  generalize bn n 16 = N at *
  generalize bn o 16 = O at *
  obtain ⟨hA1, hA2⟩ := andN_eq N hN O hO
  have HFE := Lib.hid (who_fewer (k := l.length) hN hO HPL.out.2)
  generalize andN N O = A at *
  have HN := Lib.hid hN
  have HA := Lib.hid hA2
  clear hN hO hA2
  go_enter Try.func3, Try.ntmps3
  go_wp2_with fail
  refine HM.out.mono ?_
  rintro e w1 ⟨pv, rfl, hpw, hb⟩
  have HPS := Lib.hid hpw.ps
  obtain ⟨pa, pc, rfl, _⟩ := hpw.ps.slice
  have HB := Lib.hid (hb.alloc hb.size (.cells #[.slice pa l.length pc, .slice none 0 0] 25))
  have HCB : Hid (CB (w1.alloc (.cells #[.slice pa l.length pc, .slice none 0 0] 25)) w1.heap.size (.slice pa l.length pc)) := heap_alloc_new w1 _
  have HP1 := Lib.hid (HPS.out.below (below_alloc w1 (.cells #[.slice pa l.length pc, .slice none 0 0] 25)))
  clear hpw hb HM HPS
  go_wp2_with fail
  generalize w1.alloc (.cells #[.slice pa l.length pc, .slice none 0 0] 25) = W1 at *
  generalize w1.heap.size = cb at *
  refine (HB1.out _).mono ?_
  rintro e w2 ⟨rfl, rfl⟩
  go_wp2_with fail
  refine (HB2.out _).mono ?_
  rintro e w2 ⟨rfl, rfl⟩
  go_wp2_with fail
  have HS := Lib.hid HCB.out.sc
  have HLL := Lib.hid HPL.out.2
  obtain ⟨r1, hr1⟩ : ∃ r, gtR l (whoL N l.length) = r := ⟨_, rfl⟩
  obtain ⟨r2, hr2⟩ : ∃ r, gtR l (whoL A l.length) = r := ⟨_, rfl⟩
  obtain ⟨r3, hr3⟩ : ∃ r, gtR l (whoL 0 l.length) = r := ⟨_, rfl⟩
  have HR1 := Lib.hid hr1; have HR2 := Lib.hid hr2; have HR3 := Lib.hid hr3
  have HEND : Hid ((l.length = 0 ∧ r1.2.2 = 50 ∧ r2.2.2 = 50) ∨ (0 < l.length ∧ r3.2.2 = 0 ∧ (r1.2.2 = 0 → r2.2.2 = 0))) := by
    by_cases h0 : l.length = 0
    · refine Or.inl ⟨h0, ?_, ?_⟩
      · rw [← hr1]; obtain rfl := List.eq_nil_of_length_eq_zero h0; rfl
      · rw [← hr2]; obtain rfl := List.eq_nil_of_length_eq_zero h0; rfl
    · refine Or.inr ⟨by omega, ?_, ?_⟩
      · rw [← hr3]; exact gt_none HPL.out.1 (by omega) HPL.out.2 (who_len _ _) (who_none _)
      · rw [← hr1, ← hr2]
        exact fun h => gt_fewer HPL.out.1 (by omega) HPL.out.2 (who_len _ _) (who_len _ _) HFE.out h
  clear hr1 hr2 hr3 HFE HPL
  obtain ⟨a1, b1, e1⟩ := r1
  obtain ⟨a2, b2, e2⟩ := r2
  obtain ⟨a3, b3, e3⟩ := r3
  dsimp only at HEND
  obtain ⟨n, hn⟩ : ∃ n, n = l.length := ⟨_, rfl⟩
  have HNL := Lib.hid hn
  rw [← hn] at HS HP1 HCB HEND ⊢
  clear hn
  go_region_held3 (fun w' => w'.cell? ⟨cb, 0, none⟩ = some (.slice pa n pc) ∧ w'.cell? ⟨cb, 1, none⟩ = some (.slice none 0 0) ∧ Below W1.heap.size W1 w')
    (first | assumption | exact SC.drew HS.out | exact HS.out | go_keep)
    (first | (go_at_call 8; refine (who_S HP1.out HLL.out HN.out (by assumption)).mono ?_; rintro e w' ⟨u, rfl, hu, hq⟩)
           | (go_at_call 7; refine (test_S HP1.out HR1.out hu (by assumption)).mono ?_; rintro e w' ⟨rfl, hq2⟩))
  have HS2 := Lib.hid hq2
  rename_i hHeld
  clear hq hq2 hu hHeld HS
  go_wp2_with fail
  go_region_held3 (fun w' => w'.cell? ⟨cb, 0, none⟩ = some (.slice pa n pc) ∧ w'.cell? ⟨cb, 1, none⟩ = some (.slice none 0 0) ∧ Below W1.heap.size W1 w')
    (first | assumption | exact SC.drew HS2.out | exact HS2.out | go_keep)
    (first | (go_at_call 8; refine (who_S HP1.out HLL.out HA.out (by assumption)).mono ?_; rintro e wb ⟨ub, rfl, hu, hq⟩)
           | (go_at_call 7; refine (test_S HP1.out HR2.out hu (by assumption)).mono ?_; rintro e wb ⟨rfl, hq2⟩))
  have HS3 := Lib.hid hq2
  rename_i hHeld
  clear hq hq2 hu hHeld HS2
  have c0 := HS3.out.1
  rcases HEND.out with ⟨hz, rfl, rfl⟩ | ⟨hz, rfl, himp⟩
  · rw [hz] at c0
    obtain rfl : n = 0 := hz
    go_wp2_with fail
    refine (HWK.out _).mono ?_
    rintro e wd ⟨rfl, hb⟩
    have HQ := Lib.hid (chn (chn HB.out HS3.out.2.2) hb)
    clear hb
    go_wp2_with fail
    go_ret
    exact ⟨rfl, HQ.out⟩
  · have hnz : ((n : Int) == 0) = false := by simp; omega
    have hnz2 : (n == 0) = false := by simp; omega
    have H0 : Hid ((0 : Nat) < 16) := by unfold Hid; decide
    go_wp2_with fail
    go_region_held3 (fun w' => w'.cell? ⟨cb, 0, none⟩ = some (.slice pa n pc) ∧ w'.cell? ⟨cb, 1, none⟩ = some (.slice none 0 0) ∧ Below W1.heap.size W1 w')
      (first | assumption | exact SC.drew HS3.out | exact HS3.out | go_keep)
      (first | (go_at_call 8; refine (who_S HP1.out HLL.out H0.out (by assumption)).mono ?_; rintro e wc ⟨uc, rfl, hu, hq⟩)
             | (go_at_call 7; refine (test_S HP1.out HR3.out hu (by assumption)).mono ?_; rintro e wc ⟨rfl, hq2⟩))
    have HS4 := Lib.hid hq2
    rename_i hHeld
    clear hq hq2 hu hHeld HS3 c0
    by_cases he1 : e1 = 0
    · have he2 := himp he1
      subst he1; subst he2
      go_wp2_with fail
      refine (HWK.out _).mono ?_
      rintro e wd ⟨rfl, hb⟩
      have HQ := Lib.hid (chn (chn HB.out HS4.out.2.2) hb)
      clear hb
      go_wp2_with fail
      go_ret
      exact ⟨rfl, HQ.out⟩
    · have he3 : (e1 == 0) = false := by simp; exact he1
      go_wp2_with fail
      refine (HWK.out _).mono ?_
      rintro e wd ⟨rfl, hb⟩
      have HQ := Lib.hid (chn (chn HB.out HS4.out.2.2) hb)
      clear hb
      go_wp2_with fail
      go_ret
      exact ⟨rfl, HQ.out⟩
end Go.Proofs.Ytbdiekolkniajaa
