/- step and same: a call of both ranks, and what they tell. -/
import Derived.Test.YtoiegoehebkjgaaWalksP
namespace Go.Proofs.Ytoiegoehebkjgaa
open Go.RowKit Rk
set_option linter.unusedVariables false

section
variable {B : Nat} {W w w' : World} {rb hb n1 : Nat} {m1 : Mp} {mb n2 : Nat} {m2 : Mp} {x : Nat}
/-- a call of both, with what the box holds -/
def StS (v : Value) (x : Nat) (kd id key : Int) (B : Nat) (W : World) (rb hb n1 : Nat) (m1 : Mp) (mb n2 : Nat) (m2 : Mp) (e : Ending) (w' : World) : Prop :=
  e = .returned v ∧ (w'.cell? ⟨x, 1, none⟩ = some (.int .i64 id) ∧ w'.cell? ⟨x, 2, none⟩ = some (.int .i64 key)) ∧ Hid (OD B W w' rb hb n1 m1 mb n2 m2 (fun q => q = x)) ∧ Hid (w'.heap[x]? = some (.cells #[.int .i64 kd, .int .i64 id, .int .i64 key] 29 (0, 0)))
theorem ODP.sts {v : Value} {kd id key : Int} {e : Ending} (h : ODP v B W rb hb n1 m1 mb n2 m2 (fun q => q = x) w e w') (hx : w.heap[x]? = some (.cells #[.int .i64 kd, .int .i64 id, .int .i64 key] 29 (0, 0))) : StS v x kd id key B W rb hb n1 m1 mb n2 m2 e w' := by
  have e2 := (h.2.2 x rfl).trans hx
  exact ⟨h.1, ⟨(cell_of_row _ _ _ _ _ _ e2).trans rfl, (cell_of_row _ _ _ _ _ _ e2).trans rfl⟩, h.2.1, e2⟩
end

def StepP (B : Nat) (W : World) (rb hb n mb : Nat) (e : Ending) (w' : World) : Prop := e = .returned (.bool true) ∧ ∃ n' m', OD B W w' rb hb n' m' mb n' m' (fun _ => False) ∧ n' ≤ n + 1
theorem putN_le (m : Mp) (id : Int) (n : Nat) : putN m id n ≤ n + 1 := by unfold putN; split <;> omega
theorem remN_le (m : Mp) (id : Int) (n : Nat) : remN m id n ≤ n := by unfold remN; split <;> omega

set_option maxRecDepth 100000 in
set_option maxHeartbeats 8000000 in
theorem step_any (B : Nat) (W w : World) (rb hb n : Nat) (m : Mp) (mb : Nat) (kd id key : Int) (h : OD B W w rb hb n m mb n m (fun _ => False)) (hN : n ≤ 70000) :
    Calls Try.prog 9 #[.pointer (some ⟨rb, 0, none⟩), .pointer (some ⟨mb, 0, none⟩), .agg #[.int .i64 kd, .int .i64 id, .int .i64 key]] w (StepP B W rb hb n mb) := by
  have hk := bring_bd kd 4 (by omega)
  have hkc : bringN kd 4 = 0 ∨ bringN kd 4 = 1 ∨ bringN kd 4 = 2 ∨ bringN kd 4 = 3 := by omega
  have hal : Below w.heap.size w (w.alloc (.cells #[.int .i64 kd, .int .i64 id, .int .i64 key] 29)) := (Below.refl _ _).alloc (Nat.le_refl _) _
  have h1 := h.fresh hal (k := w.heap.size) (Nat.le_refl _) (by simp)
  have hX : (w.alloc (.cells #[.int .i64 kd, .int .i64 id, .int .i64 key] 29)).heap[w.heap.size]? = some (.cells #[.int .i64 kd, .int .i64 id, .int .i64 key] 29 (0, 0)) := heap_alloc_new w _
  have H0 : Hid (OD B W (w.alloc (.cells #[.int .i64 kd, .int .i64 id, .int .i64 key] 29)) rb hb n m mb n m (fun q => q = w.heap.size)) := h1
  have H1 : Hid (OD B W (w.alloc (.cells #[.int .i64 kd, .int .i64 id, .int .i64 key] 29)).drew rb hb n m mb n m (fun q => q = w.heap.size)) := h1.below (Below.refl _ _).drew
  have HX : Hid ((w.alloc (.cells #[.int .i64 kd, .int .i64 id, .int .i64 key] 29)).drew.heap[w.heap.size]? = some (.cells #[.int .i64 kd, .int .i64 id, .int .i64 key] 29 (0, 0))) := hX
  have HC : Hid ((w.alloc (.cells #[.int .i64 kd, .int .i64 id, .int .i64 key] 29)).drew.cell? ⟨w.heap.size, 1, none⟩ = some (.int .i64 id) ∧ (w.alloc (.cells #[.int .i64 kd, .int .i64 id, .int .i64 key] 29)).drew.cell? ⟨w.heap.size, 2, none⟩ = some (.int .i64 key)) :=
    ⟨(cell_of_row _ _ _ _ _ _ hX).trans rfl, (cell_of_row _ _ _ _ _ _ hX).trans rfl⟩
  clear hal h1 hX h hk
  rcases hkc with hk | hk | hk | hk
  · obtain ⟨E, hE⟩ : ∃ E, putE m id = E := ⟨_, rfl⟩
    have HK := Lib.hid hk
    have HE := Lib.hid hE
    have HLe := putN_le m id n
    clear hk hE
    go_enter Try.func9, Try.ntmps9
    go_wp2_with fail
    refine (bring_any kd 4 _ (by omega) (by omega)).mono ?_
    rintro e w0 ⟨rfl, rfl⟩
    rw [HK.out]
    go_wp2_with fail
    go_region_held3 (fun w' => w'.cell? ⟨w.heap.size, 1, none⟩ = some (.int .i64 id) ∧ w'.cell? ⟨w.heap.size, 2, none⟩ = some (.int .i64 key))
      (first | assumption | exact HC.out | go_keep)
      (first | (go_at_call 16; refine (od_put id key H1.out (by omega)).mono ?_; intro e w4 hp4; obtain ⟨he4, hq4, HO4, HX4⟩ := ODP.sts hp4 HX.out; rw [HE.out] at he4; subst he4; clear hp4) | (go_at_call 23; refine (od_rput id key HO4.out (by omega)).mono ?_; intro e w5 hp5; obtain ⟨he5, hq5, HO5, HX5⟩ := ODP.sts hp5 HX4.out; rw [HE.out] at he5; subst he5; clear hp5))
    all_goals
      have HF : Hid (StepP B W rb hb n mb (.returned (.bool true)) w5) := ⟨rfl, putN m id n, putM m id key, HO5.out.drop, HLe⟩
      clear hq4 HO4 HX4 hq5 HO5 HX5
      go_wp2_with fail
      go_ret
      exact HF
  · obtain ⟨E, hE⟩ : ∃ E, lowE m id key = E := ⟨_, rfl⟩
    have HK := Lib.hid hk
    have HE := Lib.hid hE
    have HLe := Nat.le_succ n
    clear hk hE
    go_enter Try.func9, Try.ntmps9
    go_wp2_with fail
    refine (bring_any kd 4 _ (by omega) (by omega)).mono ?_
    rintro e w0 ⟨rfl, rfl⟩
    rw [HK.out]
    go_wp2_with fail
    go_region_held3 (fun w' => w'.cell? ⟨w.heap.size, 1, none⟩ = some (.int .i64 id) ∧ w'.cell? ⟨w.heap.size, 2, none⟩ = some (.int .i64 key))
      (first | assumption | exact HC.out | go_keep)
      (first | (go_at_call 17; refine (od_low id key H1.out (by omega)).mono ?_; intro e w4 hp4; obtain ⟨he4, hq4, HO4, HX4⟩ := ODP.sts hp4 HX.out; rw [HE.out] at he4; subst he4; clear hp4) | (go_at_call 24; refine (od_rlow id key HO4.out (by omega)).mono ?_; intro e w5 hp5; obtain ⟨he5, hq5, HO5, HX5⟩ := ODP.sts hp5 HX4.out; rw [HE.out] at he5; subst he5; clear hp5))
    all_goals
      have HF : Hid (StepP B W rb hb n mb (.returned (.bool true)) w5) := ⟨rfl, n, lowM m id key, HO5.out.drop, HLe⟩
      clear hq4 HO4 HX4 hq5 HO5 HX5
      go_wp2_with fail
      go_ret
      exact HF
  · obtain ⟨E, hE⟩ : ∃ E, (m id).isSome = E := ⟨_, rfl⟩
    have HK := Lib.hid hk
    have HE := Lib.hid hE
    have HLe := Nat.le_succ_of_le (remN_le m id n)
    clear hk hE
    go_enter Try.func9, Try.ntmps9
    go_wp2_with fail
    refine (bring_any kd 4 _ (by omega) (by omega)).mono ?_
    rintro e w0 ⟨rfl, rfl⟩
    rw [HK.out]
    go_wp2_with fail
    go_region_held3 (fun w' => w'.cell? ⟨w.heap.size, 1, none⟩ = some (.int .i64 id) ∧ w'.cell? ⟨w.heap.size, 2, none⟩ = some (.int .i64 key))
      (first | assumption | exact HC.out | go_keep)
      (first | (go_at_call 18; refine (od_rem id H1.out (by omega)).mono ?_; intro e w4 hp4; obtain ⟨he4, hq4, HO4, HX4⟩ := ODP.sts hp4 HX.out; rw [HE.out] at he4; subst he4; clear hp4) | (go_at_call 25; refine (od_rrem id HO4.out (by omega)).mono ?_; intro e w5 hp5; obtain ⟨he5, hq5, HO5, HX5⟩ := ODP.sts hp5 HX4.out; rw [HE.out] at he5; subst he5; clear hp5))
    all_goals
      have HF : Hid (StepP B W rb hb n mb (.returned (.bool true)) w5) := ⟨rfl, remN m id n, upd m id none, HO5.out.drop, HLe⟩
      clear hq4 HO4 HX4 hq5 HO5 HX5
      go_wp2_with fail
      go_ret
      exact HF
  · obtain ⟨a, b, c, n', m', hp, hle⟩ := H0.out.pops
    have HP := Lib.hid hp
    have HK := Lib.hid hk
    clear hk hp
    go_enter Try.func9, Try.ntmps9
    go_wp2_with fail
    refine (bring_any kd 4 _ (by omega) (by omega)).mono ?_
    rintro e w0 ⟨rfl, rfl⟩
    rw [HK.out]
    go_wp2_with fail
    refine (od_pop H0.out (by omega) HP.out).mono ?_
    rintro e w4 ⟨rfl, h4, _⟩
    have H4 := Lib.hid h4
    clear h4
    go_wp2_with fail
    refine (od_rpop H4.out (by omega) HP.out).mono ?_
    rintro e w5 ⟨rfl, h5, _⟩
    have HF : Hid (StepP B W rb hb n mb (.returned (.bool true)) w5) := ⟨rfl, n', m', h5.drop, by omega⟩
    clear h5 H4
    go_wp2_with fail
    go_ret
    exact HF

/-! same -/
section
variable {B : Nat} {W w w' : World} {rb hb n1 : Nat} {m1 : Mp} {mb n2 : Nat} {m2 : Mp} {X : Nat → Prop}
def OdB (v : Value) (B : Nat) (W : World) (rb hb n1 : Nat) (m1 : Mp) (mb n2 : Nat) (m2 : Mp) (X : Nat → Prop) (e : Ending) (w' : World) : Prop := e = .returned v ∧ OD B W w' rb hb n1 m1 mb n2 m2 X
theorem od_first {a b : Int} {c : Bool} {n' : Nat} {m' : Mp} (h : OD B W w rb hb n1 m1 mb n2 m2 X) (hp : popA m1 n1 a b c n' m') : Calls Try.prog 21 #[.pointer (some ⟨rb, 0, none⟩)] w (OdB (.tuple #[.int .i64 a, .int .i64 b, .bool c]) B W rb hb n1 m1 mb n2 m2 X) := by
  obtain ⟨g, mg, k1, k2, x, ap, gd⟩ := h.ex
  rcases hp with ⟨rfl, rfl, rfl, rfl, rfl, rfl⟩ | ⟨y, rfl, hy, rfl, rfl, rfl, rfl⟩
  · exact (first_none w rb hb g m' k1).mono fun e w' o => ⟨o.1, h.below o.2⟩
  · exact (first_some w rb hb g (n' + 1) m1 y k1 (by omega) hy).mono fun e w' o => ⟨o.1, h.below o.2⟩
theorem od_rfirst {a b : Int} {c : Bool} {n' : Nat} {m' : Mp} (h : OD B W w rb hb n1 m1 mb n2 m2 X) (hp : popA m2 n2 a b c n' m') : Calls Try.prog 27 #[.pointer (some ⟨mb, 0, none⟩)] w (OdB (.tuple #[.int .i64 a, .int .i64 b, .bool c]) B W rb hb n1 m1 mb n2 m2 X) := by
  obtain ⟨g, mg, k1, k2, x, ap, gd⟩ := h.ex
  rcases hp with ⟨rfl, rfl, rfl, rfl, rfl, rfl⟩ | ⟨y, rfl, hy, rfl, rfl, rfl, rfl⟩
  · exact (rfirst_none w B mb mg m' k2).mono fun e w' o => ⟨o.1, h.below o.2⟩
  · exact (rfirst_some w B mb mg (n' + 1) m2 y k2 (by omega) hy).mono fun e w' o => ⟨o.1, h.below o.2⟩
theorem od_key {id k : Int} {c : Bool} (h : OD B W w rb hb n1 m1 mb n2 m2 X) (hN : n1 ≤ 80000) (h1 : keyN m1 id = k) (h2 : (m1 id).isSome = c) : Calls Try.prog 22 #[.pointer (some ⟨rb, 0, none⟩), .int .i64 id] w (KeyP k c w) := by
  subst h1 h2
  obtain ⟨g, mg, k1, k2, x, ap, gd⟩ := h.ex
  exact key_any w rb hb g n1 m1 id k1 (by omega)
theorem od_rkey {id k : Int} {c : Bool} (h : OD B W w rb hb n1 m1 mb n2 m2 X) (hN : n2 ≤ 80000) (h1 : keyN m2 id = k) (h2 : (m2 id).isSome = c) : Calls Try.prog 28 #[.pointer (some ⟨mb, 0, none⟩), .int .i64 id] w (KeyP k c w) := by
  subst h1 h2
  obtain ⟨g, mg, k1, k2, x, ap, gd⟩ := h.ex
  exact rkey_any w B mb mg n2 m2 id k2 (by omega)
theorem od_len (h : OD B W w rb hb n1 m1 mb n2 m2 X) : Calls Try.prog 19 #[.pointer (some ⟨rb, 0, none⟩)] w (IsN n1 w) := by
  obtain ⟨g, mg, k1, _⟩ := h.ex
  exact len_any w rb hb g n1 m1 k1
theorem od_rlen (h : OD B W w rb hb n1 m1 mb n2 m2 X) : Calls Try.prog 29 #[.pointer (some ⟨mb, 0, none⟩)] w (IsN n2 w) := by
  obtain ⟨g, mg, k1, k2, _⟩ := h.ex
  exact rlen_any w B mb mg n2 m2 k2
end
def SameP (B : Nat) (W : World) (rb hb n : Nat) (m : Mp) (mb : Nat) (X : Nat → Prop) (e : Ending) (w' : World) : Prop := e = .returned (.bool true) ∧ OD B W w' rb hb n m mb n m X
set_option maxRecDepth 100000 in
set_option maxHeartbeats 4000000 in
theorem same_any (B : Nat) (W w : World) (rb hb n : Nat) (m : Mp) (mb : Nat) (X : Nat → Prop) (id : Int) (h : OD B W w rb hb n m mb n m X) (hN : n ≤ 70000) :
    Calls Try.prog 10 #[.pointer (some ⟨rb, 0, none⟩), .pointer (some ⟨mb, 0, none⟩), .int .i64 id] w (SameP B W rb hb n m mb X) := by
  obtain ⟨a, b, c, n', m', hp, hle⟩ := h.pops
  obtain ⟨k, hk⟩ : ∃ k, keyN m id = k := ⟨_, rfl⟩
  obtain ⟨kc, hkc⟩ : ∃ kc, (m id).isSome = kc := ⟨_, rfl⟩
  have H := Lib.hid h
  have HP := Lib.hid hp
  have HK := Lib.hid hk
  have HKC := Lib.hid hkc
  clear h hp hk hkc
  go_enter Try.func10, Try.ntmps10
  go_wp2_with fail
  refine (od_first H.out HP.out).mono ?_
  rintro e w1 ⟨rfl, h1⟩
  have H1 := Lib.hid h1
  clear h1 H
  go_wp2_with fail
  refine (od_rfirst H1.out HP.out).mono ?_
  rintro e w2 ⟨rfl, h2⟩
  have H2 := Lib.hid h2
  clear h2 H1
  go_wp2_with fail
  refine (od_key H2.out (by omega) HK.out HKC.out).mono ?_
  rintro e w0 ⟨rfl, rfl⟩
  go_wp2_with fail
  refine (od_rkey H2.out (by omega) HK.out HKC.out).mono ?_
  rintro e w0 ⟨rfl, rfl⟩
  go_wp2_with fail
  refine (od_len H2.out).mono ?_
  rintro e w0 ⟨rfl, rfl⟩
  go_wp2_with fail
  refine (od_rlen H2.out).mono ?_
  rintro e w0 ⟨rfl, rfl⟩
  go_wp2_with fail
  go_ret
  exact ⟨rfl, H2.out⟩

end Go.Proofs.Ytoiegoehebkjgaa
