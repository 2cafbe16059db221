/- The calls of bells: New, isNone, mayBe, number, numbered, Cancel, At, Next, Count. -/
import Derived.Test.YtdfolbnnhglpeaaWalksE
import Derived.Test.YtdfolbnnhglpeaaBellP
import Derived.Handy
namespace Go.Proofs.Ytdfolbnnhglpeaa
open Go.RowKit Rk
set_option linter.unusedVariables false

/-- bells at block bb, over a rank at block rb, are what P lists -/
structure BK (w : World) (bb rb hb g : Nat) (P : List En) : Prop where
  C : w.heap[bb]? = some (.cells #[.pointer (some ⟨rb, 0, none⟩)] 49 (0, 0))
  R : RK w rb hb g P.length (mp P)
  ap : bb ≠ rb ∧ bb ≠ hb ∧ bb ≠ g
  W : Wf P
section
variable {w w' : World} {bb rb hb g n' : Nat} {P P' : List En} {m' : Mp} {v u : Value} {e : Ending}
theorem BK.lt (h : BK w bb rb hb g P) : bb < w.heap.size := lt_of_heap h.C
theorem BK.cell (h : BK w bb rb hb g P) : w.cell? ⟨bb, 0, none⟩ = some (.pointer (some ⟨rb, 0, none⟩)) := cell_of_one h.C
theorem BK.keep (h : BK w bb rb hb g P) (e : w'.heap[bb]? = w.heap[bb]?) (e0 : w'.heap[rb]? = w.heap[rb]?) (e1 : w'.heap[hb]? = w.heap[hb]?) (e2 : w'.heap[g]? = w.heap[g]?) : BK w' bb rb hb g P := ⟨e.trans h.C, h.R.keep e0 e1 e2, h.ap, h.W⟩
theorem BK.below (h : BK w bb rb hb g P) (b : Below w.heap.size w w') : BK w' bb rb hb g P := h.keep (b.block _ h.lt) (b.block _ h.R.lt0) (b.block _ h.R.lt1) (b.block _ h.R.lt2)
theorem BK.only {S : Nat → Prop} (h : BK w bb rb hb g P) (o : Only S w w') (h0 : ¬ S bb) (h1 : ¬ S rb) (h2 : ¬ S hb) (h3 : ¬ S g) : BK w' bb rb hb g P := h.keep (o.block _ h.lt h0) (o.block _ h.R.lt0 h1) (o.block _ h.R.lt1 h2) (o.block _ h.R.lt2 h3)

/-- a call of bells -/
def BlP (v : Value) (bb rb hb g : Nat) (P : List En) (w : World) (e : Ending) (w' : World) : Prop :=
  e = .returned v ∧ (∃ g', BK w' bb rb hb g' P ∧ (g' = g ∨ w.heap.size ≤ g')) ∧ Only (Two hb g) w w'
theorem BlP.same (h : BK w bb rb hb g P) : BlP v bb rb hb g P w (.returned v) w := ⟨rfl, ⟨g, h, Or.inl rfl⟩, Only.refl _ _⟩
theorem BlP.val (h : BlP v bb rb hb g P w e w') : BlP u bb rb hb g P w (.returned u) w' := ⟨rfl, h.2.1, h.2.2⟩
theorem BlP.of_below (h : BK w bb rb hb g P) (b : Below w.heap.size w w') : BlP v bb rb hb g P w (.returned v) w' := ⟨rfl, ⟨g, h.below b, Or.inl rfl⟩, Only.of_below b⟩
theorem BK.op (h : BK w bb rb hb g P) (o : OpP v rb hb g n' m' w e w') (hn : n' = P'.length) (hm : m' = mp P') (hW : Wf P') : BlP v bb rb hb g P' w e w' := by
  subst hn hm
  obtain ⟨he, ⟨g', k, hg⟩, ho⟩ := o
  have hl := h.lt
  have ap := h.ap
  refine ⟨he, ⟨g', ⟨(ho.block _ hl ?_).trans h.C, k, by omega, hW⟩, hg⟩, ho⟩
  rintro (x | x) <;> omega
theorem BlP.undrew {k : Nat} (h : BlP v bb rb hb g P (w.drewN k) e w') : BlP v bb rb hb g P w e w' := ⟨h.1, h.2.1, ⟨h.2.2.os, h.2.2.tape, h.2.2.output, h.2.2.size, h.2.2.block⟩⟩
/-- one call behind another one -/
theorem BlP.then {w1 : World} {v1 : Value} {e1 : Ending} {P1 : List En} {Q : Nat → Prop} (h : BlP v1 bb rb hb g P1 w e1 w1) (hn : hb < w.heap.size) (k : ∀ g', BK w1 bb rb hb g' P1 → BlP v bb rb hb g' P' w1 e w') : BlP v bb rb hb g P' w e w' := by
  obtain ⟨_, ⟨g1, h1, hg1⟩, o1⟩ := h
  obtain ⟨he, ⟨g2, h2, hg2⟩, o2⟩ := k g1 h1
  have hs := o1.size
  refine ⟨he, ⟨g2, h2, by omega⟩, o1.trans' o2 fun j hj hT => ?_⟩
  rcases hT with rfl | rfl
  · exact Or.inl rfl
  · rcases hg1 with e | e
    · exact Or.inr e
    · omega
theorem BK.rem (h : BK w bb rb hb g P) (id : Int) : Calls Try.prog 35 #[.pointer (some ⟨rb, 0, none⟩), .int .i64 id] w (BlP (.bool (mp P id).isSome) bb rb hb g (del id P) w) := by
  have hl := h.W.len
  exact (rem_any w rb hb g P.length (mp P) id h.R (by omega)).mono fun e w' o => h.op o (by rw [h.W.len_del]; rfl) (h.W.mp_del id).symm (h.W.del id)
theorem BK.put (h : BK w bb rb hb g P) (id k : Int) (h0 : 0 ≤ id ∧ id < 64) (hm : mp P id = none) (hW : Wf (ins (id, k) P)) : Calls Try.prog 42 #[.pointer (some ⟨rb, 0, none⟩), .int .i64 id, .int .i64 k] w (BlP (.int .i64 0) bb rb hb g (ins (id, k) P) w) := by
  have hl := h.W.len
  obtain ⟨e1, e2, e3⟩ := put_ok (m := mp P) (id := id) k P.length (by omega) hm
  have := put_any w rb hb g P.length (mp P) id k h.R (by omega)
  rw [e1, e2, e3] at this
  exact this.mono fun e w' o => h.op o (by rw [len_ins]) (h.W.ord.put hm).mp hW
theorem BK.key (h : BK w bb rb hb g P) (id : Int) : Calls Try.prog 30 #[.pointer (some ⟨rb, 0, none⟩), .int .i64 id] w (KeyP (keyN (mp P) id) (mp P id).isSome w) := by
  have hl := h.W.len
  exact key_any w rb hb g P.length (mp P) id h.R (by omega)
theorem BK.len (h : BK w bb rb hb g P) : Calls Try.prog 28 #[.pointer (some ⟨rb, 0, none⟩)] w (IsN P.length w) := len_any w rb hb g P.length (mp P) h.R
theorem BK.first0 (h : BK w bb rb hb g []) : Calls Try.prog 36 #[.pointer (some ⟨rb, 0, none⟩)] w (Fst 0 0 false w) := first_none w rb hb g (mp []) h.R
theorem BK.first {x : En} (h : BK w bb rb hb g (x :: P)) : Calls Try.prog 36 #[.pointer (some ⟨rb, 0, none⟩)] w (Fst x.1 x.2 true w) := first_some w rb hb g (P.length + 1) (mp (x :: P)) x h.R (by omega) h.W.first
theorem BK.pop {x : En} (h : BK w bb rb hb g (x :: P)) : Calls Try.prog 32 #[.pointer (some ⟨rb, 0, none⟩)] w (BlP (.tuple #[.int .i64 x.1, .int .i64 x.2, .bool true]) bb rb hb g P w) := by
  have hl := h.W.len
  simp only [List.length_cons] at hl
  exact (pop_some w rb hb g P.length (mp (x :: P)) x h.R (by omega) h.W.first).mono fun e w' o => h.op o rfl h.W.tail.2.1.symm h.W.tail.1
end

theorem bnew_of {w w1 : World} {r : Addr} (hk : RK w1 (w.heap.size + 1) w.heap.size w.heap.size 0 (fun _ => none)) (hb : Below w.heap.size w w1) : BK (w1.alloc (.cells #[.pointer (some ⟨w.heap.size + 1, 0, none⟩)] 49)) w1.heap.size (w.heap.size + 1) w.heap.size w.heap.size [] := by
  have l0 := hk.lt0
  exact ⟨heap_alloc_new w1 _, hk.below ((Below.refl _ _).alloc (Nat.le_refl _) _), by omega, Wf.nil⟩
set_option maxHeartbeats 400000 in
theorem bnew_any (w : World) : Calls Try.prog 7 #[] w (fun e w' => ∃ bb rb hb g : Nat, e = .returned (.pointer (some ⟨bb, 0, none⟩)) ∧ Hid (BK w' bb rb hb g []) ∧ Hid (Below w.heap.size w w') ∧ Hid (w.heap.size ≤ bb ∧ w.heap.size ≤ rb ∧ w.heap.size ≤ hb ∧ w.heap.size ≤ g)) := by
  go_enter Try.func7, Try.ntmps7
  go_wp2_with fail
  refine (new_any w).mono ?_
  rintro e w1 ⟨rfl, hk, hb⟩
  have HK := Lib.hid (And.intro hk hb)
  clear hk hb
  go_wp2_with fail
  go_ret
  have hs := HK.out.2.out.size
  have hl := HK.out.1.out.lt0
  exact ⟨_, _, _, _, rfl, bnew_of (r := ⟨0, 0, none⟩) HK.out.1 HK.out.2, HK.out.2.out.alloc hs _, hs, by omega, Nat.le_refl _, Nat.le_refl _⟩

theorem bnone_any (w : World) (bb rb : Nat) (hc : w.cell? ⟨bb, 0, none⟩ = some (.pointer (some ⟨rb, 0, none⟩))) : Calls Try.prog 27 #[.pointer (some ⟨bb, 0, none⟩)] w (IsB false w) := by
  go_enter Try.func27, Try.ntmps27
  go_wp2
  go_ret
  exact ⟨rfl, rfl⟩

theorem bmay_yes (kind id : Int) (w : World) (h : 0 ≤ kind ∧ kind ≤ 3 ∧ 0 ≤ id ∧ id ≤ 15) : Calls Try.prog 29 #[.int .i64 kind, .int .i64 id] w (IsB true w) := by
  have h1 : decide (0 ≤ kind) = true := by simp; omega
  have h2 : decide (kind ≤ 3) = true := by simp; omega
  have h3 : decide (0 ≤ id) = true := by simp; omega
  have h4 : decide (id < 16) = true := by simp; omega
  clear h
  go_enter Try.func29, Try.ntmps29
  go_wp2
  go_ret
  exact ⟨rfl, rfl⟩
theorem bmay_no (kind id : Int) (w : World) (h : ¬ (0 ≤ kind ∧ kind ≤ 3 ∧ 0 ≤ id ∧ id ≤ 15)) : Calls Try.prog 29 #[.int .i64 kind, .int .i64 id] w (IsB false w) := by
  by_cases a1 : 0 ≤ kind
  · have h1 : decide (0 ≤ kind) = true := by simp; omega
    by_cases a2 : kind ≤ 3
    · have h2 : decide (kind ≤ 3) = true := by simp; omega
      by_cases a3 : 0 ≤ id
      · have h3 : decide (0 ≤ id) = true := by simp; omega
        have h4 : decide (id < 16) = false := by simp; omega
        clear h a1 a2 a3
        go_enter Try.func29, Try.ntmps29
        go_wp2
        go_ret
        exact ⟨rfl, rfl⟩
      · have h3 : decide (0 ≤ id) = false := by simp; omega
        clear h a1 a2 a3
        go_enter Try.func29, Try.ntmps29
        go_wp2
        go_ret
        exact ⟨rfl, rfl⟩
    · have h2 : decide (kind ≤ 3) = false := by simp; omega
      clear h a1 a2
      go_enter Try.func29, Try.ntmps29
      go_wp2
      go_ret
      exact ⟨rfl, rfl⟩
  · have h1 : decide (0 ≤ kind) = false := by simp; omega
    clear h a1
    go_enter Try.func29, Try.ntmps29
    go_wp2
    go_ret
    exact ⟨rfl, rfl⟩
theorem number_any (kind id : Int) (w : World) (h : 0 ≤ kind ∧ kind ≤ 3 ∧ 0 ≤ id ∧ id ≤ 15) : Calls Try.prog 31 #[.int .i64 kind, .int .i64 id] w (IsN (bk kind id) w) := by
  have e1 : wrap64 (kind * 16) = kind * 16 := IntWalk.wrap64_in _ ⟨by omega, by omega⟩
  have e2 : wrap64 (kind * 16 + id) = bk kind id := by rw [bk_yes h, IntWalk.wrap64_in _ ⟨by omega, by omega⟩]; omega
  clear h
  go_enter Try.func31, Try.ntmps31
  go_wp2
  go_ret
  exact ⟨by rw [e2]; rfl, rfl⟩
/-- the cells of a bell -/
def bell3 (x : En) : List Value := [.int .i64 x.2, .int .i64 (x.1 / 16), .int .i64 (x.1 % 16)]
def NumP (n k : Int) (w : World) (e : Ending) (w' : World) : Prop := e = .returned (.agg #[.int .i64 k, .int .i64 (n / 16), .int .i64 (n % 16)]) ∧ Below w.heap.size w w'
set_option maxHeartbeats 400000 in
theorem numbered_any (n k : Int) (w : World) (h : 0 ≤ n ∧ n < 64) : Calls Try.prog 33 #[.int .i64 n, .int .i64 k] w (NumP n k w) := by
  have q1 : n.tdiv 16 = n / 16 := Int.tdiv_eq_ediv_of_nonneg h.1
  have q2 : n.tmod 16 = n % 16 := Int.tmod_eq_emod_of_nonneg h.1
  have q3 : wrap64 (n / 16) = n / 16 := IntWalk.wrap64_in _ ⟨by omega, by omega⟩
  have q4 : wrap64 (n % 16) = n % 16 := IntWalk.wrap64_in _ ⟨by omega, by omega⟩
  clear h
  go_enter Try.func33, Try.ntmps33
  go_wp2
  go_returns
  exact ⟨rfl, (Below.refl _ _).alloc (Nat.le_refl _) _⟩

/-- what Next tells -/
def NxP (k : Int) (b : Bool) (w : World) (e : Ending) (w' : World) : Prop := e = .returned (.tuple #[.int .i64 k, .bool b]) ∧ Below w.heap.size w w'
set_option maxHeartbeats 1000000 in
theorem bcan_any (w : World) (bb rb hb g : Nat) (P : List En) (kind id : Int) (h : BK w bb rb hb g P) : Calls Try.prog 20 #[.pointer (some ⟨bb, 0, none⟩), .int .i64 kind, .int .i64 id] w (BlP (.bool (mp P (bk kind id)).isSome) bb rb hb g (del (bk kind id) P) w) := by
  have c0 := h.cell
  have HNone := Lib.hid (bnone_any w bb rb c0)
  have H := Lib.hid h
  clear h
  by_cases hk : 0 ≤ kind ∧ kind ≤ 3 ∧ 0 ≤ id ∧ id ≤ 15
  · have HM := Lib.hid (bmay_yes kind id w hk)
    have HNu : ∀ w', Hid (Calls Try.prog 31 #[.int .i64 kind, .int .i64 id] w' (IsN (bk kind id) w')) := fun w' => number_any kind id w' hk
    have HD : ∀ k, Hid (BK (w.drewN k) bb rb hb g P) := fun k => H.out.below (below_drewN (Below.refl _ _) _)
    clear hk
    go_enter Try.func20, Try.ntmps20
    go_wp2_with fail
    refine HNone.out.mono ?_
    rintro e w' ⟨rfl, rfl⟩
    go_wp2_with fail
    refine HM.out.mono ?_
    rintro e w' ⟨rfl, rfl⟩
    go_wp2_with fail
    go_region_with (first | (go_at_call 31; refine (HNu _).out.mono ?_; rintro e w' ⟨rfl, rfl⟩) | (go_at_call 35; refine ((HD 1).out.rem (bk kind id)).mono ?_; intro e w2 hpp; have HF := Lib.hid (BlP.undrew hpp); obtain ⟨rfl, _⟩ := hpp))
    all_goals
      go_wp2_with fail
      go_ret
      exact HF.out
  · have HM := Lib.hid (bmay_no kind id w hk)
    rw [bk_no hk, H.out.W.none, H.out.W.del_no]
    clear hk
    go_enter Try.func20, Try.ntmps20
    go_wp2_with fail
    refine HNone.out.mono ?_
    rintro e w' ⟨rfl, rfl⟩
    go_wp2_with fail
    refine HM.out.mono ?_
    rintro e w' ⟨rfl, rfl⟩
    go_wp2_with fail
    go_ret
    exact BlP.same H.out

set_option maxHeartbeats 1000000 in
theorem bat_any (w : World) (bb rb hb g : Nat) (P : List En) (kind id : Int) (h : BK w bb rb hb g P) : Calls Try.prog 12 #[.pointer (some ⟨bb, 0, none⟩), .int .i64 kind, .int .i64 id] w (NxP (keyN (mp P) (bk kind id)) (mp P (bk kind id)).isSome w) := by
  have c0 := h.cell
  have HNone := Lib.hid (bnone_any w bb rb c0)
  have H := Lib.hid h
  clear h
  by_cases hk : 0 ≤ kind ∧ kind ≤ 3 ∧ 0 ≤ id ∧ id ≤ 15
  · have HM := Lib.hid (bmay_yes kind id w hk)
    have HNu : ∀ w', Hid (Calls Try.prog 31 #[.int .i64 kind, .int .i64 id] w' (IsN (bk kind id) w')) := fun w' => number_any kind id w' hk
    have HD : ∀ k, Hid (BK (w.drewN k) bb rb hb g P) := fun k => H.out.below (below_drewN (Below.refl _ _) _)
    clear hk
    go_enter Try.func12, Try.ntmps12
    go_wp2_with fail
    refine HNone.out.mono ?_
    rintro e w' ⟨rfl, rfl⟩
    go_wp2_with fail
    refine HM.out.mono ?_
    rintro e w' ⟨rfl, rfl⟩
    go_wp2_with fail
    go_region_with (first | (go_at_call 31; refine (HNu _).out.mono ?_; rintro e w' ⟨rfl, rfl⟩) | (go_at_call 30; refine ((HD 1).out.key (bk kind id)).mono ?_; rintro e w' ⟨rfl, rfl⟩))
    all_goals
      go_wp2_with fail
      go_ret2
      exact ⟨rfl, below_drewN (Below.refl _ _) _⟩
  · have HM := Lib.hid (bmay_no kind id w hk)
    have e1 : keyN (mp P) (-1) = 0 := by unfold keyN; rw [H.out.W.none]; rfl
    rw [bk_no hk, e1, H.out.W.none]
    clear hk e1
    go_enter Try.func12, Try.ntmps12
    go_wp2_with fail
    refine HNone.out.mono ?_
    rintro e w' ⟨rfl, rfl⟩
    go_wp2_with fail
    refine HM.out.mono ?_
    rintro e w' ⟨rfl, rfl⟩
    go_wp2_with fail
    go_ret2
    exact ⟨rfl, Below.refl _ _⟩

set_option maxHeartbeats 400000 in
theorem bnext0_any (w : World) (bb rb hb g : Nat) (h : BK w bb rb hb g []) : Calls Try.prog 22 #[.pointer (some ⟨bb, 0, none⟩)] w (NxP 0 false w) := by
  have c0 := h.cell
  have HNone := Lib.hid (bnone_any w bb rb c0)
  have H := Lib.hid h
  clear h
  go_enter Try.func22, Try.ntmps22
  go_wp2_with fail
  refine HNone.out.mono ?_
  rintro e w' ⟨rfl, rfl⟩
  go_wp2_with fail
  refine H.out.first0.mono ?_
  rintro e w1 ⟨rfl, hb1⟩
  go_wp2_with fail
  go_ret2
  exact ⟨rfl, hb1⟩
set_option maxHeartbeats 400000 in
theorem bnext_any (w : World) (bb rb hb g : Nat) (x : En) (P : List En) (h : BK w bb rb hb g (x :: P)) : Calls Try.prog 22 #[.pointer (some ⟨bb, 0, none⟩)] w (NxP x.2 true w) := by
  have c0 := h.cell
  have HNone := Lib.hid (bnone_any w bb rb c0)
  have H := Lib.hid h
  clear h
  go_enter Try.func22, Try.ntmps22
  go_wp2_with fail
  refine HNone.out.mono ?_
  rintro e w' ⟨rfl, rfl⟩
  go_wp2_with fail
  refine H.out.first.mono ?_
  rintro e w1 ⟨rfl, hb1⟩
  go_wp2_with fail
  go_ret2
  exact ⟨rfl, hb1⟩
set_option maxHeartbeats 400000 in
theorem bcount_any (w : World) (bb rb hb g : Nat) (P : List En) (h : BK w bb rb hb g P) : Calls Try.prog 10 #[.pointer (some ⟨bb, 0, none⟩)] w (IsN P.length w) := by
  have c0 := h.cell
  have HNone := Lib.hid (bnone_any w bb rb c0)
  have H := Lib.hid h
  clear h
  go_enter Try.func10, Try.ntmps10
  go_wp2_with fail
  refine HNone.out.mono ?_
  rintro e w' ⟨rfl, rfl⟩
  go_wp2_with fail
  refine H.out.len.mono ?_
  rintro e w' ⟨rfl, rfl⟩
  go_wp2_with fail
  go_ret
  exact ⟨rfl, rfl⟩

end Go.Proofs.Ytdfolbnnhglpeaa
