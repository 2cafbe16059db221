/- The program's stack and the document's, beside each other: step, same. -/
import Derived.Test.YtmheggedlepdlaaStaS
import Derived.Deep.Cut
namespace Go.Proofs.Ytmheggedlepdlaa
open Go.RowKit Lv Sk Go.Sort
set_option linter.unusedVariables false

theorem PE.keep {w w' : World} {B : Nat} {v : Value} {l : List En} (h : PE w B v l) (hs : w.heap.size ≤ w'.heap.size) (hb : ∀ k, v.ownBlock = some k → w'.heap[k]? = w.heap[k]?) : PE w' B v l := by
  rcases h with h | ⟨g, cap, rfl, h1, h2, h3, h4, h5, h6⟩
  · exact Or.inl h
  · have hb : w'.heap[g]? = w.heap[g]? := hb g rfl
    refine Or.inr ⟨g, cap, rfl, h1, Nat.lt_of_lt_of_le h2 hs, h3, h4, fun j u hj => ?_, ?_⟩
    · have := h5 j u hj
      rw [Addr.add_lit] at this ⊢
      exact (World.cell?_of_block hb).trans this
    · rcases h6 with e | e
      · exact Or.inl e
      · refine Or.inr ⟨e.1, ?_⟩
        rcases e.2 with q | ⟨g', cap', cur, q, q1, q2, q3⟩
        · exact Or.inl q
        · have : g' = g := by injection q with q _ _; injection q with q; injection q with q; exact q.symm
          subst this
          exact Or.inr ⟨g', cap', cur, q, q1, hb.trans q2, q3⟩
theorem row_keep {w w' : World} {B e size n : Nat} {v : Value} {xs : List Value} (h : w.ownsRow B e size v n xs) (hb : ∀ k, v.ownBlock = some k → w'.heap[k]? = w.heap[k]?) : w'.ownsRow B e size v n xs := by
  refine ⟨h.1, ?_⟩
  rcases h.2 with q | ⟨g', cap', cur, rfl, q1, q2, q3⟩
  · exact Or.inl q
  · exact Or.inr ⟨g', cap', cur, rfl, q1, (hb g' rfl).trans q2, q3⟩
theorem SO.only {w w' : World} {sb n : Nat} {z : Nat → Nat → Int} {l : List En} {tv lv : Value} {S : Nat → Prop} (h : SO w sb n z l tv lv) (on : Only S w w') (h1 : ¬ S sb) (h2 : ∀ j, lv.ownBlock = some j → ¬ S j) (h3 : ∀ j, tv.ownBlock = some j → ¬ S j) : SO w' sb n z l tv lv :=
  ⟨(on.block sb (lt_of_block h.ob) h1).trans h.ob, h.tk.keep fun k hk => on.block k (h.tb k hk).2 (h3 k hk), h.nz, fun k hk => ⟨(h.tb k hk).1, Nat.lt_of_lt_of_le (h.tb k hk).2 on.size⟩,
    h.pe.keep on.size fun k hk => on.block k (h.pe.lt k hk).2 (h2 k hk), h.ap⟩
theorem RO.only {w w' : World} {sb n : Nat} {z : Nat → Nat → Int} {l : List En} {tv lv : Value} {S : Nat → Prop} (h : RO w sb n z l tv lv) (on : Only S w w') (h1 : ¬ S sb) (h2 : ∀ j, lv.ownBlock = some j → ¬ S j) (h3 : ∀ j, tv.ownBlock = some j → ¬ S j) : RO w' sb n z l tv lv :=
  ⟨(on.block sb (lt_of_block h.ob) h1).trans h.ob, h.tk.keep fun k hk => on.block k (h.tb k hk).2 (h3 k hk), fun k hk => ⟨(h.tb k hk).1, Nat.lt_of_lt_of_le (h.tb k hk).2 on.size⟩,
    row_keep h.ow fun k hk => on.block k (h.ow.lt k hk).2 (h2 k hk), h.ap⟩
/-- both, apart -/
structure TX (B : Nat) (W w : World) (sb mb n : Nat) (z : Nat → Nat → Int) (l m : List En) (tv lv tv' lv' : Value) : Prop where
  so : SO w sb n z l tv lv
  ro : RO w mb n z m tv' lv'
  hb : B ≤ sb ∧ B ≤ mb
  bel : Below B W w
  ap : sb ≠ mb ∧ lv.ownBlock ≠ some mb ∧ tv.ownBlock ≠ some mb ∧ lv'.ownBlock ≠ some sb ∧ tv'.ownBlock ≠ some sb
  al : ∀ k, lv.ownBlock = some k → lv'.ownBlock ≠ some k ∧ tv'.ownBlock ≠ some k
  am : ∀ k, lv'.ownBlock = some k → tv.ownBlock ≠ some k
  okl : Ok n l ∧ H4 l
  okm : Ok n m ∧ H4 m
  n4 : n ≤ 4
section
variable {B : Nat} {W w w' : World} {sb mb n : Nat} {z : Nat → Nat → Int} {l l' m m' : List En} {tv lv lv2 tv' lv' lv2' : Value}
theorem TX.bsz (h : TX B W w sb mb n z l m tv lv tv' lv') : B ≤ w.heap.size ∧ sb < w.heap.size ∧ mb < w.heap.size := by
  have := lt_of_block h.so.ob
  have := lt_of_block h.ro.ob
  have := h.hb
  omega
theorem TX.s (h : TX B W w sb mb n z l m tv lv tv' lv') (so : SO w' sb n z l' tv lv2) (on : Only (SB sb lv) w w') (mv : Mv w lv lv2) (ok : Ok n l') (h4 : H4 l') : TX B W w' sb mb n z l' m tv lv2 tv' lv' := by
  obtain ⟨b0, b1, b2⟩ := h.bsz
  obtain ⟨a1, a2, a3, a4, a5⟩ := h.ap
  refine ⟨so, h.ro.only on (fun e => e.elim (fun e => a1 e.symm) a2) (fun j hj e => e.elim (fun e => a4 (e ▸ hj)) (fun e => (h.al j e).1 hj)) (fun j hj e => e.elim (fun e => a5 (e ▸ hj)) (fun e => (h.al j e).2 hj)), h.hb, h.bel.trans (on.below b0 fun k _ hk => ?_), ⟨a1, fun e => ?_, a3, a4, a5⟩, fun k hk => ?_, h.am, ⟨ok, h4⟩, h.okm, h.n4⟩
  · rcases hk with e | e
    · have := h.hb.1; omega
    · have := (h.so.pe.lt k e).1; have := h.hb.1; omega
  · rcases mv mb e with q | q
    · exact a2 q
    · omega
  · rcases mv k hk with q | q
    · exact h.al k q
    · exact ⟨fun e => by have := (h.ro.ow.lt k e).2; omega, fun e => by have := (h.ro.tb k e).2; omega⟩
theorem TX.d (h : TX B W w sb mb n z l m tv lv tv' lv') (ro : RO w' mb n z m' tv' lv2') (on : Only (SB mb lv') w w') (mv : Mv w lv' lv2') (ok : Ok n m') (h4 : H4 m') : TX B W w' sb mb n z l m' tv lv tv' lv2' := by
  obtain ⟨b0, b1, b2⟩ := h.bsz
  obtain ⟨a1, a2, a3, a4, a5⟩ := h.ap
  refine ⟨h.so.only on (fun e => e.elim a1 a4) (fun j hj e => e.elim (fun e => a2 (e ▸ hj)) (fun e => (h.al j hj).1 e)) (fun j hj e => e.elim (fun e => a3 (e ▸ hj)) (fun e => h.am j e hj)), ro, h.hb, h.bel.trans (on.below b0 fun k _ hk => ?_), ⟨a1, a2, a3, fun e => ?_, a5⟩, fun k hk => ⟨fun e => ?_, (h.al k hk).2⟩, fun k hk => ?_, h.okl, ⟨ok, h4⟩, h.n4⟩
  · rcases hk with e | e
    · have := h.hb.2; omega
    · have := (h.ro.ow.lt k e).1; have := h.hb.2; omega
  · rcases mv sb e with q | q
    · exact a4 q
    · omega
  · rcases mv k e with q | q
    · exact (h.al k hk).1 q
    · have := (h.so.pe.lt k hk).2; omega
  · rcases mv k hk with q | q
    · exact h.am k q
    · exact fun e => by have := (h.so.tb k e).2; omega
theorem TX.below (h : TX B W w sb mb n z l m tv lv tv' lv') (q : Below w.heap.size w w') : TX B W w' sb mb n z l m tv lv tv' lv' :=
  (h.s (h.so.below q) (Only.of_below q) (Mv.refl _ _) h.okl.1 h.okl.2)
/-- they are -/
def TW (B : Nat) (W w : World) (sb mb n : Nat) (z : Nat → Nat → Int) (l m : List En) : Prop := ∃ tv lv tv' lv', TX B W w sb mb n z l m tv lv tv' lv'
theorem TW.below (h : TW B W w sb mb n z l m) (q : Below w.heap.size w w') : TW B W w' sb mb n z l m := by obtain ⟨_, _, _, _, h⟩ := h; exact ⟨_, _, _, _, h.below q⟩
theorem TW.bel (h : TW B W w sb mb n z l m) : Below B W w := by obtain ⟨_, _, _, _, h⟩ := h; exact h.bel
theorem TW.ok (h : TW B W w sb mb n z l m) : Ok n l ∧ H4 l := by obtain ⟨_, _, _, _, h⟩ := h; exact h.okl
theorem tx_lock (h : TX B W w sb mb n z l m tv lv tv' lv') (t r : Int) {x : Int} (h1 : lockE n (us n (lo z) r t) l t r = x) (h2 : lockL n (us n (lo z) r t) l t r = l') :
    Calls Try.prog 15 #[.pointer (some ⟨sb, 0, none⟩), .int .i64 t, .int .i64 r] w (fun e w' => e = .returned (.int .i64 x) ∧ ∃ lv2, TX B W w' sb mb n z l' m tv lv2 tv' lv' ∧ Only (SB sb lv) w w') := by
  subst h1; subst h2
  refine (lock_any h.so (by have := h.okl.1.len; omega) h.okl.2 t r).mono ?_
  rintro e w' ⟨he, lv2, so, on, mv⟩
  exact ⟨he, lv2, h.s so on mv (lock_ok h.okl.1) (lock_h4 h.okl.2), on⟩
theorem tx_rlock (h : TX B W w sb mb n z l m tv lv tv' lv') (t r : Int) {x : Int} (h1 : lockE n (us n (lo z) r t) m t r = x) (h2 : lockL n (us n (lo z) r t) m t r = m') :
    Calls Try.prog 25 #[.pointer (some ⟨mb, 0, none⟩), .int .i64 t, .int .i64 r] w (fun e w' => e = .returned (.int .i64 x) ∧ ∃ lv2', TX B W w' sb mb n z l m' tv lv tv' lv2' ∧ Only (SB mb lv') w w') := by
  subst h1; subst h2
  refine (rlock_any h.ro (by have := h.okm.1.len; omega) (by have := h.n4; omega) t r).mono ?_
  rintro e w' ⟨he, lv2, so, on, mv⟩
  exact ⟨he, lv2, h.d so on mv (lock_ok h.okm.1) (lock_h4 h.okm.2), on⟩
theorem tx_unl (h : TX B W w sb mb n z l m tv lv tv' lv') (t : Int) {v : Value} (h1 : unlV n l t = v) (h2 : unlN n l t = l') :
    Calls Try.prog 16 #[.pointer (some ⟨sb, 0, none⟩), .int .i64 t] w (fun e w' => e = .returned v ∧ ∃ lv2, TX B W w' sb mb n z l' m tv lv2 tv' lv' ∧ Only (SB sb lv) w w') := by
  subst h1; subst h2
  refine (unl_any h.so (by have := h.okl.1.len; omega) t).mono ?_
  rintro e w' ⟨he, lv2, so, on, mv⟩
  exact ⟨he, lv2, h.s so on mv (h.okl.1.sub (unl_sub _ _ _)) (h.okl.2.sub (unl_sub _ _ _)), on⟩
theorem tx_runl (h : TX B W w sb mb n z l m tv lv tv' lv') (t : Int) {v : Value} (h1 : unlV n m t = v) (h2 : unlN n m t = m') :
    Calls Try.prog 26 #[.pointer (some ⟨mb, 0, none⟩), .int .i64 t] w (fun e w' => e = .returned v ∧ ∃ lv2', TX B W w' sb mb n z l m' tv lv tv' lv2' ∧ Only (SB mb lv') w w') := by
  subst h1; subst h2
  refine (runl_any h.ro (by have := h.okm.1.len; omega) (by have := h.n4; omega) t).mono ?_
  rintro e w' ⟨he, lv2, so, on, mv⟩
  exact ⟨he, lv2, h.d so on mv (h.okm.1.sub (unl_sub _ _ _)) (h.okm.2.sub (unl_sub _ _ _)), on⟩
theorem tx_drop (h : TX B W w sb mb n z l m tv lv tv' lv') (t : Int) :
    Calls Try.prog 17 #[.pointer (some ⟨sb, 0, none⟩), .int .i64 t] w (fun e w' => ∃ r, e = .returned r ∧ NR w' w.heap.size r (held l t).reverse ∧ ∃ lv2, TX B W w' sb mb n z (drp l t) m tv lv2 tv' lv' ∧ Only (SB sb lv) w w') := by
  refine (drop_any h.so h.okl.1 t).mono ?_
  rintro e w' ⟨r, he, hr, lv2, so, on, mv⟩
  exact ⟨r, he, hr, lv2, h.s so on mv (h.okl.1.sub (drp_sub _ _)) (h.okl.2.sub (drp_sub _ _)), on⟩
theorem tx_rdrop (h : TX B W w sb mb n z l m tv lv tv' lv') (t : Int) :
    Calls Try.prog 27 #[.pointer (some ⟨mb, 0, none⟩), .int .i64 t] w (fun e w' => ∃ r, e = .returned r ∧ NR w' w.heap.size r (held m t).reverse ∧ ∃ lv2', TX B W w' sb mb n z l (drp m t) tv lv tv' lv2' ∧ Only (SB mb lv') w w') := by
  refine (rdrop_any h.ro h.okm.1 (by have := h.n4; omega) t).mono ?_
  rintro e w' ⟨r, he, hr, lv2, so, on, mv⟩
  exact ⟨r, he, hr, lv2, h.d so on mv (h.okm.1.sub (drp_sub _ _)) (h.okm.2.sub (drp_sub _ _)), on⟩
/-- a block that is made now is neither's -/
theorem TX.new (h : TX B W w sb mb n z l m tv lv tv' lv') : ¬ SB sb lv w.heap.size ∧ ¬ SB mb lv' w.heap.size := by
  obtain ⟨b0, b1, b2⟩ := h.bsz
  refine ⟨fun e => ?_, fun e => ?_⟩
  · rcases e with e | e
    · omega
    · have := (h.so.pe.lt _ e).2; omega
  · rcases e with e | e
    · omega
    · have := (h.ro.ow.lt _ e).2; omega
end
/-- true is answered, both are as they are -/
def StepP (B : Nat) (W : World) (sb mb n : Nat) (z : Nat → Nat → Int) (e : Ending) (w' : World) : Prop := ∃ l, e = .returned (.bool true) ∧ TW B W w' sb mb n z l l
set_option maxHeartbeats 4000000 in
theorem step_any {B : Nat} {W w : World} {sb mb n : Nat} {z : Nat → Nat → Int} {l : List En} (h : TW B W w sb mb n z l l) (kd t r : Int) :
    Calls Try.prog 9 #[.pointer (some ⟨sb, 0, none⟩), .pointer (some ⟨mb, 0, none⟩), .agg #[.int .i64 kd, .int .i64 t, .int .i64 r]] w (StepP B W sb mb n z) := by
  obtain ⟨tv, lv, tv', lv', h⟩ := h
  obtain ⟨q, hq, q0, q3⟩ : ∃ q, bring kd 3 = q ∧ 0 ≤ q ∧ q < 3 := ⟨_, rfl, bring_range _ (by decide)⟩
  have hqc : q = 0 ∨ q = 1 ∨ q = 2 := by omega
  have HQ := Lib.hid hq
  obtain ⟨X, hX⟩ : ∃ X, w.heap.size = X := ⟨_, rfl⟩
  have HXN := Lib.hid h.new
  have hal : Below w.heap.size w (w.alloc (.cells #[.int .i64 kd, .int .i64 t, .int .i64 r] 35)) := (Below.refl _ _).alloc (Nat.le_refl _) _
  have H1 := Lib.hid (h.below hal)
  have hbx := heap_alloc_new w (.cells #[.int .i64 kd, .int .i64 t, .int .i64 r] 35)
  have HBX : Hid ((w.alloc (.cells #[.int .i64 kd, .int .i64 t, .int .i64 r] 35)).heap[X]? = some (.cells #[.int .i64 kd, .int .i64 t, .int .i64 r] 35 (0, 0))) := by rw [← hX]; exact hbx
  have HXL : Hid (X < (w.alloc (.cells #[.int .i64 kd, .int .i64 t, .int .i64 r] 35)).heap.size) := lt_of_block HBX.out
  rw [hX] at HXN
  have d0 := cell_of_row _ _ 0 _ _ _ hbx
  clear h hal hbx hq q0 q3
  go_enter Try.func9, Try.ntmps9
  go_wp2_with fail
  clear d0
  generalize w.alloc (.cells #[.int .i64 kd, .int .i64 t, .int .i64 r] 35) = w1 at *
  refine (bring_any kd 3 w1 (by decide) (by decide)).mono ?_
  rintro e w0 ⟨rfl, rfl⟩
  rw [HQ.out]
  clear hX
  have e1 : w0.cell? ⟨X, 1, none⟩ = some (.int .i64 t) := cell_of_row _ _ 1 _ _ _ HBX.out
  have e2 : w0.cell? ⟨X, 2, none⟩ = some (.int .i64 r) := cell_of_row _ _ 2 _ _ _ HBX.out
  have HS0 := Lib.hid (And.intro e1 e2)
  rcases hqc with rfl | rfl | rfl
  · obtain ⟨E, hE⟩ : ∃ E, lockE n (us n (lo z) r t) l t r = E := ⟨_, rfl⟩
    obtain ⟨l2, hl2⟩ : ∃ l2, lockL n (us n (lo z) r t) l t r = l2 := ⟨_, rfl⟩
    have HE := Lib.hid hE
    have HL2 := Lib.hid hl2
    clear hE hl2
    go_wp2_with fail
    go_region_held3 (fun w' => w'.cell? ⟨X, 1, none⟩ = some (.int .i64 t) ∧ w'.cell? ⟨X, 2, none⟩ = some (.int .i64 r))
      (first | assumption | exact HS0.out | go_keep)
      (first | (go_at_call 15; refine (tx_lock (H1.out.below (Below.drew (Below.refl _ _))) t r HE.out HL2.out).mono ?_; rintro e w4 ⟨rfl, lv2, hx4, on4⟩; have HX4 := Lib.hid hx4; have hbx4 := (on4.block X HXL.out HXN.out.1).trans HBX.out; have HBX4 := Lib.hid hbx4; have hS4 : w4.cell? ⟨X, 1, none⟩ = some (.int .i64 t) ∧ w4.cell? ⟨X, 2, none⟩ = some (.int .i64 r) := ⟨cell_of_row _ _ 1 _ _ _ hbx4, cell_of_row _ _ 2 _ _ _ hbx4⟩)
             | (go_at_call 25; refine (tx_rlock HX4.out t r HE.out HL2.out).mono ?_; rintro e w5 ⟨rfl, lv3, hx5, on5⟩; have HX5 := Lib.hid hx5; have hbx5 := (on5.block X (lt_of_block HBX4.out) HXN.out.2).trans HBX4.out; have hS5 : w5.cell? ⟨X, 1, none⟩ = some (.int .i64 t) ∧ w5.cell? ⟨X, 2, none⟩ = some (.int .i64 r) := ⟨cell_of_row _ _ 1 _ _ _ hbx5, cell_of_row _ _ 2 _ _ _ hbx5⟩))
    all_goals
      have HF : Hid (StepP B W sb mb n z (.returned (.bool true)) w5) := ⟨l2, rfl, _, _, _, _, HX5.out⟩
      clear hx4 hx5 on4 on5 hbx4 hbx5 hS4 hS5 HX4 HX5 HBX4 HS0 e1 e2
      go_wp2_with fail
      go_ret
      exact HF.out
  · obtain ⟨x, y, hV⟩ : ∃ x y, unlV n l t = .tuple #[.int .i64 x, .int .i64 y] := ⟨_, _, rfl⟩
    obtain ⟨l2, hl2⟩ : ∃ l2, unlN n l t = l2 := ⟨_, rfl⟩
    have HV := Lib.hid hV
    have HL2 := Lib.hid hl2
    clear hV hl2
    go_wp2_with fail
    refine (tx_unl H1.out t HV.out HL2.out).mono ?_
    rintro e w4 ⟨rfl, lv2, hx4, on4⟩
    have hbx4 := (on4.block X HXL.out HXN.out.1).trans HBX.out
    have HX4 := Lib.hid hx4
    have e3 := cell_of_row _ _ 1 _ _ _ hbx4
    clear e1 e2 hx4 on4 hbx4 HS0
    go_wp2_with fail
    refine (tx_runl HX4.out t HV.out HL2.out).mono ?_
    rintro e w5 ⟨rfl, lv3, hx5, on5⟩
    have HF : Hid (StepP B W sb mb n z (.returned (.bool true)) w5) := ⟨l2, rfl, _, _, _, _, hx5⟩
    clear hx5 on5 e3 HX4
    go_wp2_with fail
    go_ret
    exact HF.out
  · have HL : Hid ((held l t).reverse.length ≤ 100000) := by
      unfold Hid; have := H1.out.okl.2 t; rw [List.length_reverse]; omega
    go_wp2_with fail
    go_region_held3 (fun w' => w'.cell? ⟨X, 1, none⟩ = some (.int .i64 t))
      (first | assumption | exact HS0.out.1 | go_keep)
      (first | (go_at_call 17; refine (tx_drop (H1.out.below (Below.drew (Below.refl _ _))) t).mono ?_; rintro e w4 ⟨rv, rfl, hn4, lv2, hx4, on4⟩; have HX4 := Lib.hid hx4; have HN4 := Lib.hid hn4; have hbx4 := (on4.block X HXL.out HXN.out.1).trans HBX.out; have HBX4 := Lib.hid hbx4; have hS4 : w4.cell? ⟨X, 1, none⟩ = some (.int .i64 t) := cell_of_row _ _ 1 _ _ _ hbx4)
             | (go_at_call 27; refine (tx_rdrop HX4.out t).mono ?_; rintro e w5 ⟨rv', rfl, hn5, lv3, hx5, on5⟩; have HX5 := Lib.hid hx5; have HN5 := Lib.hid hn5; have HN6 := Lib.hid (NR.apart HN4.out on5 fun j hj => ⟨fun e => by have h1 := (World.ownsRow.lt HN4.out j hj).1; have h2 := H1.out.bsz.2.2; simp only [World.drew] at h1; omega, fun e => by have h1 := (World.ownsRow.lt HN4.out j hj).1; have h2 := (H1.out.ro.ow.lt j e).2; simp only [World.drew] at h1; omega⟩); have hbx5 := (on5.block X (lt_of_block HBX4.out) HXN.out.2).trans HBX4.out; have HBX5 := Lib.hid hbx5; have hS5 : w5.cell? ⟨X, 1, none⟩ = some (.int .i64 t) := cell_of_row _ _ 1 _ _ _ hbx5)
             | (go_at_call 18; refine (eqs_any HN6.out.is HN5.out.is HL.out).mono ?_; rintro e w6 ⟨rfl, hb6⟩; have HB6 := Lib.hid hb6; have hS6 : w6.cell? ⟨X, 1, none⟩ = some (.int .i64 t) := cell_of_row _ _ 1 _ _ _ ((hb6.block X (lt_of_block HBX5.out)).trans HBX5.out)))
    all_goals
      have HF : Hid (StepP B W sb mb n z (.returned (.bool true)) w6) := ⟨_, rfl, _, _, _, _, HX5.out.below HB6.out⟩
      clear hx4 hx5 on4 on5 hbx4 hbx5 hS4 hS5 HX4 HX5 HBX4 HS0 e1 e2 hn4 hn5 HN4 HN5 HN6 HBX5 hb6 HB6 hS6
      go_wp2_with fail
      go_ret
      exact HF.out
end Go.Proofs.Ytmheggedlepdlaa
