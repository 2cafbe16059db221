/- The calls of a rank: New, Put, Lower, Remove, Len, First, Pop, Key. -/
import Derived.Test.YtfjeoefnpcgnnaaRkWalksD
namespace Go.Proofs.Ytfjeoefnpcgnnaa.Rq
open Go.RowKit Rk
set_option linter.unusedVariables false
set_option maxRecDepth 100000

theorem below_drewN {B : Nat} {a w : World} (h : Below B a w) (n : Nat) : Below B a (w.drewN n) := ⟨h.os, h.tape, h.output, h.size, h.block⟩
/-- a rank at block rb stands for n ids with keys -/
structure RK (w : World) (rb hb g n : Nat) (m : Mp) : Prop where
  R : w.heap[rb]? = some (.cells #[.pointer (some ⟨hb, 0, none⟩)] 98 (0, 0))
  n1 : rb ≠ hb
  n2 : rb ≠ g
  S : ∃ f pl v, HN w hb g n f pl v ∧ Rep f n pl m ∧ Heap f n
def Three (rb hb g : Nat) (k : Nat) : Prop := k = rb ∨ k = hb ∨ k = g
theorem RK.keep {w w' : World} {rb hb g n : Nat} {m : Mp} (h : RK w rb hb g n m) (e0 : w'.heap[rb]? = w.heap[rb]?) (e1 : w'.heap[hb]? = w.heap[hb]?) (e2 : w'.heap[g]? = w.heap[g]?) : RK w' rb hb g n m := by
  obtain ⟨f, pl, v, h1, h2, h3⟩ := h.S
  exact ⟨e0.trans h.R, h.n1, h.n2, f, pl, v, h1.keep e1 e2, h2, h3⟩
theorem RK.lt0 {w : World} {rb hb g n : Nat} {m : Mp} (h : RK w rb hb g n m) : rb < w.heap.size := lt_of_heap h.R
theorem RK.lt1 {w : World} {rb hb g n : Nat} {m : Mp} (h : RK w rb hb g n m) : hb < w.heap.size := by obtain ⟨f, pl, v, h1, _⟩ := h.S; exact h1.P.lt
theorem RK.lt2 {w : World} {rb hb g n : Nat} {m : Mp} (h : RK w rb hb g n m) : g < w.heap.size := by obtain ⟨f, pl, v, h1, _⟩ := h.S; exact h1.ltg
theorem RK.only {S : Nat → Prop} {w w' : World} {rb hb g n : Nat} {m : Mp} (h : RK w rb hb g n m) (o : Only S w w') (h0 : ¬ S rb) (h1 : ¬ S hb) (h2 : ¬ S g) : RK w' rb hb g n m :=
  h.keep (o.block _ h.lt0 h0) (o.block _ h.lt1 h1) (o.block _ h.lt2 h2)
theorem RK.below {w w' : World} {rb hb g n : Nat} {m : Mp} (h : RK w rb hb g n m) (b : Below w.heap.size w w') : RK w' rb hb g n m :=
  h.keep (b.block _ h.lt0) (b.block _ h.lt1) (b.block _ h.lt2)
theorem RK.cell {w : World} {rb hb g n : Nat} {m : Mp} (h : RK w rb hb g n m) : w.cell? ⟨rb, 0, none⟩ = some (.pointer (some ⟨hb, 0, none⟩)) := cell_of_one h.R

/-- a call of a rank -/
def OpP (v : Value) (rb hb g n : Nat) (m : Mp) (w : World) (e : Ending) (w' : World) : Prop :=
  e = .returned v ∧ (∃ g', RK w' rb hb g' n m ∧ (g' = g ∨ w.heap.size ≤ g')) ∧ Only (Two hb g) w w'
theorem OpP.same {v : Value} {rb hb g n : Nat} {m : Mp} {w : World} (h : RK w rb hb g n m) : OpP v rb hb g n m w (.returned v) w := ⟨rfl, ⟨g, h, Or.inl rfl⟩, Only.refl _ _⟩
theorem OpP.of_below {v : Value} {rb hb g n : Nat} {m : Mp} {w w' : World} (h : RK w rb hb g n m) (b : Below w.heap.size w w') : OpP v rb hb g n m w (.returned v) w' := ⟨rfl, ⟨g, h.below b, Or.inl rfl⟩, Only.of_below b⟩
theorem RK.hpp {e : Ending} {rb hb g cap n n0 : Nat} {m m0 : Mp} {w w' : World} (h : RK w rb hb g n0 m0) (x : HpP hb g cap n m w e w') : OpP (.tuple #[]) rb hb g n m w e w' := by
  obtain ⟨he, ⟨f, pl, h1, h2, h3⟩, ho⟩ := x
  have e0 : w'.heap[rb]? = w.heap[rb]? := ho.block _ h.lt0 (by rintro (e | e); · exact h.n1 e
                                                               · exact h.n2 e)
  exact ⟨he, ⟨g, ⟨e0.trans h.R, h.n1, h.n2, f, pl, _, Or.inl ⟨cap, rfl, h1⟩, h2, h3⟩, Or.inl rfl⟩, ho⟩
theorem RK.pushp {e : Ending} {rb hb g n n0 : Nat} {m m0 : Mp} {w w' : World} (h : RK w rb hb g n0 m0) (x : PushP hb g n m w e w') : OpP (.tuple #[]) rb hb g n m w e w' := by
  obtain ⟨he, ⟨g', cap, f, pl, h1, h2, h3, hg⟩, ho⟩ := x
  have e0 : w'.heap[rb]? = w.heap[rb]? := ho.block _ h.lt0 (by rintro (e | e); · exact h.n1 e
                                                               · exact h.n2 e)
  refine ⟨he, ⟨g', ⟨e0.trans h.R, h.n1, ?_, f, pl, _, Or.inl ⟨cap, rfl, h1⟩, h2, h3⟩, hg⟩, ho⟩
  rcases hg with e | e
  · rw [e]; exact h.n2
  · have := h.lt0; omega
theorem OpP.val {v u : Value} {rb hb g n : Nat} {m : Mp} {w w' : World} {e : Ending} (h : OpP v rb hb g n m w e w') : OpP u rb hb g n m w (.returned u) w' := ⟨rfl, h.2.1, h.2.2⟩

/-- the zero of what is heaped: the same whether the program was loaded in parts or whole -/
def zheap : Array Value := #[.slice none 0 0] ++ Array.replicate 64 (.int .i64 0)
theorem zv_heap (w : World) : (zeroValue 102).run Try.prog w = .ok (.agg zheap) w := by kernel_rfl
theorem zheap_size : zheap.size = 65 := by kernel_rfl
theorem zheap_ne : ¬ zheap = #[] := by intro h; have := zheap_size; rw [h] at this; cases this
theorem pl_new (w : World) (o : Obj) (c : Array Value) (hc : c = #[.slice none 0 0] ++ Array.replicate 64 (.int .i64 0)) : PL ((w.alloc (.cells c 102)).alloc o) w.heap.size (.slice none 0 0) (fun _ => 0) := by
  refine ⟨_, heap_alloc2_old w _ _, ?_, ?_, fun i hi => ?_⟩
  · rw [hc]; simp
  · rw [hc]; rfl
  · rw [hc, Array.getElem?_append_right (by simp)]
    have : 1 + i - #[Value.slice none 0 0].size = i := by simp
    rw [this, Array.getElem?_replicate, if_pos hi]
theorem rk_new (w : World) (c : Array Value) (hc : c = #[.slice none 0 0] ++ Array.replicate 64 (.int .i64 0)) : RK ((w.alloc (.cells c 102)).alloc (.cells #[.pointer (some ⟨w.heap.size, 0, none⟩)] 98)) (w.heap.size + 1) w.heap.size w.heap.size 0 (fun _ => none) :=
  ⟨heap_alloc2_new w _ _, by omega, by omega, _, _, _, Or.inr ⟨rfl, rfl, rfl, pl_new w _ c hc⟩, Rep.zero, fun i h0 h1 => by omega⟩
set_option maxRecDepth 100000 in
set_option maxHeartbeats 1000000 in
theorem new_any (w : World) : Calls Try.prog 47 #[] w (fun e w' => e = .returned (.pointer (some ⟨w.heap.size + 1, 0, none⟩)) ∧ Hid (RK w' (w.heap.size + 1) w.heap.size w.heap.size 0 (fun _ => none)) ∧ Hid (Below w.heap.size w w')) := by
  have hz1 := zv_heap
  have hz2 := zheap_size
  have hz3 := zheap_ne
  go_enter Try.func47, Try.ntmps47
  go_wp2_with fail
  go_ret
  exact ⟨rfl, rk_new w _ (by kernel_rfl), ((Below.refl _ _).alloc (Nat.le_refl _) _).alloc (by simp) _⟩

theorem isNone_any (w : World) (rb hb : Nat) (hc : w.cell? ⟨rb, 0, none⟩ = some (.pointer (some ⟨hb, 0, none⟩))) : Calls Try.prog 58 #[.pointer (some ⟨rb, 0, none⟩)] w (IsB false w) := by
  go_enter Try.func58, Try.ntmps58
  go_wp2
  go_ret
  exact ⟨rfl, rfl⟩

def putE (m : Mp) (id : Int) : Int := if id < 0 ∨ 63 < id then 9 else if (m id).isSome then 141 else 0
def putM (m : Mp) (id k : Int) : Mp := if putE m id = 0 then upd m id (some k) else m
def putN (m : Mp) (id : Int) (n : Nat) : Nat := if putE m id = 0 then n + 1 else n
theorem put_bad {m : Mp} {id : Int} (k : Int) (n : Nat) (h : id < 0 ∨ 63 < id) : putE m id = 9 ∧ putM m id k = m ∧ putN m id n = n := by
  have : putE m id = 9 := if_pos h
  simp [putM, putN, this]
theorem put_busy {m : Mp} {id : Int} (k : Int) (n : Nat) {k0 : Int} (h : 0 ≤ id ∧ id ≤ 63) (hm : m id = some k0) : putE m id = 141 ∧ putM m id k = m ∧ putN m id n = n := by
  have : putE m id = 141 := by unfold putE; rw [if_neg (by omega), hm]; rfl
  simp [putM, putN, this]
theorem put_ok {m : Mp} {id : Int} (k : Int) (n : Nat) (h : 0 ≤ id ∧ id ≤ 63) (hm : m id = none) : putE m id = 0 ∧ putM m id k = upd m id (some k) ∧ putN m id n = n + 1 := by
  have : putE m id = 0 := by unfold putE; rw [if_neg (by omega), hm]; rfl
  simp [putM, putN, this]

set_option maxHeartbeats 1000000 in
theorem put_any (w : World) (rb hb g n : Nat) (m : Mp) (id k : Int) (h : RK w rb hb g n m) (hN : n ≤ 100000) :
    Calls Try.prog 49 #[.pointer (some ⟨rb, 0, none⟩), .int .i64 id, .int .i64 k] w (OpP (.int .i64 (putE m id)) rb hb g (putN m id n) (putM m id k) w) := by
  have c0 := h.cell
  have hlr := h.lt0
  have H := Lib.hid h
  obtain ⟨f, pl, v, hn, hr, hh⟩ := h.S
  have HN' := Lib.hid hn
  have HR := Lib.hid hr
  have HH := Lib.hid hh
  clear h hn hr hh
  have HNone := Lib.hid (isNone_any w rb hb c0)
  by_cases hid : 0 ≤ id ∧ id ≤ 63
  · obtain ⟨i, rfl⟩ : ∃ i : Nat, id = i := ⟨id.toNat, by omega⟩
    have hi : i < 64 := by omega
    cases hm : m i with
    | some k0 =>
      obtain ⟨e1, e2, e3⟩ := put_busy (m := m) k n hid hm
      rw [e1, e2, e3]
      obtain ⟨p, hp, _, hpl⟩ := HR.out.place hm
      have HP := Lib.hid (place_yes hb v pl i p w HN'.out.P hi hpl (by omega))
      clear e1 e2 e3 hm hpl hid
      go_enter Try.func49, Try.ntmps49
      go_wp2_with fail
      refine HNone.out.mono ?_
      rintro e w' ⟨rfl, rfl⟩
      go_wp2_with fail
      refine (mayBe_yes _ _ hi).mono ?_
      rintro e w' ⟨rfl, rfl⟩
      go_wp2_with fail
      refine HP.out.mono ?_
      rintro e w' ⟨rfl, rfl⟩
      go_wp2_with fail
      go_ret
      exact OpP.same H.out
    | none =>
      obtain ⟨e1, e2, e3⟩ := put_ok (m := m) k n hid hm
      rw [e1, e2, e3]
      have HP := Lib.hid (place_no hb v pl i w HN'.out.P hi (HR.out.non _ (by omega) (by omega) hm))
      have HM' := Lib.hid hm
      clear e1 e2 e3 hm hid
      go_enter Try.func49, Try.ntmps49
      go_wp2_with fail
      refine HNone.out.mono ?_
      rintro e w' ⟨rfl, rfl⟩
      go_wp2_with fail
      refine (mayBe_yes _ _ hi).mono ?_
      rintro e w' ⟨rfl, rfl⟩
      go_wp2_with fail
      refine HP.out.mono ?_
      rintro e w' ⟨rfl, rfl⟩
      go_wp2_with fail
      refine (push_any w hb g n f pl v m i k HN'.out HR.out HH.out hi HM'.out hN).mono ?_
      intro e w' hpp
      have HF := Lib.hid (H.out.pushp hpp)
      obtain ⟨rfl, _⟩ := hpp
      go_wp2_with fail
      go_ret
      exact HF.out.val
  · obtain ⟨e1, e2, e3⟩ := put_bad (m := m) (id := id) k n (by omega)
    rw [e1, e2, e3]
    have HB : Hid (Calls Try.prog 59 #[.int .i64 id] w (IsB false w)) := by
      by_cases h0 : id < 0
      · exact mayBe_lo _ _ h0
      · exact mayBe_hi _ _ (by omega)
    clear e1 e2 e3 hid
    go_enter Try.func49, Try.ntmps49
    go_wp2_with fail
    refine HNone.out.mono ?_
    rintro e w' ⟨rfl, rfl⟩
    go_wp2_with fail
    refine HB.out.mono ?_
    rintro e w' ⟨rfl, rfl⟩
    go_wp2_with fail
    go_ret
    exact OpP.same H.out


def lowE (m : Mp) (id k : Int) : Int := if id < 0 ∨ 63 < id then 9 else match m id with | none => 8 | some k0 => if k0 < k then 2 else 0
def lowM (m : Mp) (id k : Int) : Mp := if lowE m id k = 0 then upd m id (some k) else m
theorem low_bad {m : Mp} {id : Int} (k : Int) (h : id < 0 ∨ 63 < id) : lowE m id k = 9 ∧ lowM m id k = m := by
  have : lowE m id k = 9 := if_pos h
  simp [lowM, this]
theorem low_none {m : Mp} {id : Int} (k : Int) (h : 0 ≤ id ∧ id ≤ 63) (hm : m id = none) : lowE m id k = 8 ∧ lowM m id k = m := by
  have : lowE m id k = 8 := by unfold lowE; rw [if_neg (by omega), hm]
  simp [lowM, this]
theorem low_hi {m : Mp} {id k k0 : Int} (h : 0 ≤ id ∧ id ≤ 63) (hm : m id = some k0) (hk : k0 < k) : lowE m id k = 2 ∧ lowM m id k = m := by
  have : lowE m id k = 2 := by unfold lowE; rw [if_neg (by omega), hm]; exact if_pos hk
  simp [lowM, this]
theorem low_ok {m : Mp} {id k k0 : Int} (h : 0 ≤ id ∧ id ≤ 63) (hm : m id = some k0) (hk : k ≤ k0) : lowE m id k = 0 ∧ lowM m id k = upd m id (some k) := by
  have : lowE m id k = 0 := by unfold lowE; rw [if_neg (by omega), hm]; exact if_neg (by omega)
  simp [lowM, this]
theorem Rk.Rep.pos {f : Nat → En} {n : Nat} {pl : Int → Int} {m : Mp} (h : Rep f n pl m) {id k : Int} (hm : m id = some k) : 0 < n := by obtain ⟨_, _, i, hi, _⟩ := h.has id k hm; omega
theorem HN.hm {w : World} {hb g n : Nat} {f : Nat → En} {pl : Int → Int} {v : Value} (h : HN w hb g n f pl v) (hn : 0 < n) : ∃ cap, v = .slice (some ⟨g, 0, none⟩) n cap ∧ HM w hb g cap n f pl := by
  rcases h with h | ⟨h, _⟩
  · exact h
  · omega

theorem bad_mayBe {id : Int} (w : World) (h : ¬ (0 ≤ id ∧ id ≤ 63)) : Calls Try.prog 59 #[.int .i64 id] w (IsB false w) := by
  by_cases h0 : id < 0
  · exact mayBe_lo _ _ h0
  · exact mayBe_hi _ _ (by omega)
theorem place_bad (hb : Nat) (id : Int) (w : World) (h : ¬ (0 ≤ id ∧ id ≤ 63)) : Calls Try.prog 60 #[.pointer (some ⟨hb, 0, none⟩), .int .i64 id] w (Plc 0 false w) := by
  have HB := Lib.hid (bad_mayBe w h)
  clear h
  go_enter Try.func60, Try.ntmps60
  go_wp2_with fail
  refine HB.out.mono ?_
  rintro e w' ⟨rfl, rfl⟩
  go_wp2_with fail
  go_ret2
  exact ⟨rfl, rfl⟩
theorem Rk.Rep.bad {f : Nat → En} {n : Nat} {pl : Int → Int} {m : Mp} (h : Rep f n pl m) {id : Int} (hid : ¬ (0 ≤ id ∧ id ≤ 63)) : m id = Option.none := by
  cases hm : m id with
  | none => rfl
  | some k => have := h.has id k hm; omega

def remN (m : Mp) (id : Int) (n : Nat) : Nat := if (m id).isSome then n - 1 else n
theorem upd_none {m : Mp} {id : Int} (h : m id = none) : upd m id none = m := by
  funext j; unfold upd; split
  · rename_i e; rw [e, h]
  · rfl
set_option maxHeartbeats 400000 in
theorem len_any (w : World) (rb hb g n : Nat) (m : Mp) (h : RK w rb hb g n m) : Calls Try.prog 51 #[.pointer (some ⟨rb, 0, none⟩)] w (IsN n w) := by
  have c0 := h.cell
  obtain ⟨f, pl, v, hn, hr, hh⟩ := h.S
  obtain ⟨a, cap, hv⟩ := hn.slice
  have c1 := hn.P.cell0
  rw [hv] at c1
  have HNone := Lib.hid (isNone_any w rb hb c0)
  clear h hn hr hh hv
  go_enter Try.func51, Try.ntmps51
  go_wp2_with fail
  refine HNone.out.mono ?_
  rintro e w' ⟨rfl, rfl⟩
  go_wp2_with fail
  go_ret
  exact ⟨rfl, rfl⟩

/-- x comes ahead of all others -/
def IsFirst (m : Mp) (x : En) : Prop := m x.1 = some x.2 ∧ ∀ id k, m id = some k → le x (id, k)
def Fst (a b : Int) (c : Bool) (w : World) (e : Ending) (w' : World) : Prop := e = .returned (.tuple #[.int .i64 a, .int .i64 b, .bool c]) ∧ Below w.heap.size w w'
def FstP (x : En) (w : World) (e : Ending) (w' : World) : Prop := Fst x.1 x.2 true w e w'
theorem RK.none {w : World} {rb hb g : Nat} {m : Mp} (h : RK w rb hb g 0 m) (id : Int) : m id = Option.none := by obtain ⟨f, pl, v, hn, hr, hh⟩ := h.S; exact hr.none id
theorem RK.first {w : World} {rb hb g n : Nat} {m : Mp} (h : RK w rb hb g n m) (hn : 0 < n) : ∃ x, IsFirst m x := by obtain ⟨f, pl, v, _, hr, hh⟩ := h.S; exact ⟨_, hr.first hh hn⟩

set_option maxHeartbeats 400000 in
theorem first_none (w : World) (rb hb g : Nat) (m : Mp) (h : RK w rb hb g 0 m) : Calls Try.prog 37 #[.pointer (some ⟨rb, 0, none⟩)] w (Fst 0 0 false w) := by
  have HL := Lib.hid (len_any w rb hb g 0 m h)
  clear h
  go_enter Try.func37, Try.ntmps37
  go_wp2_with fail
  refine HL.out.mono ?_
  rintro e w' ⟨rfl, rfl⟩
  go_wp2_with fail
  go_ret3
  exact ⟨rfl, Below.refl _ _⟩
set_option maxHeartbeats 1000000 in
theorem first_some (w : World) (rb hb g n : Nat) (m : Mp) (x : En) (h : RK w rb hb g n m) (hn : 0 < n) (hx : IsFirst m x) : Calls Try.prog 37 #[.pointer (some ⟨rb, 0, none⟩)] w (FstP x w) := by
  have HL := Lib.hid (len_any w rb hb g n m h)
  have c0 := h.cell
  obtain ⟨f, pl, v, hn', hr, hh⟩ := h.S
  obtain ⟨cap, hv, hH⟩ := hn'.hm hn
  have ex : f 0 = x := first_same (hr.first hh hn) hx
  have c1 := hH.P.cell0
  have e1 := hH.E.cell1 hn
  have e2 := hH.E.cell2 hn
  rw [ex] at e1 e2
  obtain ⟨x1, x2⟩ := x
  dsimp only at e1 e2
  have hle := hH.le
  have hmx := hH.max
  have hz : ((n : Int) == 0) = false := by simp; omega
  have hlg := hH.E.lt
  unfold maxLen at hmx
  simp only [Nat.zero_mul, Nat.zero_add] at e1 e2
  clear h hn' hr hh hv hH ex hx
  go_enter Try.func37, Try.ntmps37
  go_wp2_with fail
  refine HL.out.mono ?_
  rintro e w' ⟨rfl, rfl⟩
  go_wp2_with fail
  go_quiet (fail)
  go_wp2_with fail
  go_ret3
  exact ⟨rfl, below_drewN ((Below.refl _ _).alloc (Nat.le_refl _) _) _⟩

def PopP (x : En) (rb hb g n : Nat) (m : Mp) (w : World) (e : Ending) (w' : World) : Prop := OpP (.tuple #[.int .i64 x.1, .int .i64 x.2, .bool true]) rb hb g n m w e w'
theorem OpP.after {v : Value} {rb hb g n n0 : Nat} {m m0 : Mp} {w w1 w' : World} {e : Ending} (b : Below w.heap.size w w1) (h : OpP v rb hb g n m w1 e w') : OpP v rb hb g n m w e w' := by
  obtain ⟨he, ⟨g', h1, h2⟩, h3⟩ := h
  have := b.size
  exact ⟨he, ⟨g', h1, by omega⟩, (Only.of_below b).trans h3⟩
def KeyP (k : Int) (b : Bool) (w : World) (e : Ending) (w' : World) : Prop := e = .returned (.tuple #[.int .i64 k, .bool b]) ∧ w = w'
def keyN (m : Mp) (id : Int) : Int := (m id).getD 0
end Go.Proofs.Ytfjeoefnpcgnnaa.Rq
