/- A stack of the call's own, call by call; Bring, EqInts; the chapter's stack. -/
import Derived.Test.YtmheggedlepdlaaStaN
namespace Go.Proofs.Ytmheggedlepdlaa
open Go.RowKit Lv Sk Go.Sort
set_option linter.unusedVariables false

abbrev H4 (l : List En) : Prop := ∀ t, (held l t).length ≤ 4
theorem H4.nil : H4 [] := fun t => Nat.zero_le _
theorem H4.sub {l m : List En} (h : H4 l) (s : m.Sublist l) : H4 m := fun t => Nat.le_trans ((s.filter _).map _).length_le (h t)
theorem us_range {n : Nat} {U : Nat → Int} {r i : Int} (h : us n U r i = true) : (0 ≤ i ∧ i < n) ∧ 0 ≤ r ∧ r < 8 := by
  unfold us at h
  simp only [Bool.and_eq_true, decide_eq_true_eq] at h
  exact ⟨h.1, h.2.1⟩
theorem lock0 {n : Nat} {u : Bool} {l : List En} {t r : Int} (h : lockE n u l t r = 0) : (0 ≤ t ∧ t < n) ∧ u = true ∧ has l r = false ∧ (held l t).length ≠ 4 := by
  unfold lockE at h
  split at h
  · next h1 =>
    refine ⟨h1, ?_⟩
    split at h
    · next h2 =>
      refine ⟨h2, ?_⟩
      split at h
      · cases h
      · next h3 =>
        split at h
        · cases h
        · next h4 => exact ⟨by simpa using h3, h4⟩
    · cases h
  · cases h
theorem lock_ok {n : Nat} {U : Nat → Int} {l : List En} {t r : Int} (h : Ok n l) : Ok n (lockL n (us n U r t) l t r) := by
  unfold lockL
  split
  · next e =>
    obtain ⟨h1, h2, h3, _⟩ := lock0 e
    exact h.snoc h1 (us_range h2).2 h3
  · exact h
theorem lock_h4 {n : Nat} {u : Bool} {l : List En} {t r : Int} (h : H4 l) : H4 (lockL n u l t r) := by
  unfold lockL
  split
  · next e =>
    obtain ⟨h1, h2, h3, h4⟩ := lock0 e
    intro x
    have := h x
    rw [held_append, held_one, List.length_append]
    split
    · next q =>
      have q : t = x := q
      subst q
      have := h t
      simp only [List.length_singleton]
      omega
    · simpa using this
  · exact h
theorem unl_sub (n : Nat) (l : List En) (t : Int) : (unlN n l t).Sublist l := by
  unfold unlN unlL
  split
  · split
    · exact cut_sub _ _
    · exact List.Sublist.refl _
  · exact List.Sublist.refl _
/-- a stack, all of whose blocks are from B on -/
structure SX (B : Nat) (W w : World) (sb n : Nat) (z : Nat → Nat → Int) (l : List En) (tv lv : Value) : Prop where
  so : SO w sb n z l tv lv
  hb : B ≤ sb
  tb : ∀ k, tv.ownBlock = some k → B ≤ k
  bel : Below B W w
  ok : Ok n l
  h4 : H4 l
  n4 : n ≤ 4
theorem SX.below {B : Nat} {W w w' : World} {sb n : Nat} {z : Nat → Nat → Int} {l : List En} {tv lv : Value} (h : SX B W w sb n z l tv lv) (q : Below w.heap.size w w') : SX B W w' sb n z l tv lv :=
  ⟨h.so.below q, h.hb, h.tb, h.bel.trans (q.mono (by have := lt_of_block h.so.ob; have := h.hb; omega)), h.ok, h.h4, h.n4⟩
theorem SX.op {B : Nat} {W w w' : World} {sb n : Nat} {z : Nat → Nat → Int} {l l' : List En} {tv lv lv' : Value} (h : SX B W w sb n z l tv lv) (so : SO w' sb n z l' tv lv') (on : Only (SB sb lv) w w') (ok : Ok n l') (h4 : H4 l') : SX B W w' sb n z l' tv lv' := by
  have hs := lt_of_block h.so.ob
  have hb := h.hb
  refine ⟨so, hb, h.tb, h.bel.trans (on.below (by omega) fun k _ hk => ?_), ok, h4, h.n4⟩
  rcases hk with e | e
  · omega
  · have := (h.so.pe.lt k e).1; omega
/-- it is -/
def SS (B : Nat) (W w : World) (sb n : Nat) (z : Nat → Nat → Int) (l : List En) : Prop := ∃ tv lv, SX B W w sb n z l tv lv
theorem SS.below {B : Nat} {W w w' : World} {sb n : Nat} {z : Nat → Nat → Int} {l : List En} (h : SS B W w sb n z l) (q : Below w.heap.size w w') : SS B W w' sb n z l := by
  obtain ⟨tv, lv, h⟩ := h
  exact ⟨tv, lv, h.below q⟩
theorem SS.bel {B : Nat} {W w : World} {sb n : Nat} {z : Nat → Nat → Int} {l : List En} (h : SS B W w sb n z l) : Below B W w := by
  obtain ⟨tv, lv, h⟩ := h
  exact h.bel
/-- a value is answered, the stack is this one -/
def SsP (B : Nat) (W : World) (sb n : Nat) (z : Nat → Nat → Int) (r : Value) (l : List En) (e : Ending) (w' : World) : Prop := e = .returned r ∧ SS B W w' sb n z l
section
variable {B : Nat} {W w : World} {sb n : Nat} {z : Nat → Nat → Int} {l : List En}
theorem ss_lock (h : SS B W w sb n z l) (t r : Int) {x : Int} {l' : List En} (h1 : lockE n (us n (lo z) r t) l t r = x) (h2 : lockL n (us n (lo z) r t) l t r = l') :
    Calls Try.prog 15 #[.pointer (some ⟨sb, 0, none⟩), .int .i64 t, .int .i64 r] w (SsP B W sb n z (.int .i64 x) l') := by
  obtain ⟨tv, lv, h⟩ := h
  subst h1; subst h2
  refine (lock_any h.so (by have := h.ok.len; omega) h.h4 t r).mono ?_
  rintro e w' ⟨he, lv', so, on, _⟩
  exact ⟨he, tv, lv', h.op so on (lock_ok h.ok) (lock_h4 h.h4)⟩
theorem ss_unl (h : SS B W w sb n z l) (t : Int) {v : Value} {l' : List En} (h1 : unlV n l t = v) (h2 : unlN n l t = l') :
    Calls Try.prog 16 #[.pointer (some ⟨sb, 0, none⟩), .int .i64 t] w (SsP B W sb n z v l') := by
  obtain ⟨tv, lv, h⟩ := h
  subst h1; subst h2
  refine (unl_any h.so (by have := h.ok.len; omega) t).mono ?_
  rintro e w' ⟨he, lv', so, on, _⟩
  exact ⟨he, tv, lv', h.op so on (h.ok.sub (unl_sub _ _ _)) (h.h4.sub (unl_sub _ _ _))⟩
/-- numbers are answered, in a row of their own; the stack is this one -/
def SsN (B : Nat) (W : World) (sb n : Nat) (z : Nat → Nat → Int) (xs : List Int) (l : List En) (w : World) (e : Ending) (w' : World) : Prop := ∃ r, e = .returned r ∧ NR w' w.heap.size r xs ∧ SS B W w' sb n z l
theorem ss_drop (h : SS B W w sb n z l) (t : Int) : Calls Try.prog 17 #[.pointer (some ⟨sb, 0, none⟩), .int .i64 t] w (SsN B W sb n z (held l t).reverse (drp l t) w) := by
  obtain ⟨tv, lv, h⟩ := h
  refine (drop_any h.so h.ok t).mono ?_
  rintro e w' ⟨r, he, hr, lv', so, on, _⟩
  exact ⟨r, he, hr, tv, lv', h.op so on (h.ok.sub (drp_sub _ _)) (h.h4.sub (drp_sub _ _))⟩
theorem ss_held (h : SS B W w sb n z l) (t : Int) {xs : List Int} (hx : held l t = xs) : Calls Try.prog 19 #[.pointer (some ⟨sb, 0, none⟩), .int .i64 t] w (HeldP w xs) := by
  obtain ⟨tv, lv, h⟩ := h
  subst hx
  exact held_any h.so (by have := h.ok.len; omega) t
theorem ss_len (h : SS B W w sb n z l) : Calls Try.prog 20 #[.pointer (some ⟨sb, 0, none⟩)] w (YI l.length w) := by
  obtain ⟨tv, lv, h⟩ := h
  exact len_any h.so
theorem ss_top (h : SS B W w sb n z l) {x : Int} {b : Bool} (h1 : topT l = x) (h2 : topB l = b) : Calls Try.prog 23 #[.pointer (some ⟨sb, 0, none⟩)] w (TopP x b w) := by
  obtain ⟨tv, lv, h⟩ := h
  subst h1; subst h2
  exact top_any h.so (by have := h.ok.len; omega)
theorem ss_cls (h : SS B W w sb n z l) {x : Int} (h1 : cls (ceil n (dl z) (lo z)) l l.length = x) : Calls Try.prog 22 #[.pointer (some ⟨sb, 0, none⟩)] w (YI x w) := by
  obtain ⟨tv, lv, h⟩ := h
  subst h1
  exact cls_any h.so (by have := h.ok.len; omega) (by have := h.n4; omega)
end
theorem ss_new {w : World} {v : Value} {n : Nat} {z : Nat → Nat → Int} (h : TK w v n z) (hn : n ≤ 4) : Calls Try.prog 7 #[v] w (fun e w' => ∃ sb, e = .returned (.tuple #[.pointer (some ⟨sb, 0, none⟩), .int .i64 0]) ∧ SS w.heap.size w w' sb n z []) := by
  refine (new_any h).mono ?_
  intro e w' hp
  unfold NewP at hp
  rw [if_pos hn] at hp
  obtain ⟨sb, tv, he, so, bel, hsb, htb⟩ := hp
  exact ⟨sb, he, tv, _, so, hsb, htb, bel, Ok.nil n, H4.nil, hn⟩
/-- a number, brought into 0 .. n - 1 -/
def bring (a n : Int) : Int := if a.tmod n < 0 then a.tmod n + n else a.tmod n
theorem bring_range (a : Int) {n : Int} (h : 1 ≤ n) : 0 ≤ bring a n ∧ bring a n < n := by
  have h1 := Int.lt_tmod_of_pos a (by omega : 0 < n)
  have h2 := Int.tmod_lt_of_pos a (by omega : 0 < n)
  unfold bring; split <;> omega
theorem bring_any (a n : Int) (w : World) (h : 1 ≤ n) (hn : n ≤ 9007199254740992) : Calls Try.prog 13 #[.int .i64 a, .int .i64 n] w (fun e w' => e = .returned (.int .i64 (bring a n)) ∧ w' = w) := by
  unfold bring
  have h1 := Int.lt_tmod_of_pos a (by omega : 0 < n)
  have h2 := Int.tmod_lt_of_pos a (by omega : 0 < n)
  have hz : (n == 0) = false := by simp; omega
  have hw64 : wrap64 (a.tmod n) = a.tmod n := by unfold wrap64; omega
  by_cases hr : a.tmod n < 0
  · rw [if_pos hr]
    have hd : decide (a.tmod n < 0) = true := by simpa using hr
    have hw2 : wrap64 (a.tmod n + n) = a.tmod n + n := by unfold wrap64; omega
    go_enter Try.func13, Try.ntmps13
    go_wp2
    go_ret
    exact ⟨rfl, rfl⟩
  · rw [if_neg hr]
    have hd : decide (a.tmod n < 0) = false := by simpa using hr
    go_enter Try.func13, Try.ntmps13
    go_wp2
    go_ret
    exact ⟨rfl, rfl⟩
/-- the same numbers are the same -/
theorem eqs_any {w : World} {u v : Value} {xs : List Int} (hu : IS w u xs) (hv : IS w v xs) (hl : xs.length ≤ 100000) : Calls Try.prog 18 #[u, v] w (YB true w) := by
  obtain ⟨a, cap, rfl, hn1, hn2⟩ := hu.slice
  obtain ⟨b, cap', rfl, hn3, hn4⟩ := hv.slice
  have HU := Lib.hid hu
  have HV := Lib.hid hv
  obtain ⟨m, hm⟩ : ∃ m, m = xs.length := ⟨_, rfl⟩
  rw [← hm] at hl hn1 hn3 HU HV ⊢
  clear hu hv hm
  have mixed : Try.prog.follows .mixedOrders = true := by kernel_rfl
  go_enter Try.func18, Try.ntmps18
  go_wp2_with fail
  go_loopw [5] (fun i wr => ∃ k : Nat, k ≤ m ∧ i = .int .i64 k ∧ Hid (Below w.heap.size w wr)) (fun i _ => m - (intOf i).toNat)
  case atStart => exact ⟨0, Nat.zero_le _, rfl, Below.refl _ _⟩
  case round =>
    obtain ⟨k, hk, rfl, HB⟩ := hrel
    by_cases hlt : k < m
    · obtain ⟨b1, o1, rfl, e1⟩ := (HU.out.below HB.out).at hlt
      obtain ⟨b2, o2, rfl, e2⟩ := (HV.out.below HB.out).at hlt
      generalize xs.getD k 0 = q at *
      have hki : (k : Int) < (m : Int) := by omega
      have hk0 : (0 : Int) ≤ k := by omega
      go_wp2_with fail
      go_quiet (fail)
      go_wp2_with fail
      go_roundw
      case rel => exact ⟨k + 1, by omega, by go_num, below_drewN HB.out _⟩
      case measure => simp [intOf]; omega
    · obtain rfl : k = m := by omega
      go_wp2_with fail
      go_ret
      exact ⟨rfl, HB.out⟩
end Go.Proofs.Ytmheggedlepdlaa
