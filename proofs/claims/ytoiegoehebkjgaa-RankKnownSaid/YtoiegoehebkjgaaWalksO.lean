/- The calls of the document's rank. -/
import Derived.Test.YtoiegoehebkjgaaWalksN
import Derived.Test.YtoiegoehebkjgaaPlainC
namespace Go.Proofs.Ytoiegoehebkjgaa
open Go.RowKit Rk
set_option linter.unusedVariables false

/-- the document's rank at block mb stands for n ids with keys -/
structure RD (w : World) (B mb mg n : Nat) (m : Mp) : Prop where
  ex : ∃ l, RF w B mb mg l ∧ Ord m l ∧ l.length = n
theorem RD.lb {w : World} {B mb mg n : Nat} {m : Mp} (h : RD w B mb mg n m) : mb < w.heap.size := by obtain ⟨l, h1, _⟩ := h.ex; exact h1.lb
theorem RD.lg {w : World} {B mb mg n : Nat} {m : Mp} (h : RD w B mb mg n m) : mg < w.heap.size := by obtain ⟨l, h1, _⟩ := h.ex; exact h1.lg
theorem RD.below {w w' : World} {B mb mg n : Nat} {m : Mp} (h : RD w B mb mg n m) (b : Below w.heap.size w w') : RD w' B mb mg n m := by obtain ⟨l, h1, h2⟩ := h.ex; exact ⟨l, h1.below b, h2⟩
theorem RD.only {S : Nat → Prop} {w w' : World} {B mb mg n : Nat} {m : Mp} (h : RD w B mb mg n m) (o : Only S w w') (h1 : ¬ S mb) (h2 : ¬ S mg) : RD w' B mb mg n m := by obtain ⟨l, k1, k2⟩ := h.ex; exact ⟨l, k1.only o h1 h2, k2⟩
def RdP (v : Value) (B mb mg n : Nat) (m : Mp) (w : World) (e : Ending) (w' : World) : Prop :=
  e = .returned v ∧ (∃ mg', RD w' B mb mg' n m ∧ (mg' = mg ∨ w.heap.size ≤ mg')) ∧ Only (fun k => k = mb) w w'
theorem RdP.same {v : Value} {B mb mg n : Nat} {m : Mp} {w : World} (h : RD w B mb mg n m) : RdP v B mb mg n m w (.returned v) w := ⟨rfl, ⟨mg, h, Or.inl rfl⟩, Only.refl _ _⟩
theorem RdP.of_below {v : Value} {B mb mg n : Nat} {m : Mp} {w w' : World} (h : RD w B mb mg n m) (b : Below w.heap.size w w') : RdP v B mb mg n m w (.returned v) w' := ⟨rfl, ⟨mg, h.below b, Or.inl rfl⟩, Only.of_below b⟩
theorem RfP.rd {v u : Value} {B mb mg n : Nat} {m : Mp} {l : List En} {w w' : World} {e : Ending} (h : RfP v B mb mg l w e w') (ho : Ord m l) (hn : l.length = n) : RdP u B mb mg n m w (.returned u) w' := by
  obtain ⟨_, ⟨mg', h1, h2⟩, h3⟩ := h
  exact ⟨rfl, ⟨mg', ⟨l, h1, ho, hn⟩, h2⟩, h3⟩

theorem rnew_any (w : World) (B : Nat) : Calls Try.prog 8 #[] w (fun e w' => e = .returned (.pointer (some ⟨w.heap.size, 0, none⟩)) ∧ Hid (RD w' B w.heap.size w.heap.size 0 (fun _ => none)) ∧ Hid (Below w.heap.size w w')) := by
  have HR : Hid (RD (w.alloc (.cells #[.slice none 0 0] 56)) B w.heap.size w.heap.size 0 (fun _ => none)) :=
    ⟨[], ⟨fun h => (h rfl).elim, by simp, _, heap_alloc_new w _, World.ownsRow_nil _ _ _ _, Or.inl rfl⟩, Ord.nil, rfl⟩
  go_enter Try.func8, Try.ntmps8
  go_wp2_with fail
  go_ret
  exact ⟨rfl, HR, (Below.refl _ _).alloc (Nat.le_refl _) _⟩

set_option maxHeartbeats 1000000 in
theorem rputc_any (w : World) (B mb mg n : Nat) (m : Mp) (id k : Int) (h : RD w B mb mg n m) (hB : B ≤ w.heap.size) (hN : n ≤ 90000) :
    Calls Try.prog 23 #[.pointer (some ⟨mb, 0, none⟩), .int .i64 id, .int .i64 k] w (RdP (.int .i64 (putE m id)) B mb mg (putN m id n) (putM m id k) w) := by
  obtain ⟨l, h1, hO, hn⟩ := h.ex
  have H := Lib.hid h
  have H1 := Lib.hid h1
  have HO := Lib.hid hO
  have HN := Lib.hid hn
  clear h h1 hO hn
  by_cases hid : 0 ≤ id ∧ id ≤ 63
  · have hd1 : decide (id < 0) = false := by simp; omega
    have hd2 : decide (63 < id) = false := by simp; omega
    cases hm : m id with
    | some k0 =>
      obtain ⟨e1, e2, e3⟩ := put_busy (m := m) k n hid hm
      rw [e1, e2, e3]
      have HA := Lib.hid (at_yes w B mb mg l m id k0 H1.out HO.out hm (by rw [HN.out]; omega))
      clear e1 e2 e3 hm hid
      go_enter Try.func23, Try.ntmps23
      go_wp2_with fail
      refine HA.out.mono ?_
      rintro e w' ⟨p, rfl, HP, rfl⟩
      go_wp2_with fail
      go_ret
      exact RdP.same H.out
    | none =>
      obtain ⟨e1, e2, e3⟩ := put_ok (m := m) k n hid hm
      rw [e1, e2, e3]
      have HA := Lib.hid (at_no w B mb mg l m id H1.out HO.out hm (by rw [HN.out]; omega))
      have HO2 := Lib.hid (HO.out.put (k := k) hm)
      have HL : Hid ((ins (id, k) l).length = n + 1) := by unfold Hid; rw [len_ins, HN.out]
      clear e1 e2 e3 hm hid
      go_enter Try.func23, Try.ntmps23
      go_wp2_with fail
      refine HA.out.mono ?_
      rintro e w' ⟨rfl, rfl⟩
      go_wp2_with fail
      refine (rput_any w B mb mg l id k H1.out hB (by rw [HN.out]; omega)).mono ?_
      intro e w' hr
      have HF : Hid (RdP (.int .i64 0) B mb mg (n + 1) (upd m id (some k)) w (.returned (.int .i64 0)) w') := hr.rd HO2.out HL.out
      obtain ⟨rfl, _⟩ := hr
      go_wp2_with fail
      go_ret
      exact HF
  · obtain ⟨e1, e2, e3⟩ := put_bad (m := m) (id := id) k n (by omega)
    rw [e1, e2, e3]
    by_cases h0 : id < 0
    · have hd1 : decide (id < 0) = true := by simpa using h0
      clear e1 e2 e3 hid
      go_enter Try.func23, Try.ntmps23
      go_wp2_with fail
      go_ret
      exact RdP.same H.out
    · have hd1 : decide (id < 0) = false := by simpa using h0
      have hd2 : decide (63 < id) = true := by simp; omega
      clear e1 e2 e3 hid h0
      go_enter Try.func23, Try.ntmps23
      go_wp2_with fail
      go_ret
      exact RdP.same H.out

theorem len_rem {m : Mp} {l : List En} {n : Nat} (ho : Ord m l) (hn : l.length = n) (id : Int) : (del id l).length = remN m id n := by
  unfold remN
  cases hm : m id with
  | none => rw [len_del_none ho hm, hn]; rfl
  | some k => have := ho.del_len hm; simp; omega
theorem rremc_any (w : World) (B mb mg n : Nat) (m : Mp) (id : Int) (h : RD w B mb mg n m) (hB : B ≤ w.heap.size) (hN : n ≤ 90000) :
    Calls Try.prog 25 #[.pointer (some ⟨mb, 0, none⟩), .int .i64 id] w (RdP (.bool (m id).isSome) B mb mg (remN m id n) (upd m id none) w) := by
  obtain ⟨l, h1, hO, hn⟩ := h.ex
  refine (rrem_any w B mb mg l m id h1 hB hO (by omega)).mono fun e w' hr => ?_
  have := hr.rd (u := .bool (m id).isSome) (hO.del id) (len_rem hO hn id)
  rw [hr.1]; exact this

set_option maxHeartbeats 1000000 in
theorem rlowc_any (w : World) (B mb mg n : Nat) (m : Mp) (id k : Int) (h : RD w B mb mg n m) (hB : B ≤ w.heap.size) (hN : n ≤ 90000) :
    Calls Try.prog 24 #[.pointer (some ⟨mb, 0, none⟩), .int .i64 id, .int .i64 k] w (RdP (.int .i64 (lowE m id k)) B mb mg n (lowM m id k) w) := by
  obtain ⟨l, h1, hO, hn⟩ := h.ex
  have H := Lib.hid h
  have H1 := Lib.hid h1
  have HO := Lib.hid hO
  have HN := Lib.hid hn
  have hlb := h1.lb
  clear h h1 hO hn
  by_cases hid : 0 ≤ id ∧ id ≤ 63
  · have hd1 : decide (id < 0) = false := by simp; omega
    have hd2 : decide (63 < id) = false := by simp; omega
    cases hm : m id with
    | none =>
      obtain ⟨e1, e2⟩ := low_none (m := m) k hid hm
      rw [e1, e2]
      have HA := Lib.hid (at_no w B mb mg l m id H1.out HO.out hm (by rw [HN.out]; omega))
      clear e1 e2 hm hid
      go_enter Try.func24, Try.ntmps24
      go_wp2_with fail
      refine HA.out.mono ?_
      rintro e w' ⟨rfl, rfl⟩
      go_wp2_with fail
      go_ret
      exact RdP.same H.out
    | some k0 =>
      have HA := Lib.hid (at_yes w B mb mg l m id k0 H1.out HO.out hm (by rw [HN.out]; omega))
      obtain ⟨v, hv1, hv2⟩ := H1.out.S
      have hpos : 0 < l.length := List.length_pos_of_mem ((HO.out.2 id k0).2 hm)
      obtain ⟨cap, hv, hle, hmx, _⟩ := hv2.form hpos
      have c0 := cell_of_one hv1
      rw [hv] at c0
      have H2 := Lib.hid hv2
      rw [HN.out] at c0 hle
      unfold maxLen at hmx
      clear hv hv1 hv2 hpos
      by_cases hk : k0 < k
      · obtain ⟨e1, e2⟩ := low_hi (m := m) hid hm hk
        rw [e1, e2]
        clear e1 e2 hm hid
        go_enter Try.func24, Try.ntmps24
        go_wp2_with fail
        refine HA.out.mono ?_
        rintro e w' ⟨p, rfl, HP, rfl⟩
        obtain ⟨hp, hx⟩ := HP.out
        have g2 := (H2.out.cells p hp).2
        rw [hx] at g2
        have hpn : p < n := by rw [← HN.out]; exact hp
        clear HP hx hp
        dsimp only at g2
        go_wp2_with fail
        go_ret
        exact RdP.same H.out
      · have hk' : k ≤ k0 := by omega
        have hd : decide (k0 < k) = false := by simp; omega
        obtain ⟨e1, e2⟩ := low_ok (m := m) hid hm hk'
        rw [e1, e2]
        have HOd := Lib.hid (HO.out.del id)
        have HLd : Hid ((del id l).length + 1 = n) := by unfold Hid; rw [HO.out.del_len hm, HN.out]
        have HO2 : Hid (Ord (upd m id (some k)) (ins (id, k) (del id l))) := by have := HOd.out.put (id := id) (k := k) (upd_same _ _ _); rw [upd_upd] at this; exact this
        have HL2 : Hid ((ins (id, k) (del id l)).length = n) := by unfold Hid; rw [len_ins]; exact HLd.out
        have HS : Hid ((m id).isSome = true) := by unfold Hid; rw [hm]; rfl
        clear e1 e2 hm hid hk
        go_enter Try.func24, Try.ntmps24
        go_wp2_with fail
        refine HA.out.mono ?_
        rintro e w' ⟨p, rfl, HP, rfl⟩
        obtain ⟨hp, hx⟩ := HP.out
        have g2 := (H2.out.cells p hp).2
        rw [hx] at g2
        have hpn : p < n := by rw [← HN.out]; exact hp
        clear HP hx hp
        dsimp only at g2
        go_wp2_with fail
        refine (rrem_any w B mb mg l m id H1.out hB HO.out (by rw [HN.out]; omega)).mono ?_
        rintro e w2 ⟨rfl, ⟨mg2, hr2, hg2⟩, ho2⟩
        have HR2 := Lib.hid hr2
        have HO3 := Lib.hid ho2
        have hs2 := ho2.size
        clear hr2 ho2
        go_wp2_with fail
        refine (rput_any w2 B mb mg2 (del id l) id k HR2.out (by omega) (by have := HLd.out; omega)).mono ?_
        intro e w3 hr
        have HF : Hid (RdP (.int .i64 0) B mb mg n (upd m id (some k)) w (.returned (.int .i64 0)) w3) := by
          obtain ⟨_, ⟨mg3, hr3, hg3⟩, ho3⟩ := hr
          exact ⟨rfl, ⟨mg3, ⟨_, hr3, HO2.out, HL2.out⟩, by omega⟩, HO3.out.trans ho3⟩
        obtain ⟨rfl, _⟩ := hr
        go_wp2_with fail
        go_ret
        exact HF
  · obtain ⟨e1, e2⟩ := low_bad (m := m) (id := id) k (by omega)
    rw [e1, e2]
    by_cases h0 : id < 0
    · have hd1 : decide (id < 0) = true := by simpa using h0
      clear e1 e2 hid
      go_enter Try.func24, Try.ntmps24
      go_wp2_with fail
      go_ret
      exact RdP.same H.out
    · have hd1 : decide (id < 0) = false := by simpa using h0
      have hd2 : decide (63 < id) = true := by simp; omega
      clear e1 e2 hid h0
      go_enter Try.func24, Try.ntmps24
      go_wp2_with fail
      go_ret
      exact RdP.same H.out

set_option maxHeartbeats 400000 in
theorem rlen_any (w : World) (B mb mg n : Nat) (m : Mp) (h : RD w B mb mg n m) : Calls Try.prog 29 #[.pointer (some ⟨mb, 0, none⟩)] w (IsN n w) := by
  obtain ⟨l, h1, hO, hn⟩ := h.ex
  obtain ⟨v, hv1, hv2⟩ := h1.S
  obtain ⟨a, cap, hv⟩ := hv2.slice
  have c0 := cell_of_one hv1
  rw [hv, hn] at c0
  clear h h1 hO hn hv hv1 hv2
  go_enter Try.func29, Try.ntmps29
  go_wp2_with fail
  go_ret
  exact ⟨rfl, rfl⟩
set_option maxHeartbeats 1000000 in
theorem rkey_any (w : World) (B mb mg n : Nat) (m : Mp) (id : Int) (h : RD w B mb mg n m) (hN : n ≤ 90000) : Calls Try.prog 28 #[.pointer (some ⟨mb, 0, none⟩), .int .i64 id] w (KeyP (keyN m id) (m id).isSome w) := by
  obtain ⟨l, h1, hO, hn⟩ := h.ex
  unfold keyN
  cases hm : m id with
  | none =>
    have HA := Lib.hid (at_no w B mb mg l m id h1 hO hm (by omega))
    clear h h1 hO hn hm
    dsimp only [Option.getD, Option.isSome]
    go_enter Try.func28, Try.ntmps28
    go_wp2_with fail
    refine HA.out.mono ?_
    rintro e w' ⟨rfl, rfl⟩
    go_wp2_with fail
    go_ret2
    exact ⟨rfl, rfl⟩
  | some k0 =>
    have HA := Lib.hid (at_yes w B mb mg l m id k0 h1 hO hm (by omega))
    obtain ⟨v, hv1, hv2⟩ := h1.S
    have hpos : 0 < l.length := List.length_pos_of_mem ((hO.2 id k0).2 hm)
    obtain ⟨cap, hv, hle, hmx, _⟩ := hv2.form hpos
    have c0 := cell_of_one hv1
    rw [hv] at c0
    have H2 := Lib.hid hv2
    rw [hn] at c0 hle
    have HN := Lib.hid hn
    unfold maxLen at hmx
    clear hv hv1 hv2 hpos h h1 hO hn hm
    dsimp only [Option.getD, Option.isSome]
    go_enter Try.func28, Try.ntmps28
    go_wp2_with fail
    refine HA.out.mono ?_
    rintro e w' ⟨p, rfl, HP, rfl⟩
    obtain ⟨hp, hx⟩ := HP.out
    have g2 := (H2.out.cells p hp).2
    rw [hx] at g2
    have hpn : p < n := by rw [← HN.out]; exact hp
    clear HP hx hp
    dsimp only at g2
    go_wp2_with fail
    go_ret2
    exact ⟨rfl, rfl⟩
set_option maxHeartbeats 400000 in
theorem rfirst_none (w : World) (B mb mg : Nat) (m : Mp) (h : RD w B mb mg 0 m) : Calls Try.prog 27 #[.pointer (some ⟨mb, 0, none⟩)] w (Fst 0 0 false w) := by
  obtain ⟨l, h1, hO, hn⟩ := h.ex
  obtain ⟨v, hv1, hv2⟩ := h1.S
  obtain ⟨a, cap, hv⟩ := hv2.slice
  have c0 := cell_of_one hv1
  rw [hv, hn] at c0
  clear h h1 hO hn hv hv1 hv2
  go_enter Try.func27, Try.ntmps27
  go_wp2_with fail
  go_ret3
  exact ⟨rfl, Below.refl _ _⟩
set_option maxHeartbeats 1000000 in
theorem rfirst_some (w : World) (B mb mg n : Nat) (m : Mp) (x : En) (h : RD w B mb mg n m) (hn0 : 0 < n) (hx : IsFirst m x) : Calls Try.prog 27 #[.pointer (some ⟨mb, 0, none⟩)] w (FstP x w) := by
  obtain ⟨l, h1, hO, hn⟩ := h.ex
  obtain ⟨v, hv1, hv2⟩ := h1.S
  obtain ⟨cap, hv, hle, hmx, _⟩ := hv2.form (by omega)
  have c0 := cell_of_one hv1
  rw [hv, hn] at c0
  obtain ⟨e1, e2⟩ := hv2.cells 0 (by omega)
  have e0 : l[0]'(by omega) = x := by
    cases l with
    | nil => simp at hn; omega
    | cons y l => exact first_same (x := y) hO.head hx
  rw [e0] at e1 e2
  obtain ⟨x1, x2⟩ := x
  dsimp only at e1 e2
  rw [hn] at hle
  unfold maxLen at hmx
  have hz : ((n : Int) == 0) = false := by simp; omega
  simp only [Nat.zero_mul, Nat.zero_add] at e1 e2
  clear h h1 hO hn hv hv1 hv2 e0 hx
  go_enter Try.func27, Try.ntmps27
  go_wp2_with fail
  go_quiet (fail)
  go_wp2_with fail
  go_ret3
  exact ⟨rfl, below_drewN (Below.refl _ _) _⟩
set_option maxHeartbeats 400000 in
theorem rpop_none (w : World) (B mb mg : Nat) (m : Mp) (h : RD w B mb mg 0 m) : Calls Try.prog 26 #[.pointer (some ⟨mb, 0, none⟩)] w (RdP (.tuple #[.int .i64 0, .int .i64 0, .bool false]) B mb mg 0 m w) := by
  have HL := Lib.hid (rfirst_none w B mb mg m h)
  have H := Lib.hid h
  clear h
  go_enter Try.func26, Try.ntmps26
  go_wp2_with fail
  refine HL.out.mono ?_
  rintro e w' ⟨rfl, hb1⟩
  go_wp2_with fail
  go_ret3
  exact RdP.of_below H.out hb1
set_option maxHeartbeats 1000000 in
theorem rpop_some (w : World) (B mb mg n : Nat) (m : Mp) (x : En) (h : RD w B mb mg (n + 1) m) (hB : B ≤ w.heap.size) (hN : n ≤ 80000) (hx : IsFirst m x) : Calls Try.prog 26 #[.pointer (some ⟨mb, 0, none⟩)] w (RdP (.tuple #[.int .i64 x.1, .int .i64 x.2, .bool true]) B mb mg n (upd m x.1 none) w) := by
  have HL := Lib.hid (rfirst_some w B mb mg (n + 1) m x h (by omega) hx)
  have H := Lib.hid h
  have HRn : Hid (remN m x.1 (n + 1) = n) := by unfold Hid remN; rw [hx.1]; rfl
  clear h hx
  obtain ⟨x1, x2⟩ := x
  dsimp only
  go_enter Try.func26, Try.ntmps26
  go_wp2_with fail
  refine HL.out.mono ?_
  rintro e w1 ⟨rfl, hb1⟩
  have hs := hb1.size
  have HR := Lib.hid (rremc_any w1 B mb mg (n + 1) m x1 (H.out.below hb1) (by omega) (by omega))
  rw [HRn.out] at HR
  have HB := Lib.hid hb1
  clear hb1
  go_wp2_with fail
  refine HR.out.mono ?_
  rintro e w2 ⟨rfl, ⟨mg2, hr2, hg2⟩, ho2⟩
  have HF : Hid (RdP (.tuple #[.int .i64 x1, .int .i64 x2, .bool true]) B mb mg n (upd m x1 none) w (.returned (.tuple #[.int .i64 x1, .int .i64 x2, .bool true])) w2) := ⟨rfl, ⟨mg2, hr2, by omega⟩, (Only.of_below HB.out).trans ho2⟩
  clear hr2 ho2
  go_wp2_with fail
  go_ret3
  exact HF

/-- ids in order, of the document's rank -/
def RidP (n : Nat) (m : Mp) (w : World) (e : Ending) (w' : World) : Prop := ∃ v l, e = .returned v ∧ Ord m l ∧ l.length = n ∧ w'.ownsRow w.heap.size 3 1 v n (idv l) ∧ Below w.heap.size w w'
theorem cells1_new (w : World) (x : Value) (t : TypeId) : ∀ (j : Nat) (u : Value), [x][j]? = some u → (w.alloc (.cells #[x] t)).cell? ((⟨w.heap.size, 0, none⟩ : Addr).add j) = some u := by
  intro j u hj
  rw [Addr.add_lit, Nat.zero_add, cell_of_row _ _ _ _ _ _ (heap_alloc_new w _)]
  match j, hj with
  | 0, hj => exact hj
  | j + 1, hj => simp at hj
theorem one1 (x : Int) : ∀ u ∈ [Value.int .i64 x], u.oneCell' = true := by intro u hu; simp only [List.mem_cons, List.not_mem_nil, or_false] at hu; rw [hu]; rfl
/-- a row of ids of the call's own -/
def OI (w : World) (B n : Nat) (v : Value) (l : List En) : Prop := w.ownsRow B 3 1 v n (idv l)
theorem OI.snoc {w : World} {B n : Nat} {v : Value} {l : List En} {x : En} (h : w.ownsRow B 3 1 v (n + 1) (idv l ++ [.int .i64 x.1])) : OI w B (n + 1) v (l ++ [x]) := by
  unfold OI idv
  rw [List.map_append]
  exact h
theorem OI.own {w : World} {B n : Nat} {v : Value} {l : List En} (h : OI w B n v l) : ∀ k, v.ownBlock = some k → B ≤ k := fun k hk => (h.lt k hk).1
set_option maxRecDepth 100000 in
set_option maxHeartbeats 2000000 in
theorem rids_any (w : World) (B mb mg n : Nat) (m : Mp) (h : RD w B mb mg n m) (hN : n ≤ 90000) : Calls Try.prog 13 #[.pointer (some ⟨mb, 0, none⟩)] w (RidP n m w) := by
  obtain ⟨i0, hi, hz0, hz1, hz2⟩ := info_parts info3
  have HInfo := Lib.hid (⟨hi, hz0, hz1, hz2⟩ : _ ∧ _ ∧ _ ∧ _)
  clear hi hz0 hz1 hz2
  obtain ⟨l, h1, hO, hn⟩ := h.ex
  obtain ⟨v, hv1, hv2⟩ := h1.S
  obtain ⟨a, cap, hv⟩ := hv2.slice
  have hlb := h1.lb
  have hlg := h1.lg
  have HBlk := Lib.hid hv1
  rw [hv, hn] at HBlk
  have H2 := Lib.hid hv2
  have HO := Lib.hid hO
  have HN' := Lib.hid hn
  have hpos : ∀ i, i < n → ∃ ca, a = some ⟨mg, 0, none⟩ ∧ cap = ca ∧ n ≤ ca ∧ ca ≤ 9223372036854775807 := fun i hin => by
    obtain ⟨cap', hv', hle, hmx, _⟩ := hv2.form (by omega)
    rw [hv] at hv'
    injection hv' with e1 e2 e3
    unfold maxLen at hmx
    exact ⟨cap', e1, e3, by omega, by omega⟩
  clear h h1 hO hn hv hv1 hv2
  have c0 := cell_of_one HBlk.out
  go_enter Try.func13, Try.ntmps13
  go_wp2_with fail
  go_loopw [3, 4] (fun o i wr => ∃ (j : Nat) (P : List En), j ≤ n ∧ i = .int .i64 j ∧ Hid (P = l.take j) ∧ Hid (OI wr w.heap.size j o P) ∧ Hid (Below w.heap.size w wr)) (fun _ i _ => n - (intOf i).toNat)
  case atStart => exact ⟨0, [], Nat.zero_le _, rfl, rfl, World.ownsRow_nil _ _ _ _, Below.refl _ _⟩
  case round =>
    clear c0
    obtain ⟨j, P, hj, rfl, HP, HE, HBl⟩ := hrel
    have c0 := cell_of_one ((HBl.out.block mb hlb).trans HBlk.out)
    by_cases hjn : j < n
    · obtain ⟨ca, ha, hca, hle, hmx⟩ := hpos j hjn
      have hjl : j < l.length := by rw [HN'.out]; exact hjn
      have d1 := (HBl.out.cell (p := ⟨mg, j * 2, none⟩) hlg).trans (H2.out.cells j hjl).1
      have HS := Lib.hid (take_snoc hjl)
      obtain ⟨y, hy⟩ : ∃ y, l[j] = y := ⟨_, rfl⟩
      rw [hy] at d1 HS
      obtain ⟨y1, y2⟩ := y
      dsimp only at d1
      rw [ha, hca] at c0
      have Hm1 : Hid (j + 1 ≤ maxLen) := by unfold Hid maxLen; omega
      have Hm2 : Hid ((j + 1) * 8 ≤ 140737488355328) := by unfold Hid; omega
      have Hm3 : ∀ o, Hid (w.heap.size ≤ (wr.alloc o).heap.size) := fun o => by have := HBl.out.size; unfold Hid; simp; omega
      clear hy ha hca hpos
      go_wp2_with (at_builtin; refine wpList_append_own _ rfl _ _ 31 rfl w.heap.size 3 i0 _ 1 8 Try.underlying31 HInfo.out.1 HInfo.out.2.1 HInfo.out.2.2.1 HInfo.out.2.2.2 rfl (by decide) _ j _ rfl (World.ownsRow.alloc HE.out _) ⟨wr.heap.size, 0, none⟩ 1 1 [.int .i64 y1] rfl rfl (cells1_new _ _ _) (one1 _) Hm1.out Hm2.out (Hm3 _).out ?_)
      intro v' w1 hown hgrow _
      have HE2 : Hid (OI w1 w.heap.size (j + 1) v' (P ++ [(y1, y2)])) := OI.snoc hown
      have HB2 : Hid (Below w.heap.size w w1) := (HBl.out.alloc HBl.out.size _).grown hgrow (Hm3 _).out (fun q hq => HE.out.own q hq)
      have HP2 : Hid (P ++ [(y1, y2)] = l.take (j + 1)) := by rw [HS.out, HP.out]; rfl
      clear hown hgrow Hm1 Hm2 Hm3 HE HBl
      go_wp2_with fail
      go_roundw
      case rel => exact ⟨j + 1, _, by omega, by go_num, HP2, HE2, HB2⟩
      case measure => simp [intOf]; omega
    · obtain rfl : n = j := by omega
      have HE2 : Hid (OI wr w.heap.size n u3 l) := by have := HE.out; rw [HP.out, List.take_of_length_le (by rw [HN'.out]; exact Nat.le_refl _)] at this; exact this
      clear HE
      go_wp2_with fail
      go_ret
      exact ⟨_, l, rfl, HO.out, HN'.out, HE2.out, HBl.out⟩

end Go.Proofs.Ytoiegoehebkjgaa
