/- A purse of the call's own; the program's and the document's beside each other; same; the chapter's examples; Bring. -/
import Derived.Test.YtcmejhgjkecpjaaPurD
namespace Go.Proofs.Ytcmejhgjkecpjaa
open Go.RowKit Go.Sort Pu
set_option linter.unusedVariables false
set_option maxRecDepth 100000

theorem bdn (w : World) (n : Nat) : Below w.heap.size w (w.drewN n) := ⟨rfl, rfl, rfl, Nat.le_refl _, fun _ _ => rfl⟩
def TrueB (w : World) (e : Ending) (w' : World) : Prop := e = .returned (.bool true) ∧ Below w.heap.size w w'
/-- a number, brought into 0 .. n - 1 -/
def bring (a n : Int) : Int := if a.tmod n < 0 then a.tmod n + n else a.tmod n
theorem bring_range (a : Int) {n : Int} (h : 1 ≤ n) : 0 ≤ bring a n ∧ bring a n < n := by
  have h1 := Int.lt_tmod_of_pos a (by omega : 0 < n)
  have h2 := Int.tmod_lt_of_pos a (by omega : 0 < n)
  unfold bring; split <;> omega
theorem bring_any (a n : Int) (w : World) (h : 1 ≤ n) (hn : n ≤ 9007199254740992) : Calls Try.prog 9 #[.int .i64 a, .int .i64 n] w (IsI (bring a n) w) := by
  unfold bring
  have h1 := Int.lt_tmod_of_pos a (by omega : 0 < n)
  have h2 := Int.tmod_lt_of_pos a (by omega : 0 < n)
  have hz : (n == 0) = false := by simp; omega
  have hw64 : wrap64 (a.tmod n) = a.tmod n := by unfold wrap64; omega
  by_cases hr : a.tmod n < 0
  · rw [if_pos hr]
    have hd : decide (a.tmod n < 0) = true := by simpa using hr
    have hw2 : wrap64 (a.tmod n + n) = a.tmod n + n := by unfold wrap64; omega
    go_enter Try.func9, Try.ntmps9
    go_wp2
    go_ret
    exact ⟨rfl, rfl⟩
  · rw [if_neg hr]
    have hd : decide (a.tmod n < 0) = false := by simpa using hr
    go_enter Try.func9, Try.ntmps9
    go_wp2
    go_ret
    exact ⟨rfl, rfl⟩
/-- a purse in a block of the call's own -/
structure OG (B : Nat) (W w : World) (b : Nat) (k : Nat) (s : St) : Prop where
  g : PP w b s
  ok : Ok k s
  hb : B ≤ b
  bel : Below B W w
/-- an answer; the purse behind it -/
def OgP (B : Nat) (W : World) (b k : Nat) (r : Value) (s : St) (E : Ending) (w' : World) : Prop := E = .returned r ∧ OG B W w' b k s
section
variable {B : Nat} {W w : World} {b k : Nat} {s : St}
theorem OG.op {w' : World} {k' : Nat} {s' : St} (h : OG B W w b k s) (g : PP w' b s') (on : Only b w w') (ok : Ok k' s') : OG B W w' b k' s' :=
  ⟨g, ok, h.hb, h.bel.trans (on.below (Nat.le_trans h.hb (Nat.le_of_lt h.g.lt)) h.hb)⟩
theorem OG.below {w' : World} (h : OG B W w b k s) (q : Below w.heap.size w w') : OG B W w' b k s :=
  ⟨h.g.below q, h.ok, h.hb, h.bel.trans (q.mono (Nat.le_trans h.hb (Nat.le_of_lt h.g.lt)))⟩
theorem og_charge (h : OG B W w b k s) {r : Int} {s' : St} (e : chE s = r) (e' : chS s = s') : Calls Try.prog 10 #[.pointer (some ⟨b, 0, none⟩)] w (OgP B W b (k + 1) (.int .i64 r) s') := by
  subst e; subst e'
  refine (charge_any h.g h.ok).mono ?_
  rintro E w' ⟨he, hg, ho⟩
  exact ⟨he, h.op hg ho h.ok.ch⟩
theorem og_turn (h : OG B W w b k s) (hk : k ≤ 1000000) {t : Int} {x : Bool} {r : Int} {s' : St} (e0 : tuB s t = x) (e : tuE s t = r) (e' : tuS s t = s') : Calls Try.prog 12 #[.pointer (some ⟨b, 0, none⟩), .int .i64 t] w (OgP B W b (k + 1) (.tuple #[.bool x, .int .i64 r]) s') := by
  subst e0; subst e; subst e'
  refine (turn_any h.g h.ok hk t).mono ?_
  rintro E w' ⟨he, hg, ho⟩
  exact ⟨he, h.op hg ho (h.ok.tu t)⟩
theorem og_change (h : OG B W w b k s) {p q r : Int} {s' : St} (e : cgE s p q = r) (e' : cgS s p q = s') : Calls Try.prog 14 #[.pointer (some ⟨b, 0, none⟩), .int .i64 p, .int .i64 q] w (OgP B W b (k + 1) (.int .i64 r) s') := by
  subst e; subst e'
  refine (change_any h.g h.ok p q).mono ?_
  rintro E w' ⟨he, hg, ho⟩
  exact ⟨he, h.op hg ho (h.ok.cg p q)⟩
theorem og_leave (h : OG B W w b k s) {r : Int} {s' : St} (e : leE s = r) (e' : leS s = s') : Calls Try.prog 16 #[.pointer (some ⟨b, 0, none⟩)] w (OgP B W b (k + 1) (.int .i64 r) s') := by
  subst e; subst e'
  refine (leave_any h.g h.ok).mono ?_
  rintro E w' ⟨he, hg, ho⟩
  exact ⟨he, h.op hg ho h.ok.le⟩
theorem og_left (h : OG B W w b k s) {r : Int} (e : s.n = r) : Calls Try.prog 21 #[.pointer (some ⟨b, 0, none⟩)] w (VB (.int .i64 r) w) := e ▸ left_any h.g
theorem og_ends (h : OG B W w b k s) {r : Int} (e : s.e = r) : Calls Try.prog 23 #[.pointer (some ⟨b, 0, none⟩)] w (VB (.int .i64 r) w) := e ▸ ends_any h.g
theorem og_short (h : OG B W w b k s) {r : Int} (e : s.sh = r) : Calls Try.prog 22 #[.pointer (some ⟨b, 0, none⟩)] w (VB (.int .i64 r) w) := e ▸ short_any h.g
theorem og_is (h : OG B W w b k s) {x y : Int} (e : s.p = x) (e' : s.b = y) : Calls Try.prog 20 #[.pointer (some ⟨b, 0, none⟩)] w (VB (.tuple #[.int .i64 x, .int .i64 y]) w) := e ▸ e' ▸ is_any h.g
theorem og_waits (h : OG B W w b k s) {x : Bool} (e : wts s = x) : Calls Try.prog 24 #[.pointer (some ⟨b, 0, none⟩)] w (VB (.bool x) w) := e ▸ waits_any h.g
theorem og_gone (h : OG B W w b k s) {x : Bool} (e : s.ov = x) : Calls Try.prog 25 #[.pointer (some ⟨b, 0, none⟩)] w (VB (.bool x) w) := e ▸ gone_any h.g
end
theorem og_new (w : World) {p b t : Int} {s : St} (h : nwE p b t = 0) (e : nwS p b t = s) : Calls Try.prog 7 #[.int .i64 p, .int .i64 b, .int .i64 t] w (fun E w' => ∃ g, E = .returned (.tuple #[.pointer (some ⟨g, 0, none⟩), .int .i64 0]) ∧ OG w.heap.size w w' g 0 s) := by
  subst e
  refine (new_yes w h).mono ?_
  rintro E w' ⟨g, he, hg, hl, hb⟩
  exact ⟨g, he, hg, Ok.new h, hl, hb⟩
/-- the program's purse, and the document's, beside each other -/
structure OE (B : Nat) (W w : World) (b c k : Nat) (s' s : St) : Prop where
  g : PP w b s'
  d : DP w c s
  ok' : Ok k s'
  ok : Ok k s
  hb : B ≤ b ∧ B ≤ c
  bel : Below B W w
/-- only the program's has been asked -/
structure OH (B : Nat) (W w : World) (b c k : Nat) (s' s : St) : Prop where
  g : PP w b s'
  d : DP w c s
  ok' : Ok (k + 1) s'
  ok : Ok k s
  hb : B ≤ b ∧ B ≤ c
  bel : Below B W w
abbrev OD (B : Nat) (W w : World) (b c k : Nat) (s : St) : Prop := OE B W w b c k s s
/-- what was there and is neither b nor c stands as it did -/
def Fr (b c : Nat) (w w' : World) : Prop := ∀ k o, w.heap[k]? = some o → k ≠ b → k ≠ c → w'.heap[k]? = some o
theorem Fr.l {b c : Nat} {w w' : World} (h : Only b w w') : Fr b c w w' := fun k o hk h1 _ => (h.block k (lt_of_block hk) h1).trans hk
theorem Fr.r {b c : Nat} {w w' : World} (h : Only c w w') : Fr b c w w' := fun k o hk _ h2 => (h.block k (lt_of_block hk) h2).trans hk
def OhP (B : Nat) (W : World) (b c k : Nat) (r : Value) (s' s : St) (w : World) (E : Ending) (w' : World) : Prop := E = .returned r ∧ OH B W w' b c k s' s ∧ Fr b c w w'
def OdP (B : Nat) (W : World) (b c k : Nat) (r : Value) (s : St) (w : World) (E : Ending) (w' : World) : Prop := E = .returned r ∧ OD B W w' b c k s ∧ Fr b c w w'
section
variable {B : Nat} {W w : World} {b c k : Nat} {s : St}
theorem OE.opg {w' : World} {s' : St} (h : OD B W w b c k s) (g : PP w' b s') (on : Only b w w') (ok : Ok (k + 1) s') : OH B W w' b c k s' s :=
  ⟨g, h.d.other h.g on, ok, h.ok, h.hb, h.bel.trans (on.below (Nat.le_trans h.hb.1 (Nat.le_of_lt h.g.lt)) h.hb.1)⟩
theorem OH.opd {w' : World} {s' : St} (h : OH B W w b c k s' s) (d : DP w' c s') (on : Only c w w') : OD B W w' b c (k + 1) s' :=
  ⟨h.g.other h.d on, d, h.ok', h.ok', h.hb, h.bel.trans (on.below (Nat.le_trans h.hb.1 (Nat.le_of_lt h.g.lt)) h.hb.2)⟩
theorem od_charge (h : OD B W w b c k s) : Calls Try.prog 10 #[.pointer (some ⟨b, 0, none⟩)] w (OhP B W b c k (.int .i64 (chE s)) (chS s) s w) := by
  refine (charge_any h.g h.ok).mono ?_
  rintro E w' ⟨he, hg, ho⟩
  exact ⟨he, h.opg hg ho h.ok.ch, Fr.l ho⟩
theorem oh_charge (h : OH B W w b c k (chS s) s) : Calls Try.prog 11 #[.pointer (some ⟨c, 0, none⟩)] w (OdP B W b c (k + 1) (.int .i64 (chE s)) (chS s) w) := by
  refine (rcharge_any h.d h.ok).mono ?_
  rintro E w' ⟨he, hg, ho⟩
  exact ⟨he, h.opd hg ho, Fr.r ho⟩
theorem od_turn (h : OD B W w b c k s) (hk : k ≤ 1000000) (t : Int) : Calls Try.prog 12 #[.pointer (some ⟨b, 0, none⟩), .int .i64 t] w (OhP B W b c k (.tuple #[.bool (tuB s t), .int .i64 (tuE s t)]) (tuS s t) s w) := by
  refine (turn_any h.g h.ok hk t).mono ?_
  rintro E w' ⟨he, hg, ho⟩
  exact ⟨he, h.opg hg ho (h.ok.tu t), Fr.l ho⟩
theorem oh_turn (hk : k ≤ 1000000) {t : Int} (h : OH B W w b c k (tuS s t) s) : Calls Try.prog 13 #[.pointer (some ⟨c, 0, none⟩), .int .i64 t] w (OdP B W b c (k + 1) (.tuple #[.bool (tuB s t), .int .i64 (tuE s t)]) (tuS s t) w) := by
  refine (rturn_any h.d h.ok hk t).mono ?_
  rintro E w' ⟨he, hg, ho⟩
  exact ⟨he, h.opd hg ho, Fr.r ho⟩
theorem od_change (h : OD B W w b c k s) (p q : Int) : Calls Try.prog 14 #[.pointer (some ⟨b, 0, none⟩), .int .i64 p, .int .i64 q] w (OhP B W b c k (.int .i64 (cgE s p q)) (cgS s p q) s w) := by
  refine (change_any h.g h.ok p q).mono ?_
  rintro E w' ⟨he, hg, ho⟩
  exact ⟨he, h.opg hg ho (h.ok.cg p q), Fr.l ho⟩
theorem oh_change {p q : Int} (h : OH B W w b c k (cgS s p q) s) : Calls Try.prog 15 #[.pointer (some ⟨c, 0, none⟩), .int .i64 p, .int .i64 q] w (OdP B W b c (k + 1) (.int .i64 (cgE s p q)) (cgS s p q) w) := by
  refine (rchange_any h.d h.ok p q).mono ?_
  rintro E w' ⟨he, hg, ho⟩
  exact ⟨he, h.opd hg ho, Fr.r ho⟩
theorem od_leave (h : OD B W w b c k s) : Calls Try.prog 16 #[.pointer (some ⟨b, 0, none⟩)] w (OhP B W b c k (.int .i64 (leE s)) (leS s) s w) := by
  refine (leave_any h.g h.ok).mono ?_
  rintro E w' ⟨he, hg, ho⟩
  exact ⟨he, h.opg hg ho h.ok.le, Fr.l ho⟩
theorem oh_leave (h : OH B W w b c k (leS s) s) : Calls Try.prog 17 #[.pointer (some ⟨c, 0, none⟩)] w (OdP B W b c (k + 1) (.int .i64 (leE s)) (leS s) w) := by
  refine (rleave_any h.d h.ok).mono ?_
  rintro E w' ⟨he, hg, ho⟩
  exact ⟨he, h.opd hg ho, Fr.r ho⟩
theorem OE.below {w' : World} (h : OD B W w b c k s) (q : Below w.heap.size w w') : OD B W w' b c k s :=
  ⟨h.g.below q, h.d.keep (q.block c h.d.lt), h.ok', h.ok, h.hb, h.bel.trans (q.mono (Nat.le_trans h.hb.1 (Nat.le_of_lt h.g.lt)))⟩
theorem OE.alloc (h : OD B W w b c k s) (o : Obj) : OD B W (w.alloc o) b c k s := h.below (below_al w o)
theorem OE.drewN (h : OD B W w b c k s) (n : Nat) : OD B W (w.drewN n) b c k s :=
  ⟨h.g.below (bdn w n), h.d.keep ((bdn w n).block c h.d.lt), h.ok', h.ok, h.hb, h.bel.trans ((bdn w n).mono (Nat.le_trans h.hb.1 (Nat.le_of_lt h.g.lt)))⟩
theorem OE.drew (h : OD B W w b c k s) : OD B W w.drew b c k s := h.drewN 1
theorem OE.up (h : OD B W w b c k s) : OD B W w b c (k + 1) s := ⟨h.g, h.d, h.ok.up, h.ok.up, h.hb, h.bel⟩
end
theorem od_new {W w : World} {b : Nat} {B : Nat} {p q t : Int} (h : OG B W w b 0 (nwS p q t)) (hq : nwE p q t = 0) : Calls Try.prog 8 #[.int .i64 p, .int .i64 q, .int .i64 t] w (fun E w' => E = .returned (.tuple #[.pointer (some ⟨w.heap.size, 0, none⟩), .int .i64 0]) ∧ OD B W w' b w.heap.size 0 (nwS p q t)) := by
  refine (rnew_yes w hq).mono ?_
  rintro E w' ⟨he, hg, hb⟩
  have hl := h.g.lt
  have hB := h.hb
  exact ⟨he, h.g.below hb, hg, h.ok, h.ok, ⟨hB, by omega⟩, h.bel.trans (hb.mono (by omega))⟩
theorem beq_refl_int (x : Int) : (x == x) = true := by simp
theorem beq_refl_bool (x : Bool) : (x == x) = true := by simp
set_option maxHeartbeats 2000000 in
/-- both stand alike -/
theorem same_any {B : Nat} {W w : World} {b c k : Nat} {s : St} (h : OD B W w b c k s) : Calls Try.prog 18 #[.pointer (some ⟨b, 0, none⟩), .pointer (some ⟨c, 0, none⟩)] w (VB (.bool true) w) := by
  have H1 := Lib.hid (is_any h.g)
  have HO := Lib.hid h
  clear h
  have e1 := beq_refl_int s.p
  have e2 := beq_refl_int s.b
  have e3 := beq_refl_int s.n
  have e4 := beq_refl_int s.e
  have e5 := beq_refl_int s.sh
  have e6 := beq_refl_bool s.ov
  have e7 := beq_refl_bool (wts s)
  have mixed : Try.prog.follows .mixedOrders = true := by kernel_rfl
  go_enter Try.func18, Try.ntmps18
  go_wp2_with fail
  refine H1.out.mono ?_
  rintro E w1 ⟨rfl, hq⟩
  have HQ := Lib.hid (HO.out.below hq)
  have HB := Lib.hid hq
  clear hq HO H1
  have HGr : ∀ d os, OD B W (grow (redrawn w1 d) os) b c k s := fun d os => HQ.out.below (below_regrown w1 d os)
  have Cleft := Lib.hid (fun d os => Calls.regrown_of (left_any (HGr d os).g))
  have Cends := Lib.hid (fun d os => Calls.regrown_of (ends_any (HGr d os).g))
  have Cwaits := Lib.hid (fun d os => Calls.regrown_of (waits_any (HGr d os).g))
  have Cgone := Lib.hid (fun d os => Calls.regrown_of (gone_any (HGr d os).g))
  have Cshort := Lib.hid (fun d os => Calls.regrown_of (short_any (HGr d os).g))
  have Crw := Lib.hid (fun d os => Calls.regrown_of (((rwaits_any (HGr d os).d (HGr d os).ok)).mono (fun E w' (q : IsB (wts s) _ E w') => ⟨q.1, q.2 ▸ Below.refl _ _⟩)))
  have k0 := cell_regrown HQ.out.d.c0
  have k1 := cell_regrown HQ.out.d.c1
  have k2 := cell_regrown HQ.out.d.c2
  have k3 := cell_regrown HQ.out.d.c3
  have k7 := cell_regrown HQ.out.d.c7
  have k8 := cell_regrown HQ.out.d.c8
  clear HGr HQ
  generalize wts s = wt at *
  go_wp2_with fail
  refine wp_region_quiet_below (by assumption) (by kernel_rfl) ?_
  repeat (quiet_step (first | (go_at_call 21; exact Cleft.out _ _) | (go_at_call 23; exact Cends.out _ _) | (go_at_call 24; exact Cwaits.out _ _) | (go_at_call 25; exact Cgone.out _ _) | (go_at_call 22; exact Cshort.out _ _) | (go_at_call 33; exact Crw.out _ _)))
  refine wpQuiet_nil ?_
  intro _ hw'
  obtain ⟨⟨dq, osq⟩, hw''⟩ := hw'
  subst hw''
  have HF := Lib.hid (HB.out.trans ((below_regrown w1 dq osq).mono HB.out.size))
  go_wp2_with fail
  go_ret
  exact ⟨rfl, HF.out⟩
theorem works_any (w : World) : Calls Try.prog 19 #[] w (TrueB w) := by
  have HN := Lib.hid (og_new w (p := 5) (b := 2) (t := 10) (s := (⟨5, 2, 2, 15, 0, 0, 0, false, false⟩ : St)) rfl rfl)
  go_enter Try.func19, Try.ntmps19
  go_wp2_with fail
  refine HN.out.mono ?_
  rintro E w0 ⟨g, rfl, hg⟩
  have G0 := Lib.hid hg
  clear hg HN
  go_wp2_with fail
  refine (og_left G0.out (r := 2) rfl).mono ?_
  rintro E w1 ⟨rfl, hq⟩
  have G1 := Lib.hid (G0.out.below hq)
  clear hq G0
  go_wp2_with fail
  refine (og_ends G1.out (r := 15) rfl).mono ?_
  rintro E w2 ⟨rfl, hq⟩
  have G2 := Lib.hid (G1.out.below hq)
  clear hq G1
  go_wp2_with fail
  refine (og_charge G2.out (r := 0) (s' := (⟨5, 2, 1, 15, 0, 0, 0, false, false⟩ : St)) rfl rfl).mono ?_
  rintro E w3 ⟨rfl, hg⟩
  have G3 := Lib.hid hg
  clear hg G2
  go_wp2_with fail
  refine (og_charge G3.out (r := 0) (s' := (⟨5, 2, 0, 15, 0, 0, 0, false, false⟩ : St)) rfl rfl).mono ?_
  rintro E w4 ⟨rfl, hg⟩
  have G4 := Lib.hid hg
  clear hg G3
  go_wp2_with fail
  refine (og_charge G4.out (r := 8) (s' := (⟨5, 2, 0, 15, 0, 0, 0, false, false⟩ : St)) rfl rfl).mono ?_
  rintro E w5 ⟨rfl, hg⟩
  have G5 := Lib.hid hg
  clear hg G4
  go_wp2_with fail
  refine (og_turn G5.out (by decide) (t := 14) (x := false) (r := 0) (s' := (⟨5, 2, 0, 15, 0, 0, 0, false, false⟩ : St)) rfl rfl rfl).mono ?_
  rintro E w6 ⟨rfl, hg⟩
  have G6 := Lib.hid hg
  clear hg G5
  go_wp2_with fail
  refine (og_turn G6.out (by decide) (t := 15) (x := true) (r := 0) (s' := (⟨5, 2, 2, 20, 0, 0, 0, false, false⟩ : St)) rfl rfl rfl).mono ?_
  rintro E w7 ⟨rfl, hg⟩
  have G7 := Lib.hid hg
  clear hg G6
  go_wp2_with fail
  refine (og_left G7.out (r := 2) rfl).mono ?_
  rintro E w8 ⟨rfl, hq⟩
  have G8 := Lib.hid (G7.out.below hq)
  clear hq G7
  go_wp2_with fail
  refine (og_ends G8.out (r := 20) rfl).mono ?_
  rintro E w9 ⟨rfl, hq⟩
  have G9 := Lib.hid (G8.out.below hq)
  clear hq G8
  go_wp2_with fail
  refine (og_change G9.out (p := 4) (q := 1) (r := 0) (s' := (⟨5, 2, 2, 20, 4, 1, 0, false, false⟩ : St)) rfl rfl).mono ?_
  rintro E w10 ⟨rfl, hg⟩
  have G10 := Lib.hid hg
  clear hg G9
  go_wp2_with fail
  refine (og_turn G10.out (by decide) (t := 20) (x := true) (r := 0) (s' := (⟨4, 1, 1, 24, 0, 1, 2, false, false⟩ : St)) rfl rfl rfl).mono ?_
  rintro E w11 ⟨rfl, hg⟩
  have G11 := Lib.hid hg
  clear hg G10
  go_wp2_with fail
  refine (og_is G11.out (x := 4) (y := 1) rfl rfl).mono ?_
  rintro E w12 ⟨rfl, hq⟩
  have G12 := Lib.hid (G11.out.below hq)
  clear hq G11
  go_wp2_with fail
  refine (og_left G12.out (r := 1) rfl).mono ?_
  rintro E w13 ⟨rfl, hq⟩
  have G13 := Lib.hid (G12.out.below hq)
  clear hq G12
  go_wp2_with fail
  refine (og_short G13.out (r := 2) rfl).mono ?_
  rintro E w14 ⟨rfl, hq⟩
  have G14 := Lib.hid (G13.out.below hq)
  clear hq G13
  go_wp2_with fail
  refine (og_leave G14.out (r := 0) (s' := (⟨4, 1, 1, 24, 0, 1, 2, true, false⟩ : St)) rfl rfl).mono ?_
  rintro E w15 ⟨rfl, hg⟩
  have G15 := Lib.hid hg
  clear hg G14
  go_wp2_with fail
  refine (og_turn G15.out (by decide) (t := 24) (x := true) (r := 0) (s' := (⟨4, 1, 0, 24, 0, 1, 3, true, true⟩ : St)) rfl rfl rfl).mono ?_
  rintro E w16 ⟨rfl, hg⟩
  have G16 := Lib.hid hg
  clear hg G15
  go_wp2_with fail
  refine (og_gone G16.out (x := true) rfl).mono ?_
  rintro E w17 ⟨rfl, hq⟩
  have G17 := Lib.hid (G16.out.below hq)
  clear hq G16
  go_wp2_with fail
  refine (og_charge G17.out (r := 250) (s' := (⟨4, 1, 0, 24, 0, 1, 3, true, true⟩ : St)) rfl rfl).mono ?_
  rintro E w18 ⟨rfl, hg⟩
  have G18 := Lib.hid hg
  clear hg G17
  go_wp2_with fail
  refine (og_short G18.out (r := 3) rfl).mono ?_
  rintro E w19 ⟨rfl, hq⟩
  have G19 := Lib.hid (G18.out.below hq)
  clear hq G18
  go_wp2_with fail
  go_ret
  exact ⟨rfl, G19.out.bel⟩
end Go.Proofs.Ytcmejhgjkecpjaa
