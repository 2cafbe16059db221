/- A purse of the call's own; the program's and the document's beside each other; same; the chapter's examples; Bring. -/
import Derived.Test.YtfjeoefnpcgnnaaPurD
namespace Go.Proofs.Ytfjeoefnpcgnnaa.Pw
open Go.RowKit Go.Sort Pu
set_option linter.unusedVariables false
set_option maxRecDepth 100000

theorem bdn (w : World) (n : Nat) : Below w.heap.size w (w.drewN n) := ⟨rfl, rfl, rfl, Nat.le_refl _, fun _ _ => rfl⟩
def TrueB (w : World) (e : Ending) (w' : World) : Prop := e = .returned (.bool true) ∧ Below w.heap.size w w'
/-- a number, brought into 0 .. n - 1 -/
def bring (a n : Int) : Int := if a.tmod n < 0 then a.tmod n + n else a.tmod n
theorem bring_range (a : Int) {n : Int} (h : 1 ≤ n) : 0 ≤ bring a n ∧ bring a n < n := by
  have h1 := Int.lt_tmod_of_pos a (by omega : 0 < n)
  have h2 := Int.tmod_lt_of_pos a (by omega : 0 < n)
  unfold bring; split <;> omega
theorem bring_any (a n : Int) (w : World) (h : 1 ≤ n) (hn : n ≤ 9007199254740992) : Calls Try.prog 15 #[.int .i64 a, .int .i64 n] w (IsI (bring a n) w) := by
  unfold bring
  have h1 := Int.lt_tmod_of_pos a (by omega : 0 < n)
  have h2 := Int.tmod_lt_of_pos a (by omega : 0 < n)
  have hz : (n == 0) = false := by simp; omega
  have hw64 : wrap64 (a.tmod n) = a.tmod n := by unfold wrap64; omega
  by_cases hr : a.tmod n < 0
  · rw [if_pos hr]
    have hd : decide (a.tmod n < 0) = true := by simpa using hr
    have hw2 : wrap64 (a.tmod n + n) = a.tmod n + n := by unfold wrap64; omega
    go_enter Try.func15, Try.ntmps15
    go_wp2
    go_ret
    exact ⟨rfl, rfl⟩
  · rw [if_neg hr]
    have hd : decide (a.tmod n < 0) = false := by simpa using hr
    go_enter Try.func15, Try.ntmps15
    go_wp2
    go_ret
    exact ⟨rfl, rfl⟩
/-- a purse in a block of the call's own -/
structure OG (B : Nat) (W w : World) (b : Nat) (k : Nat) (s : St) : Prop where
  g : PP w b s
  ok : Ok k s
  hb : B ≤ b
  bel : Below B W w
/-- an answer; the purse behind it -/
def OgP (B : Nat) (W : World) (b k : Nat) (r : Value) (s : St) (E : Ending) (w' : World) : Prop := E = .returned r ∧ OG B W w' b k s
section
variable {B : Nat} {W w : World} {b k : Nat} {s : St}
theorem OG.op {w' : World} {k' : Nat} {s' : St} (h : OG B W w b k s) (g : PP w' b s') (on : Only b w w') (ok : Ok k' s') : OG B W w' b k' s' :=
  ⟨g, ok, h.hb, h.bel.trans (on.below (Nat.le_trans h.hb (Nat.le_of_lt h.g.lt)) h.hb)⟩
theorem OG.below {w' : World} (h : OG B W w b k s) (q : Below w.heap.size w w') : OG B W w' b k s :=
  ⟨h.g.below q, h.ok, h.hb, h.bel.trans (q.mono (Nat.le_trans h.hb (Nat.le_of_lt h.g.lt)))⟩
theorem og_charge (h : OG B W w b k s) {r : Int} {s' : St} (e : chE s = r) (e' : chS s = s') : Calls Try.prog 16 #[.pointer (some ⟨b, 0, none⟩)] w (OgP B W b (k + 1) (.int .i64 r) s') := by
  subst e; subst e'
  refine (charge_any h.g h.ok).mono ?_
  rintro E w' ⟨he, hg, ho⟩
  exact ⟨he, h.op hg ho h.ok.ch⟩
theorem og_turn (h : OG B W w b k s) (hk : k ≤ 1000000) {t : Int} {x : Bool} {r : Int} {s' : St} (e0 : tuB s t = x) (e : tuE s t = r) (e' : tuS s t = s') : Calls Try.prog 25 #[.pointer (some ⟨b, 0, none⟩), .int .i64 t] w (OgP B W b (k + 1) (.tuple #[.bool x, .int .i64 r]) s') := by
  subst e0; subst e; subst e'
  refine (turn_any h.g h.ok hk t).mono ?_
  rintro E w' ⟨he, hg, ho⟩
  exact ⟨he, h.op hg ho (h.ok.tu t)⟩
theorem og_leave (h : OG B W w b k s) {r : Int} {s' : St} (e : leE s = r) (e' : leS s = s') : Calls Try.prog 24 #[.pointer (some ⟨b, 0, none⟩)] w (OgP B W b (k + 1) (.int .i64 r) s') := by
  subst e; subst e'
  refine (leave_any h.g h.ok).mono ?_
  rintro E w' ⟨he, hg, ho⟩
  exact ⟨he, h.op hg ho h.ok.le⟩
theorem og_left (h : OG B W w b k s) {r : Int} (e : s.n = r) : Calls Try.prog 48 #[.pointer (some ⟨b, 0, none⟩)] w (VB (.int .i64 r) w) := e ▸ left_any h.g
theorem og_ends (h : OG B W w b k s) {r : Int} (e : s.e = r) : Calls Try.prog 50 #[.pointer (some ⟨b, 0, none⟩)] w (VB (.int .i64 r) w) := e ▸ ends_any h.g
theorem og_waits (h : OG B W w b k s) {x : Bool} (e : wts s = x) : Calls Try.prog 55 #[.pointer (some ⟨b, 0, none⟩)] w (VB (.bool x) w) := e ▸ waits_any h.g
end
theorem og_new (w : World) {p b t : Int} {s : St} (h : nwE p b t = 0) (e : nwS p b t = s) : Calls Try.prog 13 #[.int .i64 p, .int .i64 b, .int .i64 t] w (fun E w' => ∃ g, E = .returned (.tuple #[.pointer (some ⟨g, 0, none⟩), .int .i64 0]) ∧ OG w.heap.size w w' g 0 s) := by
  subst e
  refine (new_yes w h).mono ?_
  rintro E w' ⟨g, he, hg, hl, hb⟩
  exact ⟨g, he, hg, Ok.new h, hl, hb⟩
/-- the program's purse, and the document's, beside each other -/
structure OE (B : Nat) (W w : World) (b c k : Nat) (s' s : St) : Prop where
  g : PP w b s'
  d : DP w c s
  ok' : Ok k s'
  ok : Ok k s
  hb : B ≤ b ∧ B ≤ c
  bel : Below B W w
/-- only the program's has been asked -/
structure OH (B : Nat) (W w : World) (b c k : Nat) (s' s : St) : Prop where
  g : PP w b s'
  d : DP w c s
  ok' : Ok (k + 1) s'
  ok : Ok k s
  hb : B ≤ b ∧ B ≤ c
  bel : Below B W w
abbrev OD (B : Nat) (W w : World) (b c k : Nat) (s : St) : Prop := OE B W w b c k s s
/-- what was there and is neither b nor c stands as it did -/
def Fr (b c : Nat) (w w' : World) : Prop := ∀ k o, w.heap[k]? = some o → k ≠ b → k ≠ c → w'.heap[k]? = some o
theorem Fr.l {b c : Nat} {w w' : World} (h : Only b w w') : Fr b c w w' := fun k o hk h1 _ => (h.block k (lt_of_block hk) h1).trans hk
theorem Fr.r {b c : Nat} {w w' : World} (h : Only c w w') : Fr b c w w' := fun k o hk _ h2 => (h.block k (lt_of_block hk) h2).trans hk
def OhP (B : Nat) (W : World) (b c k : Nat) (r : Value) (s' s : St) (w : World) (E : Ending) (w' : World) : Prop := E = .returned r ∧ OH B W w' b c k s' s ∧ Fr b c w w'
def OdP (B : Nat) (W : World) (b c k : Nat) (r : Value) (s : St) (w : World) (E : Ending) (w' : World) : Prop := E = .returned r ∧ OD B W w' b c k s ∧ Fr b c w w'
section
variable {B : Nat} {W w : World} {b c k : Nat} {s : St}
theorem OE.opg {w' : World} {s' : St} (h : OD B W w b c k s) (g : PP w' b s') (on : Only b w w') (ok : Ok (k + 1) s') : OH B W w' b c k s' s :=
  ⟨g, h.d.other h.g on, ok, h.ok, h.hb, h.bel.trans (on.below (Nat.le_trans h.hb.1 (Nat.le_of_lt h.g.lt)) h.hb.1)⟩
theorem OH.opd {w' : World} {s' : St} (h : OH B W w b c k s' s) (d : DP w' c s') (on : Only c w w') : OD B W w' b c (k + 1) s' :=
  ⟨h.g.other h.d on, d, h.ok', h.ok', h.hb, h.bel.trans (on.below (Nat.le_trans h.hb.1 (Nat.le_of_lt h.g.lt)) h.hb.2)⟩
theorem od_charge (h : OD B W w b c k s) : Calls Try.prog 16 #[.pointer (some ⟨b, 0, none⟩)] w (OhP B W b c k (.int .i64 (chE s)) (chS s) s w) := by
  refine (charge_any h.g h.ok).mono ?_
  rintro E w' ⟨he, hg, ho⟩
  exact ⟨he, h.opg hg ho h.ok.ch, Fr.l ho⟩
theorem oh_charge (h : OH B W w b c k (chS s) s) : Calls Try.prog 17 #[.pointer (some ⟨c, 0, none⟩)] w (OdP B W b c (k + 1) (.int .i64 (chE s)) (chS s) w) := by
  refine (rcharge_any h.d h.ok).mono ?_
  rintro E w' ⟨he, hg, ho⟩
  exact ⟨he, h.opd hg ho, Fr.r ho⟩
theorem od_turn (h : OD B W w b c k s) (hk : k ≤ 1000000) (t : Int) : Calls Try.prog 25 #[.pointer (some ⟨b, 0, none⟩), .int .i64 t] w (OhP B W b c k (.tuple #[.bool (tuB s t), .int .i64 (tuE s t)]) (tuS s t) s w) := by
  refine (turn_any h.g h.ok hk t).mono ?_
  rintro E w' ⟨he, hg, ho⟩
  exact ⟨he, h.opg hg ho (h.ok.tu t), Fr.l ho⟩
theorem oh_turn (hk : k ≤ 1000000) {t : Int} (h : OH B W w b c k (tuS s t) s) : Calls Try.prog 29 #[.pointer (some ⟨c, 0, none⟩), .int .i64 t] w (OdP B W b c (k + 1) (.tuple #[.bool (tuB s t), .int .i64 (tuE s t)]) (tuS s t) w) := by
  refine (rturn_any h.d h.ok hk t).mono ?_
  rintro E w' ⟨he, hg, ho⟩
  exact ⟨he, h.opd hg ho, Fr.r ho⟩
theorem od_leave (h : OD B W w b c k s) : Calls Try.prog 24 #[.pointer (some ⟨b, 0, none⟩)] w (OhP B W b c k (.int .i64 (leE s)) (leS s) s w) := by
  refine (leave_any h.g h.ok).mono ?_
  rintro E w' ⟨he, hg, ho⟩
  exact ⟨he, h.opg hg ho h.ok.le, Fr.l ho⟩
theorem OE.below {w' : World} (h : OD B W w b c k s) (q : Below w.heap.size w w') : OD B W w' b c k s :=
  ⟨h.g.below q, h.d.keep (q.block c h.d.lt), h.ok', h.ok, h.hb, h.bel.trans (q.mono (Nat.le_trans h.hb.1 (Nat.le_of_lt h.g.lt)))⟩
theorem OE.alloc (h : OD B W w b c k s) (o : Obj) : OD B W (w.alloc o) b c k s := h.below (below_al w o)
theorem OE.drewN (h : OD B W w b c k s) (n : Nat) : OD B W (w.drewN n) b c k s :=
  ⟨h.g.below (bdn w n), h.d.keep ((bdn w n).block c h.d.lt), h.ok', h.ok, h.hb, h.bel.trans ((bdn w n).mono (Nat.le_trans h.hb.1 (Nat.le_of_lt h.g.lt)))⟩
theorem OE.drew (h : OD B W w b c k s) : OD B W w.drew b c k s := h.drewN 1
theorem OE.up (h : OD B W w b c k s) : OD B W w b c (k + 1) s := ⟨h.g, h.d, h.ok.up, h.ok.up, h.hb, h.bel⟩
end
theorem od_new {W w : World} {b : Nat} {B : Nat} {p q t : Int} (h : OG B W w b 0 (nwS p q t)) (hq : nwE p q t = 0) : Calls Try.prog 14 #[.int .i64 p, .int .i64 q, .int .i64 t] w (fun E w' => E = .returned (.tuple #[.pointer (some ⟨w.heap.size, 0, none⟩), .int .i64 0]) ∧ OD B W w' b w.heap.size 0 (nwS p q t)) := by
  refine (rnew_yes w hq).mono ?_
  rintro E w' ⟨he, hg, hb⟩
  have hl := h.g.lt
  have hB := h.hb
  exact ⟨he, h.g.below hb, hg, h.ok, h.ok, ⟨hB, by omega⟩, h.bel.trans (hb.mono (by omega))⟩
theorem beq_refl_int (x : Int) : (x == x) = true := by simp
theorem beq_refl_bool (x : Bool) : (x == x) = true := by simp
end Go.Proofs.Ytfjeoefnpcgnnaa.Pw
