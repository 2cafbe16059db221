/- Which configurations may be: conf.Check, over partitions in memory (chapter 5's texts, in a namespace of their own). -/
import Derived.Test.YtbdiekolkniajaaShaE
import Derived.StillTailTactics
import Derived.WalkMore
namespace Go.Proofs.Ytbdiekolkniajaa.Cm
open Go.RowKit
set_option linter.unusedVariables false


/-- a task: its eight numbers, in their order -/
structure Tk where
  (p d b l o g n k : Int)
def Tk.row (t : Tk) : List Int := [t.p, t.d, t.b, t.l, t.o, t.g, t.n, t.k]
def Tk.of (r : List Int) : Tk := ⟨r.getD 0 0, r.getD 1 0, r.getD 2 0, r.getD 3 0, r.getD 4 0, r.getD 5 0, r.getD 6 0, r.getD 7 0⟩
def tk0 : Tk := ⟨0, 0, 0, 0, 0, 0, 0, 0⟩
/-- a port: its six numbers -/
structure Po where
  (k f t s d a : Int)
def Po.row (o : Po) : List Int := [o.k, o.f, o.t, o.s, o.d, o.a]
def Po.of (r : List Int) : Po := ⟨r.getD 0 0, r.getD 1 0, r.getD 2 0, r.getD 3 0, r.getD 4 0, r.getD 5 0⟩
def po0 : Po := ⟨0, 0, 0, 0, 0, 0⟩
structure Pt where
  (per bud : Int)
  (ts : List Tk)
def pt0 : Pt := ⟨0, 0, []⟩
structure Cf where
  (ps : List Pt)
  (os : List Po)
def c0 : Cf := ⟨[], []⟩

/-! which may be -/
def wi (n l h : Int) : Bool := decide (l ≤ n) && decide (n ≤ h)
def mayTimes (t : Tk) : Bool := wi t.p 1 64 && wi t.d 1 t.p && wi t.b 1 t.d
def mayLocals (t : Tk) : Bool := if t.l = 0 then t.o == 0 else wi t.l 1 255 && wi t.o 1 t.b
def mayGlobal (t : Tk) (bud : Int) : Bool := if t.g = 0 then t.n == 0 && t.k == 0 else wi t.g 1 4 && wi t.n 1 bud && wi t.k 1 (t.b.tdiv t.n)
def mayTask (t : Tk) (bud : Int) : Bool := mayTimes t && mayLocals t && mayGlobal t bud
def mayServer (p : Pt) : Bool := wi p.per 1 64 && wi p.bud 1 p.per && decide (p.ts.length ≤ 4)
def mayPart (p : Pt) : Bool := mayServer p && p.ts.all (fun t => mayTask t p.bud)
def mayParts (ps : List Pt) : Bool := wi ps.length 1 4 && ps.all mayPart
def mayEnds (o : Po) (n : Int) : Bool := wi o.f 0 (n - 1) && wi o.t 0 (n - 1) && !(o.f == o.t)
def mayKept (o : Po) : Bool := if o.k = 1 then o.d == 0 && wi o.a 1 64 else if o.k = 2 then wi o.d 1 4 && o.a == 0 else false
def mayPort (o : Po) (n : Int) : Bool := mayEnds o n && wi o.s 1 16 && mayKept o
def mayPorts (os : List Po) (n : Int) : Bool := decide (os.length ≤ 8) && os.all (fun o => mayPort o n)
def may (c : Cf) : Bool := mayParts c.ps && mayPorts c.os c.ps.length



theorem wi_yes {n l h : Int} (k : wi n l h = true) : l ≤ n ∧ n ≤ h := by simpa [wi] using k
theorem mayTimes_yes {t : Tk} (h : mayTimes t = true) : 1 ≤ t.p ∧ t.p ≤ 64 ∧ 1 ≤ t.d ∧ t.d ≤ t.p ∧ 1 ≤ t.b ∧ t.b ≤ t.d := by
  unfold mayTimes at h
  simp only [Bool.and_eq_true] at h
  have h1 := wi_yes h.1.1; have h2 := wi_yes h.1.2; have h3 := wi_yes h.2
  omega
/-- structs of k numbers each, that can be read, at no block below B -/
def SS (w : World) (B k : Nat) (v : Value) (n : Nat) (z : Nat → List Int) : Prop :=
  ∃ a cap, v = .slice a n cap ∧ n ≤ cap ∧ cap ≤ maxLen ∧ (a = none → cap = 0) ∧
    (0 < n → ∃ b off, a = some ⟨b, off, none⟩ ∧ B ≤ b ∧ ∀ i, i < n → ∀ j, j < k → w.cell? ⟨b, off + i * k + j, none⟩ = some (.int .i64 ((z i).getD j 0)))
def TS (w : World) (B : Nat) (v : Value) (ts : List Tk) : Prop := SS w B 8 v ts.length (fun i => (ts.getD i tk0).row)
def OS (w : World) (B : Nat) (v : Value) (os : List Po) : Prop := SS w B 6 v os.length (fun i => (os.getD i po0).row)
/-- partitions, with their tasks -/
def PS (w : World) (B : Nat) (v : Value) (ps : List Pt) : Prop :=
  ∃ a cap, v = .slice a ps.length cap ∧ ps.length ≤ cap ∧ cap ≤ maxLen ∧ (a = none → cap = 0) ∧
    (0 < ps.length → ∃ b off, a = some ⟨b, off, none⟩ ∧ B ≤ b ∧ ∀ i, i < ps.length → w.cell? ⟨b, off + i * 3, none⟩ = some (.int .i64 (ps.getD i pt0).per) ∧
      w.cell? ⟨b, off + i * 3 + 1, none⟩ = some (.int .i64 (ps.getD i pt0).bud) ∧ ∃ tv, w.cell? ⟨b, off + i * 3 + 2, none⟩ = some tv ∧ TS w B tv (ps.getD i pt0).ts)
/-- a configuration -/
def CF (w : World) (B : Nat) (v : Value) (c : Cf) : Prop := ∃ pv ov, v = .agg #[pv, ov] ∧ PS w B pv c.ps ∧ OS w B ov c.os

/-- what cells at blocks from B on held they hold -/
def Kp (B : Nat) (w w' : World) : Prop := ∀ p x, B ≤ p.block → w.cell? p = some x → w'.cell? p = some x
theorem lt_of_cell {w : World} {p : Addr} {v : Value} (h : w.cell? p = some v) : p.block < w.heap.size := World.block_lt_of_cell? w p h
theorem Kp.below {B : Nat} {w w' : World} (b : Below w.heap.size w w') : Kp B w w' := fun p x _ hp => (b.cell (lt_of_cell hp)).trans hp
theorem SS.keep {w w' : World} {B k n : Nat} {v : Value} {z : Nat → List Int} (h : SS w B k v n z) (q : Kp B w w') : SS w' B k v n z := by
  obtain ⟨a, cap, h1, h2, h3, h4, h5⟩ := h
  exact ⟨a, cap, h1, h2, h3, h4, fun hn => by obtain ⟨b, off, e, hb, hc⟩ := h5 hn; exact ⟨b, off, e, hb, fun i hi j hj => q _ _ hb (hc i hi j hj)⟩⟩
theorem PS.keep {w w' : World} {B : Nat} {v : Value} {ps : List Pt} (h : PS w B v ps) (q : Kp B w w') : PS w' B v ps := by
  obtain ⟨a, cap, h1, h2, h3, h4, h5⟩ := h
  refine ⟨a, cap, h1, h2, h3, h4, fun hn => ?_⟩
  obtain ⟨b, off, e, hb, hc⟩ := h5 hn
  refine ⟨b, off, e, hb, fun i hi => ?_⟩
  obtain ⟨c1, c2, tv, c3, c4⟩ := hc i hi
  exact ⟨q _ _ hb c1, q _ _ hb c2, tv, q _ _ hb c3, c4.keep q⟩
theorem CF.keep {w w' : World} {B : Nat} {v : Value} {c : Cf} (h : CF w B v c) (q : Kp B w w') : CF w' B v c := by
  obtain ⟨pv, ov, h1, h2, h3⟩ := h; exact ⟨pv, ov, h1, h2.keep q, h3.keep q⟩
theorem TS.below {w w' : World} {B : Nat} {v : Value} {ts : List Tk} (h : TS w B v ts) (b : Below w.heap.size w w') : TS w' B v ts := SS.keep h (Kp.below b)
theorem OS.below {w w' : World} {B : Nat} {v : Value} {ts : List Po} (h : OS w B v ts) (b : Below w.heap.size w w') : OS w' B v ts := SS.keep h (Kp.below b)
theorem PS.below {w w' : World} {B : Nat} {v : Value} {ts : List Pt} (h : PS w B v ts) (b : Below w.heap.size w w') : PS w' B v ts := h.keep (Kp.below b)
theorem CF.below {w w' : World} {B : Nat} {v : Value} {c : Cf} (h : CF w B v c) (b : Below w.heap.size w w') : CF w' B v c := h.keep (Kp.below b)
theorem SS.mono {w : World} {B C k n : Nat} {v : Value} {z : Nat → List Int} (h : SS w B k v n z) (hC : C ≤ B) : SS w C k v n z := by
  obtain ⟨a, cap, h1, h2, h3, h4, h5⟩ := h
  exact ⟨a, cap, h1, h2, h3, h4, fun hn => by obtain ⟨b, off, e, hb, hc⟩ := h5 hn; exact ⟨b, off, e, by omega, hc⟩⟩
theorem TS.mono {w : World} {B C : Nat} {v : Value} {ts : List Tk} (h : TS w B v ts) (hC : C ≤ B) : TS w C v ts := SS.mono h hC
theorem OS.mono {w : World} {B C : Nat} {v : Value} {ts : List Po} (h : OS w B v ts) (hC : C ≤ B) : OS w C v ts := SS.mono h hC
theorem PS.mono {w : World} {B C : Nat} {v : Value} {ps : List Pt} (h : PS w B v ps) (hC : C ≤ B) : PS w C v ps := by
  obtain ⟨a, cap, h1, h2, h3, h4, h5⟩ := h
  refine ⟨a, cap, h1, h2, h3, h4, fun hn => ?_⟩
  obtain ⟨b, off, e, hb, hc⟩ := h5 hn
  refine ⟨b, off, e, by omega, fun i hi => ?_⟩
  obtain ⟨c1, c2, tv, c3, c4⟩ := hc i hi
  exact ⟨c1, c2, tv, c3, c4.mono hC⟩
theorem CF.mono {w : World} {B C : Nat} {v : Value} {c : Cf} (h : CF w B v c) (hC : C ≤ B) : CF w C v c := by
  obtain ⟨pv, ov, h1, h2, h3⟩ := h; exact ⟨pv, ov, h1, h2.mono hC, h3.mono hC⟩
theorem TS.nil (w : World) (B : Nat) : TS w B (.slice none 0 0) [] := ⟨none, 0, rfl, Nat.le_refl _, Nat.zero_le _, fun _ => rfl, fun h => by cases h⟩
theorem OS.nil (w : World) (B : Nat) : OS w B (.slice none 0 0) [] := ⟨none, 0, rfl, Nat.le_refl _, Nat.zero_le _, fun _ => rfl, fun h => by cases h⟩
theorem PS.nil (w : World) (B : Nat) : PS w B (.slice none 0 0) [] := ⟨none, 0, rfl, Nat.le_refl _, Nat.zero_le _, fun _ => rfl, fun h => by cases h⟩
theorem CF.zero (w : World) (B : Nat) : CF w B (.agg #[.slice none 0 0, .slice none 0 0]) c0 := ⟨_, _, rfl, PS.nil w B, OS.nil w B⟩
/-- the eight cells of a task -/
structure TC (w : World) (b o : Nat) (t : Tk) : Prop where
  c0 : w.cell? ⟨b, o, none⟩ = some (.int .i64 t.p)
  c1 : w.cell? ⟨b, o + 1, none⟩ = some (.int .i64 t.d)
  c2 : w.cell? ⟨b, o + 2, none⟩ = some (.int .i64 t.b)
  c3 : w.cell? ⟨b, o + 3, none⟩ = some (.int .i64 t.l)
  c4 : w.cell? ⟨b, o + 4, none⟩ = some (.int .i64 t.o)
  c5 : w.cell? ⟨b, o + 5, none⟩ = some (.int .i64 t.g)
  c6 : w.cell? ⟨b, o + 6, none⟩ = some (.int .i64 t.n)
  c7 : w.cell? ⟨b, o + 7, none⟩ = some (.int .i64 t.k)
/-- the six cells of a port -/
structure OC (w : World) (b o : Nat) (t : Po) : Prop where
  c0 : w.cell? ⟨b, o, none⟩ = some (.int .i64 t.k)
  c1 : w.cell? ⟨b, o + 1, none⟩ = some (.int .i64 t.f)
  c2 : w.cell? ⟨b, o + 2, none⟩ = some (.int .i64 t.t)
  c3 : w.cell? ⟨b, o + 3, none⟩ = some (.int .i64 t.s)
  c4 : w.cell? ⟨b, o + 4, none⟩ = some (.int .i64 t.d)
  c5 : w.cell? ⟨b, o + 5, none⟩ = some (.int .i64 t.a)
theorem TC.below {w w' : World} {b o : Nat} {t : Tk} (h : TC w b o t) (q : Below w.heap.size w w') : TC w' b o t := by
  have k : ∀ {p x}, w.cell? p = some x → w'.cell? p = some x := fun hp => (q.cell (lt_of_cell hp)).trans hp
  exact ⟨k h.c0, k h.c1, k h.c2, k h.c3, k h.c4, k h.c5, k h.c6, k h.c7⟩
theorem OC.below {w w' : World} {b o : Nat} {t : Po} (h : OC w b o t) (q : Below w.heap.size w w') : OC w' b o t := by
  have k : ∀ {p x}, w.cell? p = some x → w'.cell? p = some x := fun hp => (q.cell (lt_of_cell hp)).trans hp
  exact ⟨k h.c0, k h.c1, k h.c2, k h.c3, k h.c4, k h.c5⟩
theorem TS.at {w : World} {B n cap : Nat} {a : Option Addr} {ts : List Tk} (h : TS w B (.slice a n cap) ts) {i : Nat} (hi : i < n) : ∃ b off, a = some ⟨b, off, none⟩ ∧ B ≤ b ∧ TC w b (off + i * 8) (ts.getD i tk0) := by
  obtain ⟨a', cap', e, h1, h2, h3, h4⟩ := h
  obtain ⟨rfl, rfl, rfl⟩ : a = a' ∧ n = ts.length ∧ cap = cap' := by simpa using e
  obtain ⟨b, off, rfl, hb, hc⟩ := h4 (by omega)
  exact ⟨b, off, rfl, hb, hc i hi 0 (by decide), hc i hi 1 (by decide), hc i hi 2 (by decide), hc i hi 3 (by decide), hc i hi 4 (by decide), hc i hi 5 (by decide), hc i hi 6 (by decide), hc i hi 7 (by decide)⟩
theorem OS.at {w : World} {B n cap : Nat} {a : Option Addr} {os : List Po} (h : OS w B (.slice a n cap) os) {i : Nat} (hi : i < n) : ∃ b off, a = some ⟨b, off, none⟩ ∧ B ≤ b ∧ OC w b (off + i * 6) (os.getD i po0) := by
  obtain ⟨a', cap', e, h1, h2, h3, h4⟩ := h
  obtain ⟨rfl, rfl, rfl⟩ : a = a' ∧ n = os.length ∧ cap = cap' := by simpa using e
  obtain ⟨b, off, rfl, hb, hc⟩ := h4 (by omega)
  exact ⟨b, off, rfl, hb, hc i hi 0 (by decide), hc i hi 1 (by decide), hc i hi 2 (by decide), hc i hi 3 (by decide), hc i hi 4 (by decide), hc i hi 5 (by decide)⟩
theorem PS.at {w : World} {B n cap : Nat} {a : Option Addr} {ps : List Pt} (h : PS w B (.slice a n cap) ps) {i : Nat} (hi : i < n) : ∃ b off tv, a = some ⟨b, off, none⟩ ∧ B ≤ b ∧ w.cell? ⟨b, off + i * 3, none⟩ = some (.int .i64 (ps.getD i pt0).per) ∧
    w.cell? ⟨b, off + i * 3 + 1, none⟩ = some (.int .i64 (ps.getD i pt0).bud) ∧ w.cell? ⟨b, off + i * 3 + 2, none⟩ = some tv ∧ TS w B tv (ps.getD i pt0).ts := by
  obtain ⟨a', cap', e, h1, h2, h3, h4⟩ := h
  obtain ⟨rfl, rfl, rfl⟩ : a = a' ∧ n = ps.length ∧ cap = cap' := by simpa using e
  obtain ⟨b, off, rfl, hb, hc⟩ := h4 (by omega)
  obtain ⟨c1, c2, tv, c3, c4⟩ := hc i hi
  exact ⟨b, off, tv, rfl, hb, c1, c2, c3, c4⟩
theorem SS.slice {w : World} {B k n : Nat} {v : Value} {z : Nat → List Int} (h : SS w B k v n z) : ∃ a cap, v = .slice a n cap ∧ n ≤ cap ∧ cap ≤ maxLen := by obtain ⟨a, cap, h1, h2, h3, _⟩ := h; exact ⟨a, cap, h1, h2, h3⟩
theorem TS.slice {w : World} {B : Nat} {v : Value} {ts : List Tk} (h : TS w B v ts) : ∃ a cap, v = .slice a ts.length cap ∧ ts.length ≤ cap ∧ cap ≤ maxLen := SS.slice h
theorem OS.slice {w : World} {B : Nat} {v : Value} {ts : List Po} (h : OS w B v ts) : ∃ a cap, v = .slice a ts.length cap ∧ ts.length ≤ cap ∧ cap ≤ maxLen := SS.slice h
theorem PS.slice {w : World} {B : Nat} {v : Value} {ps : List Pt} (h : PS w B v ps) : ∃ a cap, v = .slice a ps.length cap ∧ ps.length ≤ cap ∧ cap ≤ maxLen := by obtain ⟨a, cap, h1, h2, h3, _⟩ := h; exact ⟨a, cap, h1, h2, h3⟩
/-- a task, a port as a value -/
def tkv (t : Tk) : Value := .agg #[.int .i64 t.p, .int .i64 t.d, .int .i64 t.b, .int .i64 t.l, .int .i64 t.o, .int .i64 t.g, .int .i64 t.n, .int .i64 t.k]
def pov (o : Po) : Value := .agg #[.int .i64 o.k, .int .i64 o.f, .int .i64 o.t, .int .i64 o.s, .int .i64 o.d, .int .i64 o.a]
/-- a bool, a number is answered; what was there is as it was -/
def YB (b : Bool) (w : World) (e : Ending) (w' : World) : Prop := e = .returned (.bool b) ∧ Below w.heap.size w w'
def YI (n : Int) (w : World) (e : Ending) (w' : World) : Prop := e = .returned (.int .i64 n) ∧ Below w.heap.size w w'
theorem chn {w w1 w2 : World} (h : Below w.heap.size w w1) (k : Below w1.heap.size w1 w2) : Below w.heap.size w w2 := h.trans (k.mono h.size)

def IsB (b : Bool) (w : World) (e : Ending) (w' : World) : Prop := e = .returned (.bool b) ∧ w = w'


theorem within_any (n l h : Int) (w : World) : Calls Try.prog 41 #[.int .i64 n, .int .i64 l, .int .i64 h] w (IsB (wi n l h) w) := by
  unfold wi
  cases h0 : decide (l ≤ n) with
  | false =>
    go_enter Try.func41, Try.ntmps41
    go_wp2
    go_ret
    exact ⟨by simp, rfl⟩
  | true =>
    go_enter Try.func41, Try.ntmps41
    go_wp2
    go_ret
    exact ⟨by simp, rfl⟩

theorem within_fit {n l h : Int} {r : Bool} (hr : wi n l h = r) (w : World) : Calls Try.prog 41 #[.int .i64 n, .int .i64 l, .int .i64 h] w (fun e w' => e = .returned (.bool r) ∧ w' = w) := by subst hr; exact (within_any n l h w).mono fun _ _ h => ⟨h.1, h.2.symm⟩

set_option maxHeartbeats 1000000 in
theorem times_any (t : Tk) (w : World) : Calls Try.prog 62 #[tkv t] w (YB (mayTimes t) w) := by
  obtain ⟨p, d, b, l, o, g, n, k⟩ := t
  unfold mayTimes tkv
  dsimp only
  have H1 := Lib.hid (within_any p 1 64); have H2 := Lib.hid (within_any d 1 p); have H3 := Lib.hid (within_any b 1 d)
  generalize wi p 1 64 = x1 at *
  generalize wi d 1 p = x2 at *
  generalize wi b 1 d = x3 at *
  cases x1 with
  | false =>
    go_enter Try.func62, Try.ntmps62
    go_wp2_with fail
    refine (H1.out _).mono ?_
    rintro e w1 ⟨rfl, rfl⟩
    go_wp2_with fail
    go_ret
    exact ⟨by simp, (Below.refl _ w).alloc (Nat.le_refl _) _⟩
  | true =>
    cases x2 with
    | false =>
      go_enter Try.func62, Try.ntmps62
      go_wp2_with fail
      refine (H1.out _).mono ?_
      rintro e w1 ⟨rfl, rfl⟩
      go_wp2_with fail
      refine (H2.out _).mono ?_
      rintro e w1 ⟨rfl, rfl⟩
      go_wp2_with fail
      go_ret
      exact ⟨by simp, (Below.refl _ w).alloc (Nat.le_refl _) _⟩
    | true =>
      go_enter Try.func62, Try.ntmps62
      go_wp2_with fail
      refine (H1.out _).mono ?_
      rintro e w1 ⟨rfl, rfl⟩
      go_wp2_with fail
      refine (H2.out _).mono ?_
      rintro e w1 ⟨rfl, rfl⟩
      go_wp2_with fail
      refine (H3.out _).mono ?_
      rintro e w1 ⟨rfl, rfl⟩
      go_wp2_with fail
      go_ret
      exact ⟨by simp, (Below.refl _ w).alloc (Nat.le_refl _) _⟩

set_option maxHeartbeats 1000000 in
theorem locals_any (t : Tk) (w : World) : Calls Try.prog 63 #[tkv t] w (YB (mayLocals t) w) := by
  obtain ⟨p, d, b, l, o, g, n, k⟩ := t
  unfold mayLocals tkv
  dsimp only
  cases h0 : l == 0 with
  | true =>
    rw [if_pos (by simpa using h0)]
    go_enter Try.func63, Try.ntmps63
    go_wp2_with fail
    go_ret
    exact ⟨by simp, (Below.refl _ w).alloc (Nat.le_refl _) _⟩
  | false =>
    rw [if_neg (by simpa using h0)]
    have H1 := Lib.hid (within_any l 1 255); have H2 := Lib.hid (within_any o 1 b)
    generalize wi l 1 255 = x1 at *
    generalize wi o 1 b = x2 at *
    cases x1 with
    | false =>
      go_enter Try.func63, Try.ntmps63
      go_wp2_with fail
      refine (H1.out _).mono ?_
      rintro e w1 ⟨rfl, rfl⟩
      go_wp2_with fail
      go_ret
      exact ⟨by simp, (Below.refl _ w).alloc (Nat.le_refl _) _⟩
    | true =>
      go_enter Try.func63, Try.ntmps63
      go_wp2_with fail
      refine (H1.out _).mono ?_
      rintro e w1 ⟨rfl, rfl⟩
      go_wp2_with fail
      refine (H2.out _).mono ?_
      rintro e w1 ⟨rfl, rfl⟩
      go_wp2_with fail
      go_ret
      exact ⟨by simp, (Below.refl _ w).alloc (Nat.le_refl _) _⟩

/-- the cells of a task that a call has boxed -/
structure TZ (w : World) (b : Nat) (t : Tk) : Prop where
  z0 : w.cell? ⟨b, 0, none⟩ = some (.int .i64 t.p)
  z1 : w.cell? ⟨b, 1, none⟩ = some (.int .i64 t.d)
  z2 : w.cell? ⟨b, 2, none⟩ = some (.int .i64 t.b)
  z3 : w.cell? ⟨b, 3, none⟩ = some (.int .i64 t.l)
  z4 : w.cell? ⟨b, 4, none⟩ = some (.int .i64 t.o)
  z5 : w.cell? ⟨b, 5, none⟩ = some (.int .i64 t.g)
  z6 : w.cell? ⟨b, 6, none⟩ = some (.int .i64 t.n)
  z7 : w.cell? ⟨b, 7, none⟩ = some (.int .i64 t.k)
def tkc (t : Tk) : Array Value := #[.int .i64 t.p, .int .i64 t.d, .int .i64 t.b, .int .i64 t.l, .int .i64 t.o, .int .i64 t.g, .int .i64 t.n, .int .i64 t.k]
theorem tz_of {w : World} {b : Nat} {t : Tk} (h : w.heap[b]? = some (.cells (tkc t) 40 (0, 0))) : TZ w b t :=
  ⟨cell_of_row w b 0 _ _ _ h, cell_of_row w b 1 _ _ _ h, cell_of_row w b 2 _ _ _ h, cell_of_row w b 3 _ _ _ h, cell_of_row w b 4 _ _ _ h, cell_of_row w b 5 _ _ _ h, cell_of_row w b 6 _ _ _ h, cell_of_row w b 7 _ _ _ h⟩
theorem tz_box {w w' : World} {t : Tk} (b : Below (w.alloc (.cells (tkc t) 40)).heap.size (w.alloc (.cells (tkc t) 40)) w') : TZ w' w.heap.size t :=
  tz_of ((b.block _ (by simp)).trans (heap_alloc_new w _))
theorem TZ.below {w w' : World} {b : Nat} {t : Tk} (h : TZ w b t) (q : Below w.heap.size w w') : TZ w' b t := by
  have k : ∀ {p x}, w.cell? p = some x → w'.cell? p = some x := fun hp => (q.cell (lt_of_cell hp)).trans hp
  exact ⟨k h.z0, k h.z1, k h.z2, k h.z3, k h.z4, k h.z5, k h.z6, k h.z7⟩

theorem below_drewN {B : Nat} {a b : World} (h : Below B a b) (n : Nat) : Below B a (b.drewN n) := ⟨h.os, h.tape, h.output, h.size, h.block⟩
set_option maxHeartbeats 1000000 in
theorem global_any (t : Tk) (bud : Int) (w : World) (h : mayTimes t = true) : Calls Try.prog 64 #[tkv t, .int .i64 bud] w (YB (mayGlobal t bud) w) := by
  have ht := mayTimes_yes h
  clear h
  have BX := tz_of (heap_alloc_new w (.cells (tkc t) 40))
  obtain ⟨p, d, b, l, o, g, n, k⟩ := t
  unfold mayGlobal tkv
  dsimp only [tkc] at ht BX ⊢
  obtain ⟨z0, z1, z2, z3, z4, z5, z6, z7⟩ := BX
  dsimp only at z0 z1 z2 z3 z4 z5 z6 z7
  cases h0 : g == 0 with
  | true =>
    rw [if_pos (by simpa using h0)]
    cases h1 : n == 0 with
    | false =>
      go_enter Try.func64, Try.ntmps64
      go_wp2_with fail
      go_ret
      exact ⟨by simp, (Below.refl _ w).alloc (Nat.le_refl _) _⟩
    | true =>
      go_enter Try.func64, Try.ntmps64
      go_wp2_with fail
      go_ret
      exact ⟨by simp, (Below.refl _ w).alloc (Nat.le_refl _) _⟩
  | false =>
    rw [if_neg (by simpa using h0)]
    cases x1 : wi g 1 4 with
    | false =>
      go_enter Try.func64, Try.ntmps64
      go_wp2_with fail
      go_quiet ((go_at_call 41; exact Calls.quiet_of_same (within_fit (by assumption) _)))
      go_wp2_with fail
      go_ret
      exact ⟨by simp, below_drewN ((Below.refl _ w).alloc (Nat.le_refl _) _) _⟩
    | true =>
      cases x2 : wi n 1 bud with
      | false =>
        go_enter Try.func64, Try.ntmps64
        go_wp2_with fail
        go_quiet ((go_at_call 41; exact Calls.quiet_of_same (within_fit (by assumption) _)))
        go_wp2_with fail
        go_ret
        exact ⟨by simp, below_drewN ((Below.refl _ w).alloc (Nat.le_refl _) _) _⟩
      | true =>
        have hn := (wi_yes x2).1
        have hz : (n == 0) = false := by simp; omega
        have hq1 : b.tdiv n ≤ b := Int.tdiv_le_self _ (by omega)
        have hq2 : 0 ≤ b.tdiv n := Int.tdiv_nonneg (by omega) (by omega)
        have hw : wrap64 (b.tdiv n) = b.tdiv n := by unfold wrap64; omega
        have hw2 : IntKind.i64.wrap (b.tdiv n) = b.tdiv n := by simp [IntKind.wrap, IntKind.bits, IntKind.signed]; omega
        obtain ⟨x3v, x3⟩ : ∃ v, wi k 1 (b.tdiv n) = v := ⟨_, rfl⟩
        rw [x3]
        clear hq1 hq2
        go_enter Try.func64, Try.ntmps64
        go_wp2_with fail
        go_quiet ((go_at_call 41; exact Calls.quiet_of_same (within_fit (by assumption) _)))
        go_wp2_with fail
        go_ret
        exact ⟨by simp, below_drewN ((Below.refl _ w).alloc (Nat.le_refl _) _) _⟩

set_option maxHeartbeats 1000000 in
theorem task_any (t : Tk) (bud : Int) (w : World) : Calls Try.prog 43 #[tkv t, .int .i64 bud] w (YB (mayTask t bud) w) := by
  unfold mayTask
  have H1 := Lib.hid (times_any t); have H2 := Lib.hid (locals_any t); have H3 := Lib.hid (global_any t bud)
  generalize mayTimes t = x1 at *
  generalize mayLocals t = x2 at *
  generalize mayGlobal t bud = x3 at *
  have BX := Lib.hid (fun w' => tz_box (w := w) (w' := w') (t := t))
  obtain ⟨p, d, b, l, o, g, n, k⟩ := t
  unfold tkv at *
  dsimp only [tkc] at *
  cases x1 with
  | false =>
    go_enter Try.func43, Try.ntmps43
    go_wp2_with fail
    refine (H1.out _).mono ?_
    rintro e w1 ⟨rfl, hb1⟩
    have HB1 := Lib.hid (((Below.refl _ w).alloc (Nat.le_refl _) _).trans (hb1.mono (by simp)))
    clear hb1
    go_wp2_with fail
    go_ret
    exact ⟨rfl, HB1.out⟩
  | true =>
    cases x2 with
    | false =>
      go_enter Try.func43, Try.ntmps43
      go_wp2_with fail
      refine (H1.out _).mono ?_
      rintro e w1 ⟨rfl, hb1⟩
      obtain ⟨z0, z1, z2, z3, z4, z5, z6, z7⟩ := BX.out _ hb1
      have HB1 := Lib.hid (((Below.refl _ w).alloc (Nat.le_refl _) _).trans (hb1.mono (by simp)))
      clear hb1
      go_wp2_with fail
      refine (H2.out _).mono ?_
      rintro e w2 ⟨rfl, hb2⟩
      have HB2 := Lib.hid (chn HB1.out hb2)
      clear hb2
      go_wp2_with fail
      go_ret
      exact ⟨rfl, HB2.out⟩
    | true =>
      go_enter Try.func43, Try.ntmps43
      go_wp2_with fail
      refine (H1.out _).mono ?_
      rintro e w1 ⟨rfl, hb1⟩
      have TT := BX.out _ hb1
      have HT := Lib.hid TT
      obtain ⟨z0, z1, z2, z3, z4, z5, z6, z7⟩ := TT
      have HB1 := Lib.hid (((Below.refl _ w).alloc (Nat.le_refl _) _).trans (hb1.mono (by simp)))
      clear hb1
      go_wp2_with fail
      refine (H2.out _).mono ?_
      rintro e w2 ⟨rfl, hb2⟩
      clear z0 z1 z2 z3 z4 z5 z6 z7
      obtain ⟨z0, z1, z2, z3, z4, z5, z6, z7⟩ := HT.out.below hb2
      have HB2 := Lib.hid (chn HB1.out hb2)
      clear hb2
      go_wp2_with fail
      refine (H3.out _ trivial).mono ?_
      rintro e w3 ⟨rfl, hb3⟩
      have HB3 := Lib.hid (chn HB2.out hb3)
      clear hb3
      go_wp2_with fail
      go_ret
      exact ⟨by simp, HB3.out⟩

set_option maxHeartbeats 1000000 in
theorem server_any (per bud : Int) (a : Option Addr) (m cap : Nat) (w : World) (hm : m ≤ maxLen) : Calls Try.prog 42 #[.agg #[.int .i64 per, .int .i64 bud, .slice a m cap]] w (YB (wi per 1 64 && wi bud 1 per && decide (m ≤ 4)) w) := by
  have H1 := Lib.hid (within_any per 1 64); have H2 := Lib.hid (within_any bud 1 per)
  generalize wi per 1 64 = x1 at *
  generalize wi bud 1 per = x2 at *
  have hd : decide (m ≤ 4) = decide ((m : Int) ≤ 4) := by
    by_cases h : m ≤ 4
    · rw [decide_eq_true h, decide_eq_true (by omega)]
    · rw [decide_eq_false h, decide_eq_false (by omega)]
  have HD := Lib.hid hd
  clear hd
  cases x1 with
  | false =>
    go_enter Try.func42, Try.ntmps42
    go_wp2_with fail
    refine (H1.out _).mono ?_
    rintro e w1 ⟨rfl, rfl⟩
    go_wp2_with fail
    go_ret
    exact ⟨by simp, (Below.refl _ w).alloc (Nat.le_refl _) _⟩
  | true =>
    cases x2 with
    | false =>
      go_enter Try.func42, Try.ntmps42
      go_wp2_with fail
      refine (H1.out _).mono ?_
      rintro e w1 ⟨rfl, rfl⟩
      go_wp2_with fail
      refine (H2.out _).mono ?_
      rintro e w1 ⟨rfl, rfl⟩
      go_wp2_with fail
      go_ret
      exact ⟨by simp, (Below.refl _ w).alloc (Nat.le_refl _) _⟩
    | true =>
      go_enter Try.func42, Try.ntmps42
      go_wp2_with fail
      refine (H1.out _).mono ?_
      rintro e w1 ⟨rfl, rfl⟩
      go_wp2_with fail
      refine (H2.out _).mono ?_
      rintro e w1 ⟨rfl, rfl⟩
      go_wp2_with fail
      go_ret
      exact ⟨by rw [HD.out]; simp, (Below.refl _ w).alloc (Nat.le_refl _) _⟩

set_option maxHeartbeats 1000000 in
theorem ends_any (o : Po) (n : Int) (w : World) (h0 : 0 ≤ n) (h1 : n ≤ 9223372036854775807) : Calls Try.prog 44 #[pov o, .int .i64 n] w (YB (mayEnds o n) w) := by
  obtain ⟨k, f, t, s, d, a⟩ := o
  unfold mayEnds pov
  dsimp only
  have H1 := Lib.hid (within_any f 0 (n - 1)); have H2 := Lib.hid (within_any t 0 (n - 1))
  have hw : wrap64 (n - 1) = n - 1 := by unfold wrap64; omega
  generalize wi f 0 (n - 1) = x1 at *
  generalize wi t 0 (n - 1) = x2 at *
  clear h0 h1
  cases x1 with
  | false =>
    go_enter Try.func44, Try.ntmps44
    go_wp2_with fail
    refine (H1.out _).mono ?_
    rintro e w1 ⟨rfl, rfl⟩
    go_wp2_with fail
    go_ret
    exact ⟨by simp, (Below.refl _ w).alloc (Nat.le_refl _) _⟩
  | true =>
    cases x2 with
    | false =>
      go_enter Try.func44, Try.ntmps44
      go_wp2_with fail
      refine (H1.out _).mono ?_
      rintro e w1 ⟨rfl, rfl⟩
      go_wp2_with fail
      refine (H2.out _).mono ?_
      rintro e w1 ⟨rfl, rfl⟩
      go_wp2_with fail
      go_ret
      exact ⟨by simp, (Below.refl _ w).alloc (Nat.le_refl _) _⟩
    | true =>
      go_enter Try.func44, Try.ntmps44
      go_wp2_with fail
      refine (H1.out _).mono ?_
      rintro e w1 ⟨rfl, rfl⟩
      go_wp2_with fail
      refine (H2.out _).mono ?_
      rintro e w1 ⟨rfl, rfl⟩
      go_wp2_with fail
      go_ret
      exact ⟨by simp [bne], (Below.refl _ w).alloc (Nat.le_refl _) _⟩

set_option maxHeartbeats 1000000 in
theorem kept_any (o : Po) (w : World) : Calls Try.prog 45 #[pov o] w (YB (mayKept o) w) := by
  obtain ⟨k, f, t, s, d, a⟩ := o
  unfold mayKept pov
  dsimp only
  have H1 := Lib.hid (within_any a 1 64); have H2 := Lib.hid (within_any d 1 4)
  generalize wi a 1 64 = x1 at *
  generalize wi d 1 4 = x2 at *
  cases h1 : k == 1 with
  | true =>
    rw [if_pos (by simpa using h1)]
    cases h2 : d == 0 with
    | false =>
      go_enter Try.func45, Try.ntmps45
      go_wp2_with fail
      go_ret
      exact ⟨by simp, (Below.refl _ w).alloc (Nat.le_refl _) _⟩
    | true =>
      go_enter Try.func45, Try.ntmps45
      go_wp2_with fail
      refine (H1.out _).mono ?_
      rintro e w1 ⟨rfl, rfl⟩
      go_wp2_with fail
      go_ret
      exact ⟨by simp, (Below.refl _ w).alloc (Nat.le_refl _) _⟩
  | false =>
    rw [if_neg (by simpa using h1)]
    cases h2 : k == 2 with
    | true =>
      rw [if_pos (by simpa using h2)]
      cases x2 with
      | false =>
        go_enter Try.func45, Try.ntmps45
        go_wp2_with fail
        refine (H2.out _).mono ?_
        rintro e w1 ⟨rfl, rfl⟩
        go_wp2_with fail
        go_ret
        exact ⟨by simp, (Below.refl _ w).alloc (Nat.le_refl _) _⟩
      | true =>
        go_enter Try.func45, Try.ntmps45
        go_wp2_with fail
        refine (H2.out _).mono ?_
        rintro e w1 ⟨rfl, rfl⟩
        go_wp2_with fail
        go_ret
        exact ⟨by simp, (Below.refl _ w).alloc (Nat.le_refl _) _⟩
    | false =>
      rw [if_neg (by simpa using h2)]
      go_enter Try.func45, Try.ntmps45
      go_wp2_with fail
      go_ret
      exact ⟨by simp, (Below.refl _ w).alloc (Nat.le_refl _) _⟩
end Go.Proofs.Ytbdiekolkniajaa.Cm

namespace Go.Proofs.Ytbdiekolkniajaa.Cm
open Go.RowKit
set_option linter.unusedVariables false


theorem all_snoc {α : Type} {l : List α} {d : α} {f : α → Bool} {k : Nat} (hk : k < l.length) (h : (l.take k).all f = true) (hn : f (l.getD k d) = true) : (l.take (k + 1)).all f = true := by
  have e : l.take (k + 1) = l.take k ++ [l.getD k d] := by
    rw [List.take_add_one]
    simp [List.getElem?_eq_getElem hk, List.getD]
  rw [e, List.all_append, h]; simp only [List.all_cons, hn, List.all_nil]; rfl
theorem all_no {α : Type} {l : List α} {d : α} {f : α → Bool} {k : Nat} (hk : k < l.length) (hn : f (l.getD k d) = false) : l.all f = false := by
  rw [List.all_eq_false]
  refine ⟨l[k], List.getElem_mem hk, ?_⟩
  have e : l.getD k d = l[k] := by simp [List.getElem?_eq_getElem hk, List.getD]
  rw [← e, hn]; decide
theorem server_fit {p : Pt} {x : Bool} (h : mayServer p = x) (a : Option Addr) (cap : Nat) (w : World) (hm : p.ts.length ≤ maxLen) : Calls Try.prog 42 #[.agg #[.int .i64 p.per, .int .i64 p.bud, .slice a p.ts.length cap]] w (YB x w) := by
  subst h; exact server_any p.per p.bud a p.ts.length cap w hm
/-- the cells of a partition that a call has boxed -/
theorem pz_of {w : World} {b : Nat} {x y z : Value} {t : TypeId} (h : w.heap[b]? = some (.cells #[x, y, z] t (0, 0))) : w.cell? ⟨b, 0, none⟩ = some x ∧ w.cell? ⟨b, 1, none⟩ = some y ∧ w.cell? ⟨b, 2, none⟩ = some z :=
  ⟨cell_of_row w b 0 _ _ _ h, cell_of_row w b 1 _ _ _ h, cell_of_row w b 2 _ _ _ h⟩

set_option maxHeartbeats 2000000 in
theorem parts_any {w : World} {B : Nat} {v : Value} {ps : List Pt} (h : PS w B v ps) : Calls Try.prog 27 #[v] w (YB (mayParts ps) w) := by
  obtain ⟨a, cap, rfl, hn1, hn2⟩ := h.slice
  obtain ⟨n, hn⟩ : ∃ n, n = ps.length := ⟨_, rfl⟩
  rw [← hn] at h hn1 ⊢
  have HP := Lib.hid h; have HN := Lib.hid hn
  clear h
  have H1 := Lib.hid (within_any (n : Int) 1 4)
  cases hx : wi (n : Int) 1 4 with
  | false =>
    rw [hx] at H1
    have HF : Hid (mayParts ps = false) := by unfold mayParts; rw [← hn, hx]; rfl
    clear hx hn
    go_enter Try.func27, Try.ntmps27
    go_wp2_with fail
    go_step3
    go_wp2_with fail
    refine (H1.out _).mono ?_
    rintro e w1 ⟨rfl, rfl⟩
    go_wp2_with fail
    try rw [Exit.noGoto_ret]
    go_ret
    exact ⟨by rw [HF.out]; rfl, Below.refl _ _⟩
  | true =>
    rw [hx] at H1
    have hr := wi_yes hx
    have HY : Hid (ps.all mayPart = true → mayParts ps = true) := fun ha => by unfold mayParts; rw [← hn, hx, ha]; rfl
    have HNO : Hid (ps.all mayPart = false → mayParts ps = false) := fun ha => by unfold mayParts; rw [ha]; simp
    clear hx hn
    go_enter Try.func27, Try.ntmps27
    go_wp2_with fail
    go_step3
    go_wp2_with fail
    refine (H1.out _).mono ?_
    rintro e w1 ⟨rfl, rfl⟩
    go_wp2_with fail
    go_step3
    go_wp2_with fail
    clear H1
    go_loopw [3, 15] (fun sv i wr => ∃ k : Nat, k ≤ n ∧ sv = .bool true ∧ i = .int .i64 k ∧ Hid ((ps.take k).all mayPart = true) ∧ Hid (Below w.heap.size w wr)) (fun _ i _ => n - (intOf i).toNat)
    case atStart => exact ⟨0, by omega, rfl, rfl, by simp [Hid], Below.refl _ _⟩
    case round =>
      obtain ⟨k, hk, rfl, rfl, HA, HB⟩ := hrel
      by_cases hlt : k < n
      · obtain ⟨b, off, tv, rfl, _, c1, c2, c3, hts⟩ := (HP.out.below HB.out).at hlt
        obtain ⟨p, hp⟩ : ∃ p, p = ps.getD k pt0 := ⟨_, rfl⟩
        rw [← hp] at c1 c2 hts
        obtain ⟨ta, tcap, rfl, t1, t2⟩ := hts.slice
        have hkl : k < ps.length := by have := HN.out; omega
        have HPN : Hid (mayPart p = false → ps.all mayPart = false) := fun hf => all_no hkl (by rw [← hp]; exact hf)
        have HPY : Hid (mayPart p = true → (ps.take (k + 1)).all mayPart = true) := fun hf => all_snoc hkl HA.out (by rw [← hp]; exact hf)
        have hlm : p.ts.length ≤ maxLen := by omega
        obtain ⟨x, hx⟩ : ∃ x, mayServer p = x := ⟨_, rfl⟩
        have HS := Lib.hid (fun w' => server_fit hx ta tcap w' hlm)
        have HX := Lib.hid hx
        clear hp hkl HA hx hlm
        obtain ⟨per, bud, ts⟩ := p
        dsimp only at c1 c2 hts HS t1 c3
        obtain ⟨m, hm⟩ : ∃ m, m = ts.length := ⟨_, rfl⟩
        rw [← hm] at c3 hts t1 HS
        have HTS := Lib.hid hts; have HM := Lib.hid hm
        clear hts hm
        go_wp2_with fail
        refine (HS.out _).mono ?_
        rintro e w1 ⟨rfl, hb1⟩
        have BX := Lib.hid ((hb1.block _ (by simp)).trans (heap_alloc_new wr _))
        have HBA := (Below.refl wr.heap.size wr).alloc (Nat.le_refl _) (.cells #[.int .i64 per, .int .i64 bud, .slice ta m tcap] 43)
        have HB1 := Lib.hid (HB.out.trans ((HBA.trans (hb1.mono (by simp))).mono HB.out.size))
        have HT1 := Lib.hid (HTS.out.below (HBA.trans (hb1.mono (by simp))))
        clear hb1 HBA HTS HB c1 c2 c3
        obtain ⟨z0, z1, z2⟩ := pz_of BX.out
        cases x with
        | false =>
          have HF : Hid (mayParts ps = false) := HNO.out (HPN.out (by unfold mayPart; rw [HX.out]; rfl))
          go_wp2_with fail
          try rw [Exit.noGoto_ret]
          go_ret
          exact ⟨by rw [HF.out]; rfl, HB1.out⟩
        | true =>
          go_wp2_with fail
          go_loopw [3, 26] (fun sv i wq => ∃ j : Nat, j ≤ m ∧ sv = .bool true ∧ i = .int .i64 j ∧ Hid ((ts.take j).all (fun t => mayTask t bud) = true) ∧ Hid (Below w1.heap.size w1 wq)) (fun _ i _ => m - (intOf i).toNat)
          case atStart => exact ⟨0, by omega, rfl, rfl, by simp [Hid], Below.refl _ _⟩
          case round =>
            clear z0 z1 z2
            obtain ⟨j, hj, rfl, rfl, HAj, HBj⟩ := hrel
            have hmx : m ≤ 9223372036854775807 := by unfold maxLen at t2; omega
            by_cases hjm : j < m
            · obtain ⟨tb, toff, rfl, _, d0, d1, d2, d3, d4, d5, d6, d7⟩ := (HT1.out.below HBj.out).at hjm
              obtain ⟨z0, z1, z2⟩ := pz_of ((HBj.out.block _ (Array.getElem?_eq_some_iff.1 BX.out).1).trans BX.out)
              have y1 := fun o => ((Below.refl wr.heap.size wr).alloc (Nat.le_refl _) o).cell (lt_of_cell z1) |>.trans z1
              have hjl : j < ts.length := by have := HM.out; omega
              obtain ⟨t, ht⟩ : ∃ t, t = ts.getD j tk0 := ⟨_, rfl⟩
              rw [← ht] at d0 d1 d2 d3 d4 d5 d6 d7
              obtain ⟨x, hx⟩ : ∃ x, mayTask t bud = x := ⟨_, rfl⟩
              have HTK := Lib.hid (fun w' => task_any t bud w')
              rw [hx] at HTK
              have HTN : Hid (x = false → ts.all (fun t => mayTask t bud) = false) := fun hf => all_no (d := tk0) hjl (by rw [← ht, hx]; exact hf)
              have HTY : Hid (x = true → (ts.take (j + 1)).all (fun t => mayTask t bud) = true) := fun hf => all_snoc (d := tk0) hjl HAj.out (by rw [← ht, hx]; exact hf)
              clear ht hx hjl HAj
              obtain ⟨q0, q1, q2, q3, q4, q5, q6, q7⟩ := t
              unfold tkv at HTK
              dsimp only at d0 d1 d2 d3 d4 d5 d6 d7 HTK
              go_wp2_with fail
              refine (HTK.out _).mono ?_
              rintro e w2 ⟨rfl, hb2⟩
              have HBQ := Lib.hid (HBj.out.trans ((((Below.refl wr.heap.size wr).alloc (Nat.le_refl _) _).trans (hb2.mono (by simp))).mono HBj.out.size))
              clear hb2 HBj d0 d1 d2 d3 d4 d5 d6 d7 z0 z1 z2 y1
              cases x with
              | false =>
                have HF : Hid (mayParts ps = false) := HNO.out (HPN.out (by unfold mayPart; rw [HTN.out (by simp)]; simp))
                have HB2 := Lib.hid (HB1.out.trans (HBQ.out.mono HB1.out.size))
                go_wp2_with fail
                try rw [Exit.noGoto_ret]
                go_ret
                exact ⟨by rw [HF.out]; rfl, HB2.out⟩
              | true =>
                go_wp2_with fail
                go_roundw
                case rel => exact ⟨j + 1, by omega, rfl, by go_num, HTY.out (by simp), HBQ⟩
                case measure => simp [intOf]; omega
            · have e : j = m := by omega
              subst e
              have HF : Hid ((ps.take (k + 1)).all mayPart = true) := HPY.out (by
                have := HAj.out
                rw [HM.out, List.take_length] at this
                unfold mayPart; rw [HX.out, this]; rfl)
              have HB2 := Lib.hid (HB1.out.trans (HBj.out.mono HB1.out.size))
              clear HAj HBj
              go_wp2_with fail
              go_roundw
              case rel => exact ⟨k + 1, by omega, rfl, by go_num, HF, HB2⟩
              case measure => simp [intOf]; omega
      · have e : k = n := by omega
        subst e
        have HF : Hid (mayParts ps = true) := HY.out (by have := HA.out; rwa [HN.out, List.take_length] at this)
        clear HA
        go_wp2_with fail
        try rw [Exit.noGoto_ret]
        go_ret
        exact ⟨by rw [HF.out]; rfl, HB.out⟩

/-- the cells of a port that a call has boxed -/
theorem oz_of {w : World} {b : Nat} {x0 x1 x2 x3 x4 x5 : Value} {t : TypeId} (h : w.heap[b]? = some (.cells #[x0, x1, x2, x3, x4, x5] t (0, 0))) : w.cell? ⟨b, 0, none⟩ = some x0 ∧ w.cell? ⟨b, 1, none⟩ = some x1 ∧ w.cell? ⟨b, 2, none⟩ = some x2 ∧ w.cell? ⟨b, 3, none⟩ = some x3 ∧ w.cell? ⟨b, 4, none⟩ = some x4 ∧ w.cell? ⟨b, 5, none⟩ = some x5 :=
  ⟨cell_of_row w b 0 _ _ _ h, cell_of_row w b 1 _ _ _ h, cell_of_row w b 2 _ _ _ h, cell_of_row w b 3 _ _ _ h, cell_of_row w b 4 _ _ _ h, cell_of_row w b 5 _ _ _ h⟩

set_option maxHeartbeats 2000000 in
theorem ports_any {w : World} {B : Nat} {v : Value} {os : List Po} (h : OS w B v os) (N : Nat) (hN : N ≤ maxLen) : Calls Try.prog 28 #[v, .int .i64 N] w (YB (mayPorts os N) w) := by
  obtain ⟨a, cap, rfl, hn1, hn2⟩ := h.slice
  obtain ⟨n, hn⟩ : ∃ n, n = os.length := ⟨_, rfl⟩
  rw [← hn] at h hn1 ⊢
  have HP := Lib.hid h; have HN := Lib.hid hn
  clear h
  cases hx : decide ((n : Int) > 8) with
  | true =>
    have HF : Hid (mayPorts os N = false) := by unfold mayPorts; rw [← hn, decide_eq_false (by have := of_decide_eq_true hx; omega)]; rfl
    clear hn
    go_enter Try.func28, Try.ntmps28
    go_wp2_with fail
    go_ret
    exact ⟨by rw [HF.out]; rfl, Below.refl _ _⟩
  | false =>
    have h8 := of_decide_eq_false hx
    have HY : Hid (os.all (fun o => mayPort o N) = true → mayPorts os N = true) := fun ha => by unfold mayPorts; rw [← hn, decide_eq_true (by omega), ha]; rfl
    have HNO : Hid (os.all (fun o => mayPort o N) = false → mayPorts os N = false) := fun ha => by unfold mayPorts; rw [ha]; simp
    clear hn h8
    go_enter Try.func28, Try.ntmps28
    go_wp2_with fail
    go_loopw [12] (fun i wr => ∃ k : Nat, k ≤ n ∧ i = .int .i64 k ∧ Hid ((os.take k).all (fun o => mayPort o N) = true) ∧ Hid (Below w.heap.size w wr)) (fun i _ => n - (intOf i).toNat)
    case atStart => exact ⟨0, by omega, rfl, by simp [Hid], Below.refl _ _⟩
    case round =>
      obtain ⟨k, hk, rfl, HA, HB⟩ := hrel
      have hnx : n ≤ 9223372036854775807 := by unfold maxLen at hn2; omega
      by_cases hlt : k < n
      · obtain ⟨b, off, rfl, _, d0, d1, d2, d3, d4, d5⟩ := (HP.out.below HB.out).at hlt
        have hkl : k < os.length := by have := HN.out; omega
        obtain ⟨o, ho⟩ : ∃ o, o = os.getD k po0 := ⟨_, rfl⟩
        rw [← ho] at d0 d1 d2 d3 d4 d5
        have H1 := Lib.hid (fun w' : World => ends_any o (N : Int) w' (Int.natCast_nonneg N) (by unfold maxLen at hN; exact Int.ofNat_le.2 hN))
        have H2 := Lib.hid (within_any o.s 1 16)
        have H3 := Lib.hid (kept_any o)
        have HPN : Hid (mayPort o N = false → mayPorts os N = false) := fun hf => HNO.out (all_no (d := po0) hkl (by rw [← ho]; exact hf))
        have HPY : Hid (mayPort o N = true → (os.take (k + 1)).all (fun o => mayPort o N) = true) := fun hf => all_snoc (d := po0) hkl HA.out (by rw [← ho]; exact hf)
        clear ho hkl HA
        unfold mayPort at HPN HPY
        generalize mayEnds o N = x1 at *
        generalize hx2 : wi o.s 1 16 = x2 at *
        generalize mayKept o = x3 at *
        clear hx2
        obtain ⟨o0, o1, o2, o3, o4, o5⟩ := o
        unfold pov at *
        dsimp only at d0 d1 d2 d3 d4 d5 H1 H2 H3
        go_wp2_with fail
        refine (H1.out _).mono ?_
        rintro e w1 ⟨rfl, hb1⟩
        have BX := Lib.hid ((hb1.block _ (by simp)).trans (heap_alloc_new wr _))
        have HB1 := Lib.hid (HB.out.trans ((((Below.refl wr.heap.size wr).alloc (Nat.le_refl _) _).trans (hb1.mono (by simp))).mono HB.out.size))
        clear hb1 d0 d1 d2 d3 d4 d5 HB H1
        obtain ⟨z0, z1, z2, z3, z4, z5⟩ := oz_of BX.out
        cases x1 with
        | false =>
          go_wp2_with fail
          go_ret
          exact ⟨by rw [HPN.out (by simp)]; rfl, HB1.out⟩
        | true =>
          cases x2 with
          | false =>
            go_wp2_with fail
            refine (H2.out _).mono ?_
            rintro e w1 ⟨rfl, rfl⟩
            go_wp2_with fail
            go_ret
            exact ⟨by rw [HPN.out (by simp)]; rfl, HB1.out⟩
          | true =>
            go_wp2_with fail
            refine (H2.out _).mono ?_
            rintro e w1 ⟨rfl, rfl⟩
            go_wp2_with fail
            refine (H3.out _).mono ?_
            rintro e w2 ⟨rfl, hb2⟩
            have HB2 := Lib.hid (HB1.out.trans (hb2.mono HB1.out.size))
            clear hb2 z0 z1 z2 z3 z4 z5
            cases x3 with
            | false =>
              go_wp2_with fail
              go_ret
              exact ⟨by rw [HPN.out (by simp)]; rfl, HB2.out⟩
            | true =>
              go_wp2_with fail
              go_roundw
              case rel => exact ⟨k + 1, by omega, by go_num, HPY.out (by simp), HB2⟩
              case measure => simp [intOf]; omega
      · have e : k = n := by omega
        subst e
        have HF : Hid (mayPorts os N = true) := HY.out (by have := HA.out; rwa [HN.out, List.take_length] at this)
        clear HA
        go_wp2_with fail
        go_ret
        exact ⟨by rw [HF.out]; rfl, HB.out⟩

/-- what Check answers -/
def ck (c : Cf) : Int := if may c then 0 else 50
set_option maxHeartbeats 1000000 in
theorem check_any {w : World} {B : Nat} {v : Value} {c : Cf} (h : CF w B v c) : Calls Try.prog 19 #[v] w (YI (ck c) w) := by
  obtain ⟨pv, ov, rfl, hp, ho⟩ := h
  have H1 := Lib.hid (fun w' (b : Below w.heap.size w w') => parts_any (hp.below b))
  obtain ⟨a, cap, rfl, hn1, hn2⟩ := hp.slice
  have H2 := Lib.hid (fun w' (b : Below w.heap.size w w') => ports_any (ho.below b) c.ps.length (by omega))
  obtain ⟨ao, co, rfl, ho1, ho2⟩ := ho.slice
  generalize hn : c.ps.length = n at *
  generalize hm : c.os.length = m at *
  have HC : Hid (ck c = if mayParts c.ps && mayPorts c.os n then 0 else 50) := by unfold ck may; rw [hn]; rfl
  generalize mayParts c.ps = x1 at *
  generalize mayPorts c.os n = x2 at *
  have HA := (Below.refl w.heap.size w).alloc (Nat.le_refl _) (.cells #[.slice a n cap, .slice ao m co] 25)
  have HAA := Lib.hid HA
  clear hp ho hn hm HA
  cases x1 with
  | false =>
    go_enter Try.func19, Try.ntmps19
    go_wp2_with fail
    refine (H1.out _ HAA.out).mono ?_
    rintro e w1 ⟨rfl, hb1⟩
    have HB1 := Lib.hid (HAA.out.trans (hb1.mono HAA.out.size))
    clear hb1
    go_wp2_with fail
    go_ret
    exact ⟨by rw [HC.out]; rfl, HB1.out⟩
  | true =>
    go_enter Try.func19, Try.ntmps19
    go_wp2_with fail
    refine (H1.out _ HAA.out).mono ?_
    rintro e w1 ⟨rfl, hb1⟩
    have BX := Lib.hid ((hb1.block _ (by simp)).trans (heap_alloc_new w _))
    have HB1 := Lib.hid (HAA.out.trans (hb1.mono HAA.out.size))
    have z0 : w1.cell? ⟨w.heap.size, 0, none⟩ = some (.slice a n cap) := cell_of_row _ _ 0 _ _ _ BX.out
    have z1 : w1.cell? ⟨w.heap.size, 1, none⟩ = some (.slice ao m co) := cell_of_row _ _ 1 _ _ _ BX.out
    clear hb1
    go_wp2_with fail
    refine (H2.out _ HB1.out).mono ?_
    rintro e w2 ⟨rfl, hb2⟩
    have HB2 := Lib.hid (HB1.out.trans (hb2.mono HB1.out.size))
    clear hb2 z0 z1
    cases x2 with
    | false =>
      go_wp2_with fail
      go_ret
      exact ⟨by rw [HC.out]; rfl, HB2.out⟩
    | true =>
      go_wp2_with fail
      go_ret
      exact ⟨by rw [HC.out]; rfl, HB2.out⟩
end Go.Proofs.Ytbdiekolkniajaa.Cm
