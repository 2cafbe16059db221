/- Configurations in memory. -/
import Derived.Test.YthbhkcofhhkcoaaPackF
import Derived.Test.YthbhkcofhhkcoaaConfP
import Derived.StillTailTactics
namespace Go.Proofs.Ythbhkcofhhkcoaa
open Go.RowKit Pk Cn
set_option linter.unusedVariables false

/-- structs of k numbers each, that can be read, at no block below B -/
def SS (w : World) (B k : Nat) (v : Value) (n : Nat) (z : Nat → List Int) : Prop :=
  ∃ a cap, v = .slice a n cap ∧ n ≤ cap ∧ cap ≤ maxLen ∧ (a = none → cap = 0) ∧
    (0 < n → ∃ b off, a = some ⟨b, off, none⟩ ∧ B ≤ b ∧ ∀ i, i < n → ∀ j, j < k → w.cell? ⟨b, off + i * k + j, none⟩ = some (.int .i64 ((z i).getD j 0)))
def TS (w : World) (B : Nat) (v : Value) (ts : List Tk) : Prop := SS w B 8 v ts.length (fun i => (ts.getD i tk0).row)
def OS (w : World) (B : Nat) (v : Value) (os : List Po) : Prop := SS w B 6 v os.length (fun i => (os.getD i po0).row)
/-- partitions, with their tasks -/
def PS (w : World) (B : Nat) (v : Value) (ps : List Pt) : Prop :=
  ∃ a cap, v = .slice a ps.length cap ∧ ps.length ≤ cap ∧ cap ≤ maxLen ∧ (a = none → cap = 0) ∧
    (0 < ps.length → ∃ b off, a = some ⟨b, off, none⟩ ∧ B ≤ b ∧ ∀ i, i < ps.length → w.cell? ⟨b, off + i * 3, none⟩ = some (.int .i64 (ps.getD i pt0).per) ∧
      w.cell? ⟨b, off + i * 3 + 1, none⟩ = some (.int .i64 (ps.getD i pt0).bud) ∧ ∃ tv, w.cell? ⟨b, off + i * 3 + 2, none⟩ = some tv ∧ TS w B tv (ps.getD i pt0).ts)
/-- a configuration -/
def CF (w : World) (B : Nat) (v : Value) (c : Cf) : Prop := ∃ pv ov, v = .agg #[pv, ov] ∧ PS w B pv c.ps ∧ OS w B ov c.os

/-- what cells at blocks from B on held they hold -/
def Kp (B : Nat) (w w' : World) : Prop := ∀ p x, B ≤ p.block → w.cell? p = some x → w'.cell? p = some x
theorem Kp.below {B : Nat} {w w' : World} (b : Below w.heap.size w w') : Kp B w w' := fun p x _ hp => (b.cell (lt_of_cell hp)).trans hp
theorem Kp.only {B : Nat} {S : Nat → Prop} {w w' : World} (h : Only S w w') (hS : ∀ k, S k → k < B) : Kp B w w' := fun p x hb hp => (h.cell (lt_of_cell hp) (fun s => by have := hS _ s; omega)).trans hp
theorem SS.keep {w w' : World} {B k n : Nat} {v : Value} {z : Nat → List Int} (h : SS w B k v n z) (q : Kp B w w') : SS w' B k v n z := by
  obtain ⟨a, cap, h1, h2, h3, h4, h5⟩ := h
  exact ⟨a, cap, h1, h2, h3, h4, fun hn => by obtain ⟨b, off, e, hb, hc⟩ := h5 hn; exact ⟨b, off, e, hb, fun i hi j hj => q _ _ hb (hc i hi j hj)⟩⟩
theorem PS.keep {w w' : World} {B : Nat} {v : Value} {ps : List Pt} (h : PS w B v ps) (q : Kp B w w') : PS w' B v ps := by
  obtain ⟨a, cap, h1, h2, h3, h4, h5⟩ := h
  refine ⟨a, cap, h1, h2, h3, h4, fun hn => ?_⟩
  obtain ⟨b, off, e, hb, hc⟩ := h5 hn
  refine ⟨b, off, e, hb, fun i hi => ?_⟩
  obtain ⟨c1, c2, tv, c3, c4⟩ := hc i hi
  exact ⟨q _ _ hb c1, q _ _ hb c2, tv, q _ _ hb c3, c4.keep q⟩
theorem CF.keep {w w' : World} {B : Nat} {v : Value} {c : Cf} (h : CF w B v c) (q : Kp B w w') : CF w' B v c := by
  obtain ⟨pv, ov, h1, h2, h3⟩ := h; exact ⟨pv, ov, h1, h2.keep q, h3.keep q⟩
theorem TS.below {w w' : World} {B : Nat} {v : Value} {ts : List Tk} (h : TS w B v ts) (b : Below w.heap.size w w') : TS w' B v ts := SS.keep h (Kp.below b)
theorem OS.below {w w' : World} {B : Nat} {v : Value} {ts : List Po} (h : OS w B v ts) (b : Below w.heap.size w w') : OS w' B v ts := SS.keep h (Kp.below b)
theorem PS.below {w w' : World} {B : Nat} {v : Value} {ts : List Pt} (h : PS w B v ts) (b : Below w.heap.size w w') : PS w' B v ts := h.keep (Kp.below b)
theorem CF.below {w w' : World} {B : Nat} {v : Value} {c : Cf} (h : CF w B v c) (b : Below w.heap.size w w') : CF w' B v c := h.keep (Kp.below b)
theorem SS.mono {w : World} {B C k n : Nat} {v : Value} {z : Nat → List Int} (h : SS w B k v n z) (hC : C ≤ B) : SS w C k v n z := by
  obtain ⟨a, cap, h1, h2, h3, h4, h5⟩ := h
  exact ⟨a, cap, h1, h2, h3, h4, fun hn => by obtain ⟨b, off, e, hb, hc⟩ := h5 hn; exact ⟨b, off, e, by omega, hc⟩⟩
theorem TS.mono {w : World} {B C : Nat} {v : Value} {ts : List Tk} (h : TS w B v ts) (hC : C ≤ B) : TS w C v ts := SS.mono h hC
theorem OS.mono {w : World} {B C : Nat} {v : Value} {ts : List Po} (h : OS w B v ts) (hC : C ≤ B) : OS w C v ts := SS.mono h hC
theorem PS.mono {w : World} {B C : Nat} {v : Value} {ps : List Pt} (h : PS w B v ps) (hC : C ≤ B) : PS w C v ps := by
  obtain ⟨a, cap, h1, h2, h3, h4, h5⟩ := h
  refine ⟨a, cap, h1, h2, h3, h4, fun hn => ?_⟩
  obtain ⟨b, off, e, hb, hc⟩ := h5 hn
  refine ⟨b, off, e, by omega, fun i hi => ?_⟩
  obtain ⟨c1, c2, tv, c3, c4⟩ := hc i hi
  exact ⟨c1, c2, tv, c3, c4.mono hC⟩
theorem CF.mono {w : World} {B C : Nat} {v : Value} {c : Cf} (h : CF w B v c) (hC : C ≤ B) : CF w C v c := by
  obtain ⟨pv, ov, h1, h2, h3⟩ := h; exact ⟨pv, ov, h1, h2.mono hC, h3.mono hC⟩
theorem TS.nil (w : World) (B : Nat) : TS w B (.slice none 0 0) [] := ⟨none, 0, rfl, Nat.le_refl _, Nat.zero_le _, fun _ => rfl, fun h => by cases h⟩
theorem OS.nil (w : World) (B : Nat) : OS w B (.slice none 0 0) [] := ⟨none, 0, rfl, Nat.le_refl _, Nat.zero_le _, fun _ => rfl, fun h => by cases h⟩
theorem PS.nil (w : World) (B : Nat) : PS w B (.slice none 0 0) [] := ⟨none, 0, rfl, Nat.le_refl _, Nat.zero_le _, fun _ => rfl, fun h => by cases h⟩
theorem CF.zero (w : World) (B : Nat) : CF w B (.agg #[.slice none 0 0, .slice none 0 0]) c0 := ⟨_, _, rfl, PS.nil w B, OS.nil w B⟩
/-- the eight cells of a task -/
structure TC (w : World) (b o : Nat) (t : Tk) : Prop where
  c0 : w.cell? ⟨b, o, none⟩ = some (.int .i64 t.p)
  c1 : w.cell? ⟨b, o + 1, none⟩ = some (.int .i64 t.d)
  c2 : w.cell? ⟨b, o + 2, none⟩ = some (.int .i64 t.b)
  c3 : w.cell? ⟨b, o + 3, none⟩ = some (.int .i64 t.l)
  c4 : w.cell? ⟨b, o + 4, none⟩ = some (.int .i64 t.o)
  c5 : w.cell? ⟨b, o + 5, none⟩ = some (.int .i64 t.g)
  c6 : w.cell? ⟨b, o + 6, none⟩ = some (.int .i64 t.n)
  c7 : w.cell? ⟨b, o + 7, none⟩ = some (.int .i64 t.k)
/-- the six cells of a port -/
structure OC (w : World) (b o : Nat) (t : Po) : Prop where
  c0 : w.cell? ⟨b, o, none⟩ = some (.int .i64 t.k)
  c1 : w.cell? ⟨b, o + 1, none⟩ = some (.int .i64 t.f)
  c2 : w.cell? ⟨b, o + 2, none⟩ = some (.int .i64 t.t)
  c3 : w.cell? ⟨b, o + 3, none⟩ = some (.int .i64 t.s)
  c4 : w.cell? ⟨b, o + 4, none⟩ = some (.int .i64 t.d)
  c5 : w.cell? ⟨b, o + 5, none⟩ = some (.int .i64 t.a)
theorem TC.below {w w' : World} {b o : Nat} {t : Tk} (h : TC w b o t) (q : Below w.heap.size w w') : TC w' b o t := by
  have k : ∀ {p x}, w.cell? p = some x → w'.cell? p = some x := fun hp => (q.cell (lt_of_cell hp)).trans hp
  exact ⟨k h.c0, k h.c1, k h.c2, k h.c3, k h.c4, k h.c5, k h.c6, k h.c7⟩
theorem OC.below {w w' : World} {b o : Nat} {t : Po} (h : OC w b o t) (q : Below w.heap.size w w') : OC w' b o t := by
  have k : ∀ {p x}, w.cell? p = some x → w'.cell? p = some x := fun hp => (q.cell (lt_of_cell hp)).trans hp
  exact ⟨k h.c0, k h.c1, k h.c2, k h.c3, k h.c4, k h.c5⟩
theorem TS.at {w : World} {B n cap : Nat} {a : Option Addr} {ts : List Tk} (h : TS w B (.slice a n cap) ts) {i : Nat} (hi : i < n) : ∃ b off, a = some ⟨b, off, none⟩ ∧ B ≤ b ∧ TC w b (off + i * 8) (ts.getD i tk0) := by
  obtain ⟨a', cap', e, h1, h2, h3, h4⟩ := h
  obtain ⟨rfl, rfl, rfl⟩ : a = a' ∧ n = ts.length ∧ cap = cap' := by simpa using e
  obtain ⟨b, off, rfl, hb, hc⟩ := h4 (by omega)
  exact ⟨b, off, rfl, hb, hc i hi 0 (by decide), hc i hi 1 (by decide), hc i hi 2 (by decide), hc i hi 3 (by decide), hc i hi 4 (by decide), hc i hi 5 (by decide), hc i hi 6 (by decide), hc i hi 7 (by decide)⟩
theorem OS.at {w : World} {B n cap : Nat} {a : Option Addr} {os : List Po} (h : OS w B (.slice a n cap) os) {i : Nat} (hi : i < n) : ∃ b off, a = some ⟨b, off, none⟩ ∧ B ≤ b ∧ OC w b (off + i * 6) (os.getD i po0) := by
  obtain ⟨a', cap', e, h1, h2, h3, h4⟩ := h
  obtain ⟨rfl, rfl, rfl⟩ : a = a' ∧ n = os.length ∧ cap = cap' := by simpa using e
  obtain ⟨b, off, rfl, hb, hc⟩ := h4 (by omega)
  exact ⟨b, off, rfl, hb, hc i hi 0 (by decide), hc i hi 1 (by decide), hc i hi 2 (by decide), hc i hi 3 (by decide), hc i hi 4 (by decide), hc i hi 5 (by decide)⟩
theorem PS.at {w : World} {B n cap : Nat} {a : Option Addr} {ps : List Pt} (h : PS w B (.slice a n cap) ps) {i : Nat} (hi : i < n) : ∃ b off tv, a = some ⟨b, off, none⟩ ∧ B ≤ b ∧ w.cell? ⟨b, off + i * 3, none⟩ = some (.int .i64 (ps.getD i pt0).per) ∧
    w.cell? ⟨b, off + i * 3 + 1, none⟩ = some (.int .i64 (ps.getD i pt0).bud) ∧ w.cell? ⟨b, off + i * 3 + 2, none⟩ = some tv ∧ TS w B tv (ps.getD i pt0).ts := by
  obtain ⟨a', cap', e, h1, h2, h3, h4⟩ := h
  obtain ⟨rfl, rfl, rfl⟩ : a = a' ∧ n = ps.length ∧ cap = cap' := by simpa using e
  obtain ⟨b, off, rfl, hb, hc⟩ := h4 (by omega)
  obtain ⟨c1, c2, tv, c3, c4⟩ := hc i hi
  exact ⟨b, off, tv, rfl, hb, c1, c2, c3, c4⟩
theorem SS.slice {w : World} {B k n : Nat} {v : Value} {z : Nat → List Int} (h : SS w B k v n z) : ∃ a cap, v = .slice a n cap ∧ n ≤ cap ∧ cap ≤ maxLen := by obtain ⟨a, cap, h1, h2, h3, _⟩ := h; exact ⟨a, cap, h1, h2, h3⟩
theorem TS.slice {w : World} {B : Nat} {v : Value} {ts : List Tk} (h : TS w B v ts) : ∃ a cap, v = .slice a ts.length cap ∧ ts.length ≤ cap ∧ cap ≤ maxLen := SS.slice h
theorem OS.slice {w : World} {B : Nat} {v : Value} {ts : List Po} (h : OS w B v ts) : ∃ a cap, v = .slice a ts.length cap ∧ ts.length ≤ cap ∧ cap ≤ maxLen := SS.slice h
theorem PS.slice {w : World} {B : Nat} {v : Value} {ps : List Pt} (h : PS w B v ps) : ∃ a cap, v = .slice a ps.length cap ∧ ps.length ≤ cap ∧ cap ≤ maxLen := by obtain ⟨a, cap, h1, h2, h3, _⟩ := h; exact ⟨a, cap, h1, h2, h3⟩
/-- a task, a port as a value -/
def tkv (t : Tk) : Value := .agg #[.int .i64 t.p, .int .i64 t.d, .int .i64 t.b, .int .i64 t.l, .int .i64 t.o, .int .i64 t.g, .int .i64 t.n, .int .i64 t.k]
def pov (o : Po) : Value := .agg #[.int .i64 o.k, .int .i64 o.f, .int .i64 o.t, .int .i64 o.s, .int .i64 o.d, .int .i64 o.a]
/-- a bool, a number is answered; what was there is as it was -/
def YB (b : Bool) (w : World) (e : Ending) (w' : World) : Prop := e = .returned (.bool b) ∧ Below w.heap.size w w'
def YI (n : Int) (w : World) (e : Ending) (w' : World) : Prop := e = .returned (.int .i64 n) ∧ Below w.heap.size w w'
theorem chn {w w1 w2 : World} (h : Below w.heap.size w w1) (k : Below w1.heap.size w1 w2) : Below w.heap.size w w2 := h.trans (k.mono h.size)
end Go.Proofs.Ythbhkcofhhkcoaa
