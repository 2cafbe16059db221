/- Tasks and numbers in memory; whether they may be asked, the program's and the document's. -/
import Derived.Test.YtfjeoefnpcgnnaaDemQ
import Derived.Test.YtfjeoefnpcgnnaaZw
import Derived.WalkLawsBesides
import Derived.Lib.Hide
import Derived.Deep.QuietTactic
import Derived.BigQuiet
import Derived.Below
import Derived.OneCell
import Derived.RegionTactic
import Derived.StillTailTactics
import Derived.WalkMore
namespace Go.Proofs.Ytfjeoefnpcgnnaa
open Go.RowKit Tk De
set_option linter.unusedVariables false

/-- tasks that can be read -/
def TK (w : World) (v : Value) (n : Nat) (z : Nat → Nat → Int) : Prop :=
  ∃ a cap, v = .slice a n cap ∧ n ≤ cap ∧ cap ≤ maxLen ∧ (a = none → cap = 0) ∧
    (0 < n → ∃ b off, a = some ⟨b, off, none⟩ ∧ ∀ i, i < n → ∀ j, j < 8 → w.cell? ⟨b, off + i * 8 + j, none⟩ = some (.int .i64 (z i j)))
/-- the eight cells of a task -/
structure TC (w : World) (b o : Nat) (t : Nat → Int) : Prop where
  c0 : w.cell? ⟨b, o, none⟩ = some (.int .i64 (t 0))
  c1 : w.cell? ⟨b, o + 1, none⟩ = some (.int .i64 (t 1))
  c2 : w.cell? ⟨b, o + 2, none⟩ = some (.int .i64 (t 2))
  c3 : w.cell? ⟨b, o + 3, none⟩ = some (.int .i64 (t 3))
  c4 : w.cell? ⟨b, o + 4, none⟩ = some (.int .i64 (t 4))
  c5 : w.cell? ⟨b, o + 5, none⟩ = some (.int .i64 (t 5))
  c6 : w.cell? ⟨b, o + 6, none⟩ = some (.int .i64 (t 6))
  c7 : w.cell? ⟨b, o + 7, none⟩ = some (.int .i64 (t 7))
theorem TK.at {w : World} {n cap : Nat} {a : Option Addr} {m : Nat} {z : Nat → Nat → Int} (h : TK w (.slice a n cap) m z) {i : Nat} (hi : i < n) : ∃ b off, a = some ⟨b, off, none⟩ ∧ TC w b (off + i * 8) (z i) := by
  obtain ⟨a', cap', e, h1, h2, h3, h4⟩ := h
  obtain ⟨rfl, rfl, rfl⟩ : a = a' ∧ n = m ∧ cap = cap' := by simpa using e
  obtain ⟨b, off, rfl, hc⟩ := h4 (by omega)
  exact ⟨b, off, rfl, hc i hi 0 (by decide), hc i hi 1 (by decide), hc i hi 2 (by decide), hc i hi 3 (by decide), hc i hi 4 (by decide), hc i hi 5 (by decide), hc i hi 6 (by decide), hc i hi 7 (by decide)⟩
/-- two of them lie in one block -/
theorem TK.at2 {w : World} {n cap : Nat} {a : Option Addr} {m : Nat} {z : Nat → Nat → Int} (h : TK w (.slice a n cap) m z) {i j : Nat} (hi : i < n) (hj : j < n) : ∃ b off, a = some ⟨b, off, none⟩ ∧ TC w b (off + i * 8) (z i) ∧ TC w b (off + j * 8) (z j) := by
  obtain ⟨b, off, rfl, h1⟩ := h.at hi
  obtain ⟨b', off', e, h2⟩ := h.at hj
  injection e with e
  injection e with e1 e2 _
  subst e1; subst e2
  exact ⟨b, off, rfl, h1, h2⟩
theorem TK.slice {w : World} {v : Value} {n : Nat} {z : Nat → Nat → Int} (h : TK w v n z) : ∃ a cap, v = .slice a n cap ∧ n ≤ cap ∧ cap ≤ maxLen := by obtain ⟨a, cap, h1, h2, h3, _⟩ := h; exact ⟨a, cap, h1, h2, h3⟩
theorem TK.below {w w' : World} {v : Value} {n : Nat} {z : Nat → Nat → Int} (h : TK w v n z) (q : Below w.heap.size w w') : TK w' v n z := by
  obtain ⟨a, cap, h1, h2, h3, h4, h5⟩ := h
  exact ⟨a, cap, h1, h2, h3, h4, fun hn => by obtain ⟨b, off, e, hc⟩ := h5 hn; exact ⟨b, off, e, fun i hi j hj => (q.cell (World.block_lt_of_cell? _ _ (hc i hi j hj))).trans (hc i hi j hj)⟩⟩
theorem TK.nil (w : World) (z : Nat → Nat → Int) : TK w (.slice none 0 0) 0 z := ⟨none, 0, rfl, Nat.le_refl _, Nat.zero_le _, fun _ => rfl, fun h => by cases h⟩
theorem TK.take {w : World} {a : Option Addr} {n cap m : Nat} {z : Nat → Nat → Int} (h : TK w (.slice a n cap) m z) {j : Nat} (hj : j ≤ n) : TK w (.slice a j cap) j z := by
  obtain ⟨a', cap', e, h1, h2, h3, h4⟩ := h
  obtain ⟨rfl, rfl, rfl⟩ : a = a' ∧ n = m ∧ cap = cap' := by simpa using e
  refine ⟨_, _, rfl, by omega, h2, h3, fun hp => ?_⟩
  obtain ⟨b, off, rfl, hc⟩ := h4 (by omega)
  exact ⟨b, off, rfl, fun i hi k hk => hc i (by omega) k hk⟩
/-- a task that the call has copied -/
def tko (t : Nat → Int) : Obj := .cells #[.int .i64 (t 0), .int .i64 (t 1), .int .i64 (t 2), .int .i64 (t 3), .int .i64 (t 4), .int .i64 (t 5), .int .i64 (t 6), .int .i64 (t 7)] 129
theorem tko_new (w : World) (t : Nat → Int) : (w.alloc (tko t)).cell? ⟨w.heap.size, 1, none⟩ = some (.int .i64 (t 1)) := cell_of_row _ _ 1 _ _ _ (heap_alloc_new w (tko t))
theorem tko_old {w : World} {p : Addr} {x : Value} (t : Nat → Int) (h : w.cell? p = some x) : (w.alloc (tko t)).cell? p = some x := (((Below.refl _ w).alloc (Nat.le_refl _) _).cell (World.block_lt_of_cell? _ _ h)).trans h
theorem below_drewN {B : Nat} {a b : World} (h : Below B a b) (n : Nat) : Below B a (b.drewN n) := ⟨h.os, h.tape, h.output, h.size, h.block⟩
/-- a bool, a number is answered; what was there is as it was -/
def YB (b : Bool) (w : World) (e : Ending) (w' : World) : Prop := e = .returned (.bool b) ∧ Below w.heap.size w w'
def YI (n : Int) (w : World) (e : Ending) (w' : World) : Prop := e = .returned (.int .i64 n) ∧ Below w.heap.size w w'
theorem chn {w w1 w2 : World} (h : Below w.heap.size w w1) (k : Below w1.heap.size w1 w2) : Below w.heap.size w w2 := h.trans (k.mono h.size)
/-- numbers that can be read -/
def IS (w : World) (v : Value) (xs : List Int) : Prop :=
  ∃ a cap, v = .slice a xs.length cap ∧ xs.length ≤ cap ∧ cap ≤ maxLen ∧ (a = none → cap = 0) ∧ (0 < xs.length → ∃ b off, a = some ⟨b, off, none⟩ ∧ ∀ i, i < xs.length → w.cell? ⟨b, off + i, none⟩ = some (.int .i64 (xs.getD i 0)))
theorem IS.nil (w : World) : IS w (.slice none 0 0) [] := ⟨none, 0, rfl, Nat.le_refl _, Nat.zero_le _, fun _ => rfl, fun h => by cases h⟩
theorem IS.slice {w : World} {v : Value} {xs : List Int} (h : IS w v xs) : ∃ a cap, v = .slice a xs.length cap ∧ xs.length ≤ cap ∧ cap ≤ maxLen := by obtain ⟨a, cap, h1, h2, h3, _⟩ := h; exact ⟨a, cap, h1, h2, h3⟩
theorem IS.below {w w' : World} {v : Value} {xs : List Int} (h : IS w v xs) (q : Below w.heap.size w w') : IS w' v xs := by
  obtain ⟨a, cap, h1, h2, h3, h4, h5⟩ := h
  exact ⟨a, cap, h1, h2, h3, h4, fun hn => by obtain ⟨b, off, e, hc⟩ := h5 hn; exact ⟨b, off, e, fun i hi => (q.cell (World.block_lt_of_cell? _ _ (hc i hi))).trans (hc i hi)⟩⟩
theorem IS.at {w : World} {n cap : Nat} {a : Option Addr} {xs : List Int} (h : IS w (.slice a n cap) xs) {i : Nat} (hi : i < n) : ∃ b off, a = some ⟨b, off, none⟩ ∧ w.cell? ⟨b, off + i, none⟩ = some (.int .i64 (xs.getD i 0)) := by
  obtain ⟨a', cap', e, h1, h2, h3, h4⟩ := h
  obtain ⟨rfl, rfl, rfl⟩ : a = a' ∧ n = xs.length ∧ cap = cap' := by simpa using e
  obtain ⟨b, off, rfl, hc⟩ := h4 (by omega)
  exact ⟨b, off, rfl, hc i hi⟩
theorem IS.take {w : World} {a : Option Addr} {n cap : Nat} {xs : List Int} (h : IS w (.slice a n cap) xs) {j : Nat} (hj : j ≤ n) : IS w (.slice a j cap) (xs.take j) := by
  obtain ⟨a', cap', e, h1, h2, h3, h4⟩ := h
  obtain ⟨rfl, rfl, rfl⟩ : a = a' ∧ n = xs.length ∧ cap = cap' := by simpa using e
  have hl : (xs.take j).length = j := by simp; omega
  refine ⟨_, _, by rw [hl], by omega, h2, h3, fun hp => ?_⟩
  rw [hl] at hp
  obtain ⟨b, off, rfl, hc⟩ := h4 (by omega)
  refine ⟨b, off, rfl, fun i hi => ?_⟩
  rw [hl] at hi
  rw [hc i (by omega)]
  simp only [List.getD, List.getElem?_take]
  rw [if_pos hi]
theorem bel_of_alloc {w w1 : World} {o : Obj} (h : Below (w.alloc o).heap.size (w.alloc o) w1) : Below w.heap.size w w1 := ((Below.refl _ w).alloc (Nat.le_refl _) o).trans (h.mono (by simp))
theorem tOK_in (t : Nat → Int) : tOK t = (inn 1 64 (t 0) && inn 1 (t 0) (t 1) && inn 1 (t 1) (t 2)) := by
  rw [Bool.eq_iff_iff]
  simp only [tOK_iff, Bool.and_eq_true, inn_iff]
  omega
end Go.Proofs.Ytfjeoefnpcgnnaa
