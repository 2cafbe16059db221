/- Acts in memory: what can be read; a row of the call's own; an append; a row's object. Bring. -/
import Derived.Test.YtkkmfpllgjoceaaGreatActP
import Derived.WalkLawsBesides
import Derived.Lib.Hide
import Derived.Deep.QuietTactic
import Derived.BigQuiet
import Derived.Below
import Derived.OneCell
import Derived.RegionTactic
import Derived.StillTailTactics
import Derived.WalkMore
import Derived.Handy
import Derived.OwnWalk
import Derived.ArgAppend
import Derived.Laws.OwnMore
import Derived.Deep.Upon
import Derived.Lib.SliceRun
import Derived.Laws.StructEq
import Derived.Maps.Keyed
import Derived.ChangeMaps5
import Derived.Carry
import Derived.Deep.RegionHeld3
namespace Go.Proofs.YtkkmfpllgjoceaaGreat
open Go.RowKit Ac
set_option linter.unusedVariables false
set_option maxRecDepth 100000

theorem lt_of_cell {w : World} {p : Addr} {v : Value} (h : w.cell? p = some v) : p.block < w.heap.size := World.block_lt_of_cell? w p h
theorem lt_of_block {w : World} {b : Nat} {o : Obj} (h : w.heap[b]? = some o) : b < w.heap.size := (Array.getElem?_eq_some_iff.1 h).1
def IsB (b : Bool) (w : World) (e : Ending) (w' : World) : Prop := e = .returned (.bool b) ∧ w = w'
def IsI (x : Int) (w : World) (e : Ending) (w' : World) : Prop := e = .returned (.int .i64 x) ∧ w = w'
def IsV (v : Value) (w : World) (e : Ending) (w' : World) : Prop := e = .returned v ∧ w = w'
def VB (v : Value) (w : World) (e : Ending) (w' : World) : Prop := e = .returned v ∧ Below w.heap.size w w'
def TrueB (w : World) (e : Ending) (w' : World) : Prop := e = .returned (.bool true) ∧ Below w.heap.size w w'
theorem chn {w w1 w2 : World} (h : Below w.heap.size w w1) (k : Below w1.heap.size w1 w2) : Below w.heap.size w w2 := h.trans (k.mono h.size)
/-- of what was there nothing has turned but blocks of S -/
structure Only (S : Nat → Prop) (w w' : World) : Prop where
  os : w'.os = w.os
  tape : w'.tape = w.tape
  output : w'.output = w.output
  size : w.heap.size ≤ w'.heap.size
  block : ∀ k, k < w.heap.size → ¬ S k → w'.heap[k]? = w.heap[k]?
theorem Only.refl (S : Nat → Prop) (w : World) : Only S w w := ⟨rfl, rfl, rfl, Nat.le_refl _, fun _ _ _ => rfl⟩
theorem Only.trans {S : Nat → Prop} {a b c : World} (h : Only S a b) (k : Only S b c) : Only S a c :=
  ⟨k.os.trans h.os, k.tape.trans h.tape, k.output.trans h.output, Nat.le_trans h.size k.size, fun j hj hS => (k.block j (Nat.lt_of_lt_of_le hj h.size) hS).trans (h.block j hj hS)⟩
theorem Only.of_below {S : Nat → Prop} {a b : World} (h : Below a.heap.size a b) : Only S a b := ⟨h.os, h.tape, h.output, h.size, fun k hk _ => h.block k hk⟩
theorem Only.below {S : Nat → Prop} {a b : World} {B : Nat} (h : Only S a b) (hB : B ≤ a.heap.size) (hS : ∀ k, S k → B ≤ k) : Below B a b :=
  ⟨h.os, h.tape, h.output, h.size, fun k hk => h.block k (by omega) (fun t => by have := hS k t; omega)⟩
theorem Only.set {S : Nat → Prop} (w : World) {b : Nat} (o : Nat) (v : Value) (h : S b) : Only S w (w.setCell ⟨b, o, none⟩ v) := ⟨rfl, rfl, rfl, by simp [World.setCell], fun k hk hne => Below.heap_setCell _ _ _ _ (fun e => hne (e ▸ h))⟩
theorem Only.drew {S : Nat → Prop} {a b : World} (h : Only S a b) : Only S a b.drew := ⟨h.os, h.tape, h.output, h.size, h.block⟩
theorem below_drew {B : Nat} {a b : World} (h : Below B a b) : Below B a b.drew := ⟨h.os, h.tape, h.output, h.size, h.block⟩
def Two (a b : Nat) (k : Nat) : Prop := k = a ∨ k = b

/-- acts that can be read -/
def AS (w : World) (v : Value) (l : List Ak) : Prop :=
  ∃ a cap, v = .slice a l.length cap ∧ l.length ≤ cap ∧ cap ≤ maxLen ∧ (a = none → cap = 0) ∧
    (0 < l.length → ∃ b off, a = some ⟨b, off, none⟩ ∧ ∀ j u, (acells l)[j]? = some u → w.cell? ⟨b, off + j, none⟩ = some u)
theorem AS.slice {w : World} {v : Value} {l : List Ak} (h : AS w v l) : ∃ a cap, v = .slice a l.length cap ∧ l.length ≤ cap ∧ cap ≤ maxLen := by obtain ⟨a, cap, h1, h2, h3, _⟩ := h; exact ⟨a, cap, h1, h2, h3⟩
theorem AS.nil (w : World) : AS w (.slice none 0 0) [] := ⟨none, 0, rfl, Nat.le_refl _, Nat.zero_le _, fun _ => rfl, fun h => by cases h⟩
theorem AS.keep {w w' : World} {v : Value} {l : List Ak} (h : AS w v l) (q : ∀ k, v.ownBlock = some k → w'.heap[k]? = w.heap[k]?) : AS w' v l := by
  obtain ⟨a, cap, rfl, h2, h3, h4, h5⟩ := h
  exact ⟨a, cap, rfl, h2, h3, h4, fun hn => by obtain ⟨b, off, rfl, hc⟩ := h5 hn; exact ⟨b, off, rfl, fun j u hj => (World.cell?_of_block (q b rfl)).trans (hc j u hj)⟩⟩
theorem AS.below {w w' : World} {v : Value} {l : List Ak} (h : AS w v l) (q : Below w.heap.size w w') : AS w' v l := by
  obtain ⟨a, cap, h1, h2, h3, h4, h5⟩ := h
  exact ⟨a, cap, h1, h2, h3, h4, fun hn => by obtain ⟨b, off, e, hc⟩ := h5 hn; exact ⟨b, off, e, fun j u hj => (q.cell (lt_of_cell (hc j u hj))).trans (hc j u hj)⟩⟩
theorem AS.at {w : World} {n cap : Nat} {a : Option Addr} {l : List Ak} (h : AS w (.slice a n cap) l) {i : Nat} (hi : i < n) : ∃ b off, a = some ⟨b, off, none⟩ ∧ w.cell? ⟨b, off + i * 3, none⟩ = some (.int .i64 (l.getD i o0).k) ∧ w.cell? ⟨b, off + i * 3 + 1, none⟩ = some (.int .i64 (l.getD i o0).n) ∧ w.cell? ⟨b, off + i * 3 + 2, none⟩ = some (.string (l.getD i o0).s) := by
  obtain ⟨a', cap', e, h1, h2, h3, h4⟩ := h
  obtain ⟨rfl, rfl, rfl⟩ : a = a' ∧ n = l.length ∧ cap = cap' := by simpa using e
  obtain ⟨b, off, rfl, hc⟩ := h4 (by omega)
  obtain ⟨q1, q2, q3⟩ := acells_at l i hi
  exact ⟨b, off, rfl, hc _ _ q1, hc _ _ q2, hc _ _ q3⟩
theorem AS.take {w : World} {n cap : Nat} {a : Option Addr} {l : List Ak} (h : AS w (.slice a n cap) l) {k : Nat} (hk : k ≤ n) : AS w (.slice a k cap) (l.take k) := by
  obtain ⟨a', cap', e, h1, h2, h3, h4⟩ := h
  obtain ⟨rfl, rfl, rfl⟩ : a = a' ∧ n = l.length ∧ cap = cap' := by simpa using e
  have hl : (l.take k).length = k := by rw [List.length_take]; omega
  refine ⟨a, cap, by rw [hl], by omega, h2, h3, fun hp => ?_⟩
  obtain ⟨b, off, rfl, hc⟩ := h4 (by omega)
  refine ⟨b, off, rfl, fun j u hj => hc j u ?_⟩
  rw [← acells_take, List.getElem?_take] at hj
  split at hj
  · exact hj
  · cases hj
theorem infoOp : (Tryz.prog.info? 57).map (fun i => (i.zero, i.size, i.bytes)) = some (some (.agg #[.int .i64 0, .int .i64 0, .string ⟨#[]⟩]), 3, 32) := by kernel_rfl
/-- acts in a row of the call's own -/
def NA (w : World) (B : Nat) (v : Value) (l : List Ak) : Prop := w.ownsRow B 57 3 v l.length (acells l)
theorem NA.nil (w : World) (B : Nat) : NA w B (.slice none 0 0) [] := World.ownsRow_nil w B _ _
theorem NA.as {w : World} {B : Nat} {v : Value} {l : List Ak} (h : NA w B v l) : AS w v l := by
  have hc := fun g => World.ownsRow.cells h (g := g)
  rcases h.2 with ⟨rfl, h0⟩ | ⟨g, cap, cur, rfl, hb, hh, hnc, hcm, _⟩
  · rw [List.eq_nil_of_length_eq_zero h0]; exact AS.nil w
  · refine ⟨_, cap, rfl, hnc, hcm, (fun e => by cases e), fun _ => ⟨g, 0, rfl, fun j u hj => ?_⟩⟩
    have := hc g rfl _ _ hj
    rw [Addr.add_lit] at this
    exact this
theorem NA.base {w : World} {B C : Nat} {v : Value} {l : List Ak} (h : NA w B v l) (hC : C ≤ B) : NA w C v l := by
  refine ⟨h.1, ?_⟩
  rcases h.2 with hn | ⟨g, cap, cur, rfl, hb, rest⟩
  · exact Or.inl hn
  · exact Or.inr ⟨g, cap, cur, rfl, by omega, rest⟩
theorem NA.lt {w : World} {B : Nat} {v : Value} {l : List Ak} (h : NA w B v l) : ∀ k, v.ownBlock = some k → B ≤ k ∧ k < w.heap.size := fun k hk => World.ownsRow.lt h k hk
theorem NA.below {w w' : World} {B : Nat} {v : Value} {l : List Ak} (h : NA w B v l) (q : Below w.heap.size w w') : NA w' B v l := World.ownsRow.kept (row := none) h ⟨q.os, q.tape, q.output, q.size, fun k hk _ => q.block k hk⟩ (by cases v.ownBlock <;> simp)
theorem NA.form {w : World} {B : Nat} {v : Value} {l : List Ak} (h : NA w B v l) : ∃ a c, v = .slice a l.length c := by
  rcases h.2 with ⟨rfl, h0⟩ | ⟨g, cap, cur, rfl, _⟩
  · exact ⟨_, _, by rw [h0]⟩
  · exact ⟨_, _, rfl⟩
/-- acts behind acts of the call's own -/
theorem app_acts {w : World} {B : Nat} {v s : Value} {l k : List Ak} (h : NA w B v l) (hs : AS w s k) (hB : B ≤ w.heap.size) (hn : l.length + k.length ≤ 1000) (ty : TypeId) :
    ∃ a c w', (Builtin.append_ #[31, 31] ty #[v, s]).run Tryz.prog w = .ok (.slice a (l ++ k).length c) w' ∧ NA w' B (.slice a (l ++ k).length c) (l ++ k) ∧ Below B w w' ∧ (v ≠ .slice none 0 0 → ∃ x, a = some x) := by
  obtain ⟨i0, hi, hz0, hz1, hz2⟩ := info_parts infoOp
  obtain ⟨sa, sc, rfl, hs1, hs2, hs3, hs4⟩ := hs
  cases sa with
  | none =>
    have hk : k = [] := List.eq_nil_of_length_eq_zero (by have := hs3 rfl; omega)
    subst hk
    obtain ⟨va, vc, hv⟩ := h.form
    subst hv
    have hle : l.length ≤ vc := by
      rcases h.2 with ⟨e, h0⟩ | ⟨g, cap, cur, e, hb, hh, hnc, _⟩
      · simp at e; omega
      · simp at e; omega
    have hrun := run_append_nothing (P := Tryz.prog) w 31 31 ty 57 i0 Tryz.underlying31 hi va l.length vc hle (.slice none 0 sc) (by rw [hz1]; exact Src.ofNil w Tryz.underlying31 sc)
    refine ⟨va, vc, w, ?_, ?_, Below.refl _ _, fun hne => ?_⟩
    · rw [List.append_nil]; exact hrun
    · rw [List.append_nil]; exact h
    · cases va with
      | some x => exact ⟨x, rfl⟩
      | none =>
        rcases h.2 with ⟨e, h0⟩ | ⟨g, cap, cur, e, _⟩
        · exact absurd e hne
        · simp at e
  | some ad =>
    have hnews : ∀ j u, (acells k)[j]? = some u → w.cell? (ad.add j) = some u := by
      intro j u hj
      have hp : 0 < k.length := by
        rcases Nat.eq_zero_or_pos k.length with h0 | h0
        · rw [List.eq_nil_of_length_eq_zero h0] at hj; simp [acells] at hj
        · exact h0
      obtain ⟨b, off, e, hc⟩ := hs4 hp
      injection e with e
      subst e
      rw [Addr.add_lit]
      exact hc j u hj
    obtain ⟨v', w', hrun, hown', hgr, hiff⟩ := run_append_own (P := Tryz.prog) w B 31 ty 57 i0 _ 3 32 Tryz.underlying31 hi hz0 hz1 hz2 rfl (by decide) v l.length _ h ad k.length sc (acells k) (acells_len k) hnews (acells_one k) (by unfold maxLen; omega) (by omega) hB
    rw [← acells_append, ← List.length_append] at hown'
    obtain ⟨a, c, hv'⟩ := NA.form hown'
    subst hv'
    refine ⟨a, c, w', hrun, hown', (Below.refl B w).grown hgr hB (fun j e => (World.ownsRow.lt h j e).1), fun hne => ?_⟩
    cases a with
    | some x => exact ⟨x, rfl⟩
    | none =>
      rcases hown'.2 with ⟨e, _⟩ | ⟨g, cap, cur, e, _⟩
      · exact absurd (hiff.1 e).1 hne
      · simp at e
theorem wpList_append_eq {P : Program} {w : World} {ops : Array Oper} {rest : List Oper} {o : Oper} {a : Act} {Q : Exit → Act → World → Prop} (hgd : o.guard = none) (s x : Operand) (t u : TypeId)
    (ho : o.op = .call { callee := .builtin .append, args := #[s, x], argTypes := #[t, u] })
    (sv xv v' : Value) (w' : World) (hs : a.eval s = sv) (hx : a.eval x = xv) (hrun : (Builtin.append_ #[t, u] o.type #[sv, xv]).run P w = .ok v' w')
    (h : wpList P ops Q rest (a.put o.dst v') w') : wpList P ops Q (o :: rest) a w := by
  refine wpList_plain hgd fun K hK => ?_
  unfold Oper.wp
  simp [execOp, ho, resolve, invoke, builtin, hs, hx, hrun, Result.andThen]
  exact hK _ _ h

/-- a row's object at block rb, its acts in block g -/
def RW (T : TypeId) (w : World) (rb g : Nat) (l : List Ak) : Prop :=
  ∃ a cap, w.heap[rb]? = some (.cells #[.slice a l.length cap] T (0, 0)) ∧ l.length ≤ cap ∧ cap ≤ maxLen ∧ (a = none → cap = 0) ∧ (T = 201 → ∃ x, a = some x) ∧
    (0 < l.length → ∃ off cs, a = some ⟨g, off, none⟩ ∧ w.heap[g]? = some (.cells cs 57 (0, 0)) ∧ g ≠ rb ∧ ∀ j u, (acells l)[j]? = some u → cs[off + j]? = some u)
theorem RW.lt {T : TypeId} {w : World} {rb g : Nat} {l : List Ak} (h : RW T w rb g l) : rb < w.heap.size := by obtain ⟨a, cap, h1, _⟩ := h; exact lt_of_block h1
theorem RW.keep {T : TypeId} {w w' : World} {rb g : Nat} {l : List Ak} (h : RW T w rb g l) (q1 : w'.heap[rb]? = w.heap[rb]?) (q2 : g < w.heap.size → w'.heap[g]? = w.heap[g]?) : RW T w' rb g l := by
  obtain ⟨a, cap, h1, h2, h3, h4, h5, h6⟩ := h
  exact ⟨a, cap, q1.trans h1, h2, h3, h4, h5, fun hn => by obtain ⟨off, cs, e, e1, e2⟩ := h6 hn; exact ⟨off, cs, e, (q2 (lt_of_block e1)).trans e1, e2⟩⟩
theorem RW.below {T : TypeId} {w w' : World} {rb g : Nat} {l : List Ak} (h : RW T w rb g l) (q : Below w.heap.size w w') : RW T w' rb g l := h.keep (q.block rb h.lt) (fun hg => q.block g hg)
theorem RW.only {T : TypeId} {S : Nat → Prop} {w w' : World} {rb g : Nat} {l : List Ak} (h : RW T w rb g l) (q : Only S w w') (h1 : ¬ S rb) (h2 : ¬ S g) : RW T w' rb g l := h.keep (q.block rb h.lt h1) (fun hg => q.block g hg h2)
/-- the acts can be read -/
theorem RW.as {T : TypeId} {w : World} {rb g : Nat} {l : List Ak} (h : RW T w rb g l) : ∃ a cap, w.cell? ⟨rb, 0, none⟩ = some (.slice a l.length cap) ∧ AS w (.slice a l.length cap) l ∧ (T = 201 → ∃ x, a = some x) := by
  obtain ⟨a, cap, h1, h2, h3, h4, h5, h6⟩ := h
  refine ⟨a, cap, cell_of_row _ _ 0 _ _ _ h1, ⟨a, cap, rfl, h2, h3, h4, fun hn => ?_⟩, h5⟩
  obtain ⟨off, cs, e, e1, _, e2⟩ := h6 hn
  exact ⟨g, off, e, fun j u hj => (cell_of_row _ _ (off + j) _ _ _ e1).trans (e2 j u hj)⟩
/-- what is next is cut off -/
theorem RW.cut {T : TypeId} {w w' : World} {rb g : Nat} {x : Ak} {t : List Ak} (h : RW T w rb g (x :: t)) (q : Below w.heap.size w w') (c : Nat) (hc : t.length ≤ c) (hm : c ≤ maxLen) {b off cap : Nat} (h0 : w.cell? ⟨rb, 0, none⟩ = some (.slice (some ⟨b, off, none⟩) (x :: t).length cap)) (hz : c = 0 → t.length = 0) :
    RW T (w'.setCell ⟨rb, 0, none⟩ (.slice (some (if c = 0 then ⟨b, off, none⟩ else ⟨b, off + 3, none⟩)) t.length c)) rb g t ∧ Only (Two rb g) w (w'.setCell ⟨rb, 0, none⟩ (.slice (some (if c = 0 then ⟨b, off, none⟩ else ⟨b, off + 3, none⟩)) t.length c)) := by
  have h' := h.below q
  have hlt := h.lt
  obtain ⟨a, cap', h1, h2, h3, h4, h5, h6⟩ := h'
  obtain ⟨off', cs, e, e1, e2, e3⟩ := h6 (by simp)
  have hsame : w'.cell? ⟨rb, 0, none⟩ = some (.slice (some ⟨b, off, none⟩) (x :: t).length cap) := (q.cell (p := ⟨rb, 0, none⟩) hlt).trans h0
  have hsame2 := cell_of_row _ _ 0 _ _ _ h1
  rw [hsame] at hsame2
  subst e
  obtain ⟨⟨rfl, rfl⟩, rfl⟩ : (b = g ∧ off = off') ∧ cap = cap' := by simpa using hsame2
  refine ⟨⟨_, c, heap_setCell_same w' rb 0 _ T _ h1, hc, hm, (fun e => by cases e), fun _ => ⟨_, rfl⟩, fun hn => ?_⟩, ?_⟩
  · refine ⟨off + 3, cs, by rw [if_neg (by omega)], (Below.heap_setCell _ _ _ _ e2).trans e1, e2, fun j u hj => ?_⟩
    have := e3 (j + 3) u (by rw [acells_cons]; exact hj)
    rw [show off + 3 + j = off + (j + 3) by omega]
    exact this
  · exact (Only.of_below q).trans (Only.set w' 0 _ (Or.inl rfl))
/-- what is next has another number -/
theorem RW.less {T : TypeId} {w w' : World} {rb g : Nat} {x : Ak} {t : List Ak} (h : RW T w rb g (x :: t)) (q : Below w.heap.size w w') {b off cap : Nat} (h0 : w.cell? ⟨rb, 0, none⟩ = some (.slice (some ⟨b, off, none⟩) (x :: t).length cap)) (n : Int) :
    RW T (w'.setCell ⟨b, off + 1, none⟩ (.int .i64 n)) rb g (⟨x.k, n, x.s⟩ :: t) ∧ Only (Two rb g) w (w'.setCell ⟨b, off + 1, none⟩ (.int .i64 n)) := by
  have h' := h.below q
  have hlt := h.lt
  obtain ⟨a, cap', h1, h2, h3, h4, h5, h6⟩ := h'
  obtain ⟨off', cs, e, e1, e2, e3⟩ := h6 (by simp)
  have hsame : w'.cell? ⟨rb, 0, none⟩ = some (.slice (some ⟨b, off, none⟩) (x :: t).length cap) := (q.cell (p := ⟨rb, 0, none⟩) hlt).trans h0
  have hsame2 := cell_of_row _ _ 0 _ _ _ h1
  rw [hsame] at hsame2
  subst e
  obtain ⟨⟨rfl, rfl⟩, rfl⟩ : (b = g ∧ off = off') ∧ cap = cap' := by simpa using hsame2
  refine ⟨⟨_, cap, (Below.heap_setCell _ _ _ _ (fun e => e2 e.symm)).trans h1, h2, h3, h4, h5, fun _ => ⟨off, _, rfl, heap_setCell_same w' b (off + 1) _ _ _ e1, e2, fun j u hj => ?_⟩⟩, ?_⟩
  · rw [acells_cons] at hj
    by_cases hj1 : j = 1
    · subst hj1
      have hsz : off + 1 < cs.size := by have := e3 1 (.int .i64 x.n) rfl; exact (Array.getElem?_eq_some_iff.1 this).1
      rw [Array.getElem?_setIfInBounds_self_of_lt hsz]
      exact hj
    · rw [Array.getElem?_setIfInBounds_ne (by omega)]
      refine e3 j u ?_
      rw [acells_cons, ← hj]
      match j, hj1 with
      | 0, _ => rfl
      | 1, h => exact absurd rfl h
      | j + 2, _ => rfl
  · exact (Only.of_below q).trans (Only.set w' _ _ (Or.inr rfl))
/-- a call of a row: an answer; the row behind it -/
def RP (T : TypeId) (v : Value) (rb g : Nat) (l : List Ak) (w : World) (e : Ending) (w' : World) : Prop := e = .returned v ∧ RW T w' rb g l ∧ Only (Two rb g) w w'

/-- a number, brought to be from 0 to below n -/
def bring (a n : Int) : Int := if a.tmod n < 0 then a.tmod n + n else a.tmod n
theorem bring_bd (a n : Int) (h : 1 ≤ n) : 0 ≤ bring a n ∧ bring a n < n := by
  unfold bring
  have h1 := Int.lt_tmod_of_pos a (by omega : 0 < n)
  have h2 := Int.tmod_lt_of_pos a (by omega : 0 < n)
  split <;> omega
set_option maxHeartbeats 400000 in
theorem bring_any (a n : Int) (w : World) (h : 1 ≤ n) (hn : n ≤ 100000) : Calls Tryz.prog 10 #[.int .i64 a, .int .i64 n] w (IsI (bring a n) w) := by
  unfold bring
  have h1 := Int.lt_tmod_of_pos a (by omega : 0 < n)
  have h2 := Int.tmod_lt_of_pos a (by omega : 0 < n)
  have hz : (n == 0) = false := by simp; omega
  have hw64 : wrap64 (a.tmod n) = a.tmod n := IntWalk.wrap64_in _ ⟨by omega, by omega⟩
  by_cases hr : a.tmod n < 0
  · rw [if_pos hr]
    have hd : decide (a.tmod n < 0) = true := by simpa using hr
    go_enter Tryz.func10, Tryz.ntmps10
    go_wp2
    go_ret
    exact ⟨rfl, rfl⟩
  · rw [if_neg hr]
    have hd : decide (a.tmod n < 0) = false := by simpa using hr
    go_enter Tryz.func10, Tryz.ntmps10
    go_wp2
    go_ret
    exact ⟨rfl, rfl⟩
end Go.Proofs.YtkkmfpllgjoceaaGreat

namespace Go.Proofs.YtkkmfpllgjoceaaGreat
open Go.RowKit Ac Go.ChangeMaps Go.MapKept
set_option linter.unusedVariables false
set_option maxRecDepth 100000

def bv (a b c : Int) : Value := .agg #[.int .i64 a, .int .i64 b, .int .i64 c]
def ent (k : Int) (v : Value) (t : Nat) : MapEntry := { key := .int .i64 k, val := v, born := t }
def rows : List MapEntry := [ent 1 (bv 1 64 0) 0, ent 2 (bv 0 7 0) 1, ent 3 (bv 0 0 0) 2, ent 4 (bv 0 0 0) 3, ent 5 (bv 0 0 0) 4, ent 6 (bv 0 7 16) 5, ent 7 (bv 0 7 0) 6, ent 8 (bv 1 64 0) 7]
def tab (n : Nat) : Array MapEntry := (rows.take n).toArray
theorem put_any {w0 w : World} {b : Nat} {n : Nat} {k : Int} {v : Value} (hw : Below w0.heap.size w0 w) (h0 : w0.heap.size ≤ b) (hb : w.heap[b]? = some (.map (tab n) n)) (hf : Instr.findNow (.int .i64) (.int .i64 k) (tab n).toList 0 = some none) (hn : (tab n).push (ent k v n) = tab (n + 1)) :
    ∃ w', (Instr.mapUpdate 217 (.map (some b)) (.int .i64 k) v).run Tryz.prog w = .ok () w' ∧ w'.heap[b]? = some (.map (tab (n + 1)) (n + 1)) ∧ Below w0.heap.size w0 w' := by
  refine ⟨setBlock w b (.map ((tab n).push (ent k v n)) (n + 1)), ?_, ?_, ?_⟩
  · simp [Instr.mapUpdate, run_underlying Tryz.underlying217, MapKept.run_getObj_map hb, run_checkKey Tryz.underlying3 (k := .int .i64 k) rfl, run_findKey Tryz.underlying3 hf, MapKept.run_setObj_map _ hb, Result.andThen, setBlock, ent]
  · rw [heap_setBlock_same hb, hn]
  · refine ⟨hw.os, hw.tape, hw.output, ?_, fun j hj => ?_⟩
    · have := hw.size; simp [setBlock]; exact this
    · rw [heap_setBlock_other hb _ (show j ≠ b by omega)]
      exact hw.block j hj
theorem look_yes {w : World} {b : Nat} (hb : w.heap[b]? = some (.map (tab 8) 8)) {k x y z : Int} (h : bnd k = some (x, y, z)) :
    (Instr.lookup 217 (.map (some b)) (.int .i64 k) true).run Tryz.prog w = .ok (.tuple #[.agg #[.int .i64 x, .int .i64 y, .int .i64 z], .bool true]) w := by
  have hf : ∃ i, Instr.findNow (.int .i64) (.int .i64 k) (tab 8).toList 0 = some (some (i, bv x y z)) := by
    rcases kinds k with rfl | rfl | rfl | rfl | rfl | rfl | rfl | rfl | q
    all_goals first
      | (rw [bnd_none q] at h; cases h; done)
      | (have e : (x, y, z) = _ := (Option.some.inj h).symm
         first
           | (simp [bnd] at h; obtain ⟨rfl, rfl, rfl⟩ := h; exact ⟨_, rfl⟩))
  obtain ⟨i, hf⟩ := hf
  simp [Instr.lookup, run_underlying Tryz.underlying217, MapKept.run_getObj_map hb, run_checkKey Tryz.underlying3 (k := .int .i64 k) rfl, run_findKey Tryz.underlying3 hf, Result.andThen, bv]
theorem look_no {w : World} {b : Nat} (hb : w.heap[b]? = some (.map (tab 8) 8)) {k : Int} (h : bnd k = none) :
    (Instr.lookup 217 (.map (some b)) (.int .i64 k) true).run Tryz.prog w = .ok (.tuple #[.agg #[.int .i64 0, .int .i64 0, .int .i64 0], .bool false]) w := by
  have hf : Instr.findNow (.int .i64) (.int .i64 k) (tab 8).toList 0 = some none := by
    rcases kinds k with rfl | rfl | rfl | rfl | rfl | rfl | rfl | rfl | q
    all_goals first
      | (simp [bnd] at h; done)
      | (obtain ⟨q1, q2, q3, q4, q5, q6, q7, q8⟩ := q
         simp [Instr.findNow, Instr.sameNow, tab, rows, ent, q1, q2, q3, q4, q5, q6, q7, q8])
  simp [Instr.lookup, run_underlying Tryz.underlying217, MapKept.run_getObj_map hb, run_checkKey Tryz.underlying3 (k := .int .i64 k) rfl, run_findKey Tryz.underlying3 hf, Result.andThen]
/-- the table is answered -/
def BdP (w : World) (e : Ending) (w' : World) : Prop := ∃ B, e = .returned (.map (some B)) ∧ w.heap.size ≤ B ∧ w'.heap[B]? = some (.map (tab 8) 8) ∧ Below w.heap.size w w'
set_option maxHeartbeats 2000000 in
theorem bounds_any (w : World) : Calls Tryz.prog 206 #[] w (BdP w) := by
  have hmm := @run_makeMap Tryz.prog
  obtain ⟨w1, r1, b1, l1⟩ := put_any (w0 := w) (w := w.alloc (.map #[] 0)) (b := w.heap.size) (n := 0) (k := 1) (v := bv 1 64 0) ((Below.refl _ _).alloc (Nat.le_refl _) _) (Nat.le_refl _) (MapKept.heap_alloc w _).1 rfl rfl
  obtain ⟨w2, r2, b2, l2⟩ := put_any (k := 2) (v := bv 0 7 0) l1 (Nat.le_refl _) b1 rfl rfl
  obtain ⟨w3, r3, b3, l3⟩ := put_any (k := 3) (v := bv 0 0 0) l2 (Nat.le_refl _) b2 rfl rfl
  obtain ⟨w4, r4, b4, l4⟩ := put_any (k := 4) (v := bv 0 0 0) l3 (Nat.le_refl _) b3 rfl rfl
  obtain ⟨w5, r5, b5, l5⟩ := put_any (k := 5) (v := bv 0 0 0) l4 (Nat.le_refl _) b4 rfl rfl
  obtain ⟨w6, r6, b6, l6⟩ := put_any (k := 6) (v := bv 0 7 16) l5 (Nat.le_refl _) b5 rfl rfl
  obtain ⟨w7, r7, b7, l7⟩ := put_any (k := 7) (v := bv 0 7 0) l6 (Nat.le_refl _) b6 rfl rfl
  obtain ⟨w8, r8, b8, l8⟩ := put_any (k := 8) (v := bv 1 64 0) l7 (Nat.le_refl _) b7 rfl rfl
  have H := Lib.hid (show BdP w (.returned (.map (some w.heap.size))) w8 from ⟨_, rfl, Nat.le_refl _, b8, l8⟩)
  simp only [bv] at r1 r2 r3 r4 r5 r6 r7 r8
  clear b1 b2 b3 b4 b5 b6 b7 b8 l1 l2 l3 l4 l5 l6 l7 l8
  go_enter Tryz.func206, Tryz.ntmps206
  go_wp2_with fail
  go_ret
  exact H.out
/-- an act, by value -/
def av (x : Ak) : Value := .agg #[.int .i64 x.k, .int .i64 x.n, .string x.s]
end Go.Proofs.YtkkmfpllgjoceaaGreat

namespace Go.Proofs.YtkkmfpllgjoceaaGreat
open Go.RowKit Ac
set_option linter.unusedVariables false
set_option maxRecDepth 100000

theorem keep_al {w0 : World} {ob : Nat} {v : Value} (hz : w0.heap.size = ob + 1) (h : w0.cell? ⟨ob, 0, none⟩ = some v ∧ Below (ob + 1) w0 w0) (o : Obj) : (w0.alloc o).drew.cell? ⟨ob, 0, none⟩ = some v ∧ Below (ob + 1) w0 (w0.alloc o).drew :=
  ⟨(World.cell?_alloc_lt w0 o ⟨ob, 0, none⟩ (show ob < w0.heap.size by omega)).trans h.1, below_drew (h.2.alloc (by omega) o)⟩
theorem keep_cl {w0 W w1 : World} {ob : Nat} {v : Value} (hz : w0.heap.size = ob + 1) (h : W.cell? ⟨ob, 0, none⟩ = some v ∧ Below (ob + 1) w0 W) (hb : Below W.heap.size W w1) : w1.cell? ⟨ob, 0, none⟩ = some v ∧ Below (ob + 1) w0 w1 :=
  ⟨(hb.cell (p := ⟨ob, 0, none⟩) (show ob < W.heap.size by have := h.2.size; omega)).trans h.1, h.2.trans (hb.mono (by have := h.2.size; omega))⟩
theorem var_cl {W w1 : World} {cs : Array Value} {T : TypeId} (hb : Below (W.alloc (.cells cs T)).heap.size (W.alloc (.cells cs T)) w1) : w1.heap[W.heap.size]? = some (.cells cs T (0, 0)) := (hb.block _ (by simp)).trans (heap_alloc_new W _)
theorem var_facts {w0 w1 : World} {x y z : Value} {T : TypeId} (hb : Below (w0.alloc (.cells #[x, y, z] T)).drew.heap.size (w0.alloc (.cells #[x, y, z] T)).drew w1) :
    (w1.cell? ⟨w0.heap.size, 0, none⟩ = some x ∧ w1.cell? ⟨w0.heap.size, 0 + 1, none⟩ = some y ∧ w1.cell? ⟨w0.heap.size, 0 + 2, none⟩ = some z) ∧ w1.frozen? ⟨w0.heap.size, 0, none⟩ = false ∧ w1.frozen? ⟨w0.heap.size, 0 + 1, none⟩ = false ∧ w1.frozen? ⟨w0.heap.size, 0 + 2, none⟩ = false := by
  have hb' : Below (w0.alloc (.cells #[x, y, z] T)).heap.size (w0.alloc (.cells #[x, y, z] T)) w1 := ⟨hb.os, hb.tape, hb.output, hb.size, hb.block⟩
  have h : w1.heap[w0.heap.size]? = some (.cells #[x, y, z] T (0, 0)) := var_cl hb'
  exact ⟨⟨cell_of_row _ _ 0 _ _ _ h, cell_of_row _ _ 1 _ _ _ h, cell_of_row _ _ 2 _ _ _ h⟩, frozen_of_row _ _ 0 _ _ h, frozen_of_row _ _ 1 _ _ h, frozen_of_row _ _ 2 _ _ h⟩
theorem keep_al2 {w0 w1 : World} {ob : Nat} {v : Value} (hz : w0.heap.size = ob + 1) (h : w1.cell? ⟨ob, 0, none⟩ = some v ∧ Below (ob + 1) w0 w1) (o : Obj) : (w1.alloc o).cell? ⟨ob, 0, none⟩ = some v ∧ Below (ob + 1) w0 (w1.alloc o) :=
  ⟨(World.cell?_alloc_lt w1 o ⟨ob, 0, none⟩ (show ob < w1.heap.size by have := h.2.size; omega)).trans h.1, h.2.alloc (by have := h.2.size; omega) o⟩
theorem keep_st {w0 w1 : World} {ob : Nat} {v a b c : Value} (hz : w0.heap.size = ob + 1) (h : w1.cell? ⟨ob, 0, none⟩ = some v ∧ Below (ob + 1) w0 w1) :
    (((w1.setCell ⟨w0.heap.size, 0, none⟩ a).setCell ⟨w0.heap.size, 1, none⟩ b).setCell ⟨w0.heap.size, 2, none⟩ c).cell? ⟨ob, 0, none⟩ = some v ∧ Below (ob + 1) w0 (((w1.setCell ⟨w0.heap.size, 0, none⟩ a).setCell ⟨w0.heap.size, 1, none⟩ b).setCell ⟨w0.heap.size, 2, none⟩ c) := by
  have hb := (((Below.refl (ob + 1) w1).setCell (p := ⟨w0.heap.size, 0, none⟩) (show ob + 1 ≤ w0.heap.size by omega) a).setCell (p := ⟨w0.heap.size, 1, none⟩) (show ob + 1 ≤ w0.heap.size by omega) b).setCell (p := ⟨w0.heap.size, 2, none⟩) (show ob + 1 ≤ w0.heap.size by omega) c
  exact ⟨(hb.cell (p := ⟨ob, 0, none⟩) (show ob < ob + 1 by omega)).trans h.1, h.2.trans hb⟩
/-- behind the table's asking: the act, what was told of its kind -/
structure Fin (ob vb : Nat) (n p q r : Int) (s : ByteArray) (w W : World) : Prop where
  c1 : W.cell? ⟨ob, 0 + 1, none⟩ = some (.int .i64 n)
  c2 : W.cell? ⟨ob, 0 + 2, none⟩ = some (.string s)
  v0 : W.cell? ⟨vb, 0, none⟩ = some (.int .i64 p)
  v1 : W.cell? ⟨vb, 0 + 1, none⟩ = some (.int .i64 q)
  v2 : W.cell? ⟨vb, 0 + 2, none⟩ = some (.int .i64 r)
  bl : Below ob w W
theorem fin_a {w w0 w1 : World} {ob : Nat} {k n : Int} {s : ByteArray} {T U : TypeId} (h : Below ob w w0) (hob : w0.heap[ob]? = some (.cells #[.int .i64 k, .int .i64 n, .string s] T (0, 0))) (hz : w0.heap.size = ob + 1) (hb : Below (ob + 1) w0 w1) (p q r : Int) :
    Fin ob w1.heap.size n p q r s w (w1.alloc (.cells #[.int .i64 p, .int .i64 q, .int .i64 r] U)) := by
  have hs := hb.size
  have h1 : (w1.alloc (.cells #[.int .i64 p, .int .i64 q, .int .i64 r] U)).heap[ob]? = some (.cells #[.int .i64 k, .int .i64 n, .string s] T (0, 0)) := (Below.heap_alloc w1 _ ob (by omega)).trans ((hb.block ob (by omega)).trans hob)
  have h2 := heap_alloc_new w1 (.cells #[.int .i64 p, .int .i64 q, .int .i64 r] U)
  exact ⟨cell_of_row _ _ 1 _ _ _ h1, cell_of_row _ _ 2 _ _ _ h1, cell_of_row _ _ 0 _ _ _ h2, cell_of_row _ _ 1 _ _ _ h2, cell_of_row _ _ 2 _ _ _ h2, (h.trans (hb.mono (by omega))).alloc (by omega) _⟩
theorem fin_b {w w0 w1 : World} {ob : Nat} {k n : Int} {s : ByteArray} {T U : TypeId} {x y z : Value} (h : Below ob w w0) (hob : w0.heap[ob]? = some (.cells #[.int .i64 k, .int .i64 n, .string s] T (0, 0))) (hz : w0.heap.size = ob + 1) (hb : Below (ob + 1) w0 w1)
    (hb1 : Below (w0.alloc (.cells #[x, y, z] U)).drew.heap.size (w0.alloc (.cells #[x, y, z] U)).drew w1) (p q r : Int) :
    Fin ob w0.heap.size n p q r s w (((w1.setCell ⟨w0.heap.size, 0, none⟩ (.int .i64 p)).setCell ⟨w0.heap.size, 1, none⟩ (.int .i64 q)).setCell ⟨w0.heap.size, 2, none⟩ (.int .i64 r)) := by
  have hs := hb.size
  have hb' : Below (w0.alloc (.cells #[x, y, z] U)).heap.size (w0.alloc (.cells #[x, y, z] U)) w1 := ⟨hb1.os, hb1.tape, hb1.output, hb1.size, hb1.block⟩
  have hv : w1.heap[w0.heap.size]? = some (.cells #[x, y, z] U (0, 0)) := var_cl hb'
  have h2 := heap_setCell_same _ _ 2 _ _ (.int .i64 r) (heap_setCell_same _ _ 1 _ _ (.int .i64 q) (heap_setCell_same _ _ 0 _ _ (.int .i64 p) hv))
  have hne : ob ≠ w0.heap.size := by omega
  have hbb := (((Below.refl (ob + 1) w1).setCell (p := ⟨w0.heap.size, 0, none⟩) (show ob + 1 ≤ w0.heap.size by omega) (.int .i64 p)).setCell (p := ⟨w0.heap.size, 1, none⟩) (show ob + 1 ≤ w0.heap.size by omega) (.int .i64 q)).setCell (p := ⟨w0.heap.size, 2, none⟩) (show ob + 1 ≤ w0.heap.size by omega) (.int .i64 r)
  have h1 := (hbb.block ob (by omega)).trans ((hb.block ob (by omega)).trans hob)
  exact ⟨cell_of_row _ _ 1 _ _ _ h1, cell_of_row _ _ 2 _ _ _ h1, cell_of_row _ _ 0 _ _ _ h2, cell_of_row _ _ 1 _ _ _ h2, cell_of_row _ _ 2 _ _ _ h2, (h.trans (hb.mono (by omega))).trans (hbb.mono (by omega))⟩
theorem look_al {w1 : World} {B : Nat} (h : w1.heap[B]? = some (.map (tab 8) 8)) (o : Obj) : (w1.alloc o).heap[B]? = some (.map (tab 8) 8) := (Below.heap_alloc w1 o B (lt_of_block h)).trans h
set_option maxHeartbeats 4000000 in
theorem check_gen {x : Ak} (w : World) {p q r : Int} {ok : Bool}
    (hlk : ∀ (W : World) (b : Nat), W.heap[b]? = some (.map (tab 8) 8) → (Instr.lookup 217 (.map (some b)) (.int .i64 x.k) true).run Tryz.prog W = .ok (.tuple #[.agg #[.int .i64 p, .int .i64 q, .int .i64 r], .bool ok]) W) (e : Int)
    (hc : (ok = false ∧ e = 2) ∨ (ok = true ∧ x.n < p ∧ e = 2) ∨ (ok = true ∧ p ≤ x.n ∧ q < x.n ∧ e = 2) ∨ (ok = true ∧ p ≤ x.n ∧ x.n ≤ q ∧ r < (x.s.size : Int) ∧ e = 2) ∨ (ok = true ∧ p ≤ x.n ∧ x.n ≤ q ∧ (x.s.size : Int) ≤ r ∧ e = 0)) :
    Calls Tryz.prog 191 #[av x] w (VB (.int .i64 e) w) := by
  obtain ⟨k, n, s⟩ := x
  unfold av
  simp only at hlk hc ⊢
  have hA := (Below.refl _ w).alloc (Nat.le_refl _) (.cells #[.int .i64 k, .int .i64 n, .string s] 57)
  have hob := heap_alloc_new w (.cells #[.int .i64 k, .int .i64 n, .string s] 57)
  have HA := Lib.hid hA
  have HOB := Lib.hid hob
  have HLK := Lib.hid hlk
  have c0 : (w.alloc (.cells #[.int .i64 k, .int .i64 n, .string s] 57)).cell? ⟨w.heap.size, 0, none⟩ = some (.int .i64 k) := cell_of_row _ _ 0 _ _ _ hob
  have hsz : w.heap.size < (w.alloc (.cells #[.int .i64 k, .int .i64 n, .string s] 57)).heap.size := by simp
  clear hA hob hlk
  go_enter Tryz.func191, Tryz.ntmps191
  go_wp2_with fail
  have HS0 := Lib.hid (And.intro c0 (Below.refl (w.heap.size + 1) (w.alloc (.cells #[.int .i64 k, .int .i64 n, .string s] 57))))
  have hz0 : (w.alloc (.cells #[.int .i64 k, .int .i64 n, .string s] 57)).heap.size = w.heap.size + 1 := by simp
  have HZ := Lib.hid hz0
  clear hz0
  generalize w.alloc (.cells #[.int .i64 k, .int .i64 n, .string s] 57) = w0 at *
  generalize hoe : w.heap.size = ob at *
  have HOE := Lib.hid hoe
  clear hoe
  go_region_held3 (fun w' => w'.cell? ⟨ob, 0, none⟩ = some (.int .i64 k) ∧ Below (ob + 1) w0 w')
    (first | assumption | exact HS0.out | exact ⟨HS0.out.1, HS0.out.2.drew⟩ | exact keep_al HZ.out HS0.out _ | exact keep_al2 HZ.out hS1 _ | exact keep_st HZ.out hS1)
    (first
      | (go_at_call 206; (with_reducible refine (bounds_any (w0.alloc (.cells #[.int .i64 0, .int .i64 0, .int .i64 0] 215)).drew).mono ?_); rintro e1 w1 ⟨B, rfl, hB, hm1, hb1⟩; have hS1 := keep_cl HZ.out (by assumption) hb1; obtain ⟨⟨v0, v1, v2⟩, f0, f1, f2⟩ := var_facts hb1; have hl1 := HLK.out _ _ hm1; have hl2 := HLK.out _ _ (look_al hm1 (.cells #[.int .i64 0, .int .i64 0, .int .i64 0] 215)); clear hm1)
      | (go_at_call 206; (with_reducible refine (bounds_any w0.drew).mono ?_); rintro e1 w1 ⟨B, rfl, hB, hm1, hb1⟩; have hS1 := keep_cl HZ.out (by assumption) hb1; have hl1 := HLK.out _ _ hm1; have hl2 := HLK.out _ _ (look_al hm1 (.cells #[.int .i64 0, .int .i64 0, .int .i64 0] 215)); clear hm1))
  all_goals
    first
      | (obtain ⟨d1, d2, g0, g1, g2, hbl⟩ := fin_b HA.out HOB.out HZ.out hS1.2 hb1 p q r
         clear hl1 hl2 hb1 hS1 HS0 v0 v1 v2 f0 f1 f2
         generalize ((w1.setCell ⟨w0.heap.size, 0, none⟩ (.int .i64 p)).setCell ⟨w0.heap.size, 1, none⟩ (.int .i64 q)).setCell ⟨w0.heap.size, 2, none⟩ (.int .i64 r) = W at *
         generalize w0.heap.size = vb at *)
      | (obtain ⟨d1, d2, g0, g1, g2, hbl⟩ := fin_a (U := 215) HA.out HOB.out HZ.out hS1.2 p q r
         clear hl1 hl2 hb1 hS1 HS0
         generalize w1.alloc (.cells #[.int .i64 p, .int .i64 q, .int .i64 r] 215) = W at *
         generalize w1.heap.size = vb at *)
    have HBL := Lib.hid hbl
    clear hbl
    rcases hc with ⟨rfl, rfl⟩ | ⟨rfl, h1, rfl⟩ | ⟨rfl, h1, h2, rfl⟩ | ⟨rfl, h1, h2, h3, rfl⟩ | ⟨rfl, h1, h2, h3, rfl⟩
    · go_wp2_with fail
      go_ret
      exact ⟨rfl, by rw [HOE.out]; exact HBL.out⟩
    · have e1 : decide (n < p) = true := by simpa using h1
      go_wp2_with fail
      go_ret
      exact ⟨rfl, by rw [HOE.out]; exact HBL.out⟩
    · have e1 : decide (n < p) = false := by simp; omega
      have e2 : decide (q < n) = true := by simpa using h2
      go_wp2_with fail
      go_ret
      exact ⟨rfl, by rw [HOE.out]; exact HBL.out⟩
    · have e1 : decide (n < p) = false := by simp; omega
      have e2 : decide (q < n) = false := by simp; omega
      have e3 : decide (r < (s.size : Int)) = true := by simpa using h3
      go_wp2_with fail
      go_ret
      exact ⟨rfl, by rw [HOE.out]; exact HBL.out⟩
    · have e1 : decide (n < p) = false := by simp; omega
      have e2 : decide (q < n) = false := by simp; omega
      have e3 : decide (r < (s.size : Int)) = false := by simp; omega
      go_wp2_with fail
      go_ret
      exact ⟨rfl, by rw [HOE.out]; exact HBL.out⟩
theorem check_any (x : Ak) (w : World) : Calls Tryz.prog 191 #[av x] w (VB (.int .i64 (chk x)) w) := by
  cases hb : bnd x.k with
  | none => exact check_gen w (fun W b h => look_no h hb) _ (Or.inl ⟨rfl, chk_no (not_may_none hb)⟩)
  | some z =>
    obtain ⟨p, q, r⟩ := z
    refine check_gen w (fun W b h => look_yes h hb) _ (Or.inr ?_)
    by_cases h1 : x.n < p
    · exact Or.inl ⟨rfl, h1, chk_no (not_may hb (Or.inl h1))⟩
    by_cases h2 : q < x.n
    · exact Or.inr (Or.inl ⟨rfl, by omega, h2, chk_no (not_may hb (Or.inr (Or.inl h2)))⟩)
    by_cases h3 : r < (x.s.size : Int)
    · exact Or.inr (Or.inr (Or.inl ⟨rfl, by omega, by omega, h3, chk_no (not_may hb (Or.inr (Or.inr h3)))⟩))
    · exact Or.inr (Or.inr (Or.inr ⟨rfl, by omega, by omega, by omega, chk_yes (may_of hb (by omega) (by omega) (by omega))⟩))
end Go.Proofs.YtkkmfpllgjoceaaGreat

namespace Go.Proofs.YtkkmfpllgjoceaaGreat
open Go.RowKit Ac
set_option linter.unusedVariables false
set_option maxRecDepth 100000

abbrev PR (w : World) (rb g : Nat) (l : List Ak) : Prop := RW 201 w rb g l
abbrev DR (w : World) (rb g : Nat) (l : List Ak) : Prop := RW 211 w rb g l
theorem todo_cell {w : World} {rb : Nat} {v : Value} (c0 : w.cell? ⟨rb, 0, none⟩ = some v) : Calls Tryz.prog 194 #[.pointer (some ⟨rb, 0, none⟩)] w (IsV v w) := by
  go_enter Tryz.func194, Tryz.ntmps194
  go_wp2_with fail
  go_ret
  exact ⟨rfl, rfl⟩
theorem todo_nil (w : World) : Calls Tryz.prog 194 #[.pointer none] w (IsV (.slice none 0 0) w) := by
  go_enter Tryz.func194, Tryz.ntmps194
  go_wp2_with fail
  go_ret
  exact ⟨rfl, rfl⟩
theorem qT (w : World) (a : Option Addr) (n c n' c' : Nat) : (binOp .eql 31 (.slice a n c) (.slice none n' c')).run Tryz.prog w = .ok (.bool a.isNone) w := Lib.run_eql_slice_nil w _ _ a n c n' c' Tryz.underlying31
theorem none_of {w : World} {v : Value} {a : Option Addr} {n c : Nat} (h : Calls Tryz.prog 194 #[v] w (IsV (.slice a n c) w)) : Calls Tryz.prog 177 #[v] w (IsB a.isNone w) := by
  have H := Lib.hid h
  have q := qT
  clear h
  go_enter Tryz.func177, Tryz.ntmps177
  go_wp2_with fail
  refine H.out.mono ?_
  rintro e w1 ⟨rfl, rfl⟩
  go_wp2_with fail
  go_ret
  exact ⟨rfl, rfl⟩
/-- what todo tells of a row -/
theorem pr_todo {w : World} {rb g : Nat} {l : List Ak} (h : PR w rb g l) : ∃ x cap, AS w (.slice (some x) l.length cap) l ∧ w.cell? ⟨rb, 0, none⟩ = some (.slice (some x) l.length cap) ∧ Calls Tryz.prog 194 #[.pointer (some ⟨rb, 0, none⟩)] w (IsV (.slice (some x) l.length cap) w) := by
  obtain ⟨a, cap, c0, hs, hn⟩ := h.as
  obtain ⟨x, rfl⟩ := hn rfl
  exact ⟨x, cap, hs, c0, todo_cell c0⟩
theorem pr_is {w : World} {rb g : Nat} {l : List Ak} (h : PR w rb g l) : Calls Tryz.prog 177 #[.pointer (some ⟨rb, 0, none⟩)] w (IsB false w) := by
  obtain ⟨x, cap, _, _, h⟩ := pr_todo h
  exact none_of h
/-- an act and whether it is one -/
def nv (l : List Ak) : Value := .tuple #[av (nxt l), .bool (isn l)]
set_option maxHeartbeats 1000000 in
theorem next_any {w : World} {rb g : Nat} {l : List Ak} (h : PR w rb g l) : Calls Tryz.prog 162 #[.pointer (some ⟨rb, 0, none⟩)] w (VB (nv l) w) := by
  obtain ⟨x, cap, hs, c0, ht⟩ := pr_todo (h.below ((Below.refl _ w).alloc (Nat.le_refl _) (.cells #[.int .i64 0, .int .i64 0, .string ⟨#[]⟩] 57)))
  have HT := Lib.hid ht
  cases l with
  | nil =>
    clear hs ht h c0
    go_enter Tryz.func162, Tryz.ntmps162
    go_wp2_with fail
    refine HT.out.mono ?_
    rintro e w1 ⟨rfl, rfl⟩
    go_wp2_with fail
    go_returns
    exact ⟨rfl, (Below.refl _ _).alloc (Nat.le_refl _) _⟩
  | cons y t =>
    obtain ⟨b, off, e, d0, d1, d2⟩ := hs.at (i := 0) (by simp)
    simp only [Nat.zero_mul, Nat.add_zero] at d0 d1 d2
    injection e with e
    subst e
    have hlen : (y :: t).length = t.length + 1 := rfl
    rw [hlen] at HT
    generalize t.length = m at *
    clear hs ht h c0 hlen
    go_enter Tryz.func162, Tryz.ntmps162
    go_wp2_with fail
    refine HT.out.mono ?_
    rintro e w1 ⟨rfl, rfl⟩
    go_wp2_with fail
    go_returns
    exact ⟨rfl, (Below.refl _ _).alloc (Nat.le_refl _) _⟩
set_option maxHeartbeats 1000000 in
theorem left_any {w : World} {rb g : Nat} {l : List Ak} (h : PR w rb g l) (hg : Gd l) : Calls Tryz.prog 157 #[.pointer (some ⟨rb, 0, none⟩)] w (VB (.int .i64 (left l)) w) := by
  obtain ⟨ad, cap, hs, c0, ht⟩ := pr_todo h
  have HT := Lib.hid ht
  have HS := Lib.hid hs
  have HG := Lib.hid hg
  have hlen := hg.len
  obtain ⟨m, hm⟩ : ∃ m, m = l.length := ⟨_, rfl⟩
  have HM := Lib.hid hm
  rw [← hm] at HT HS hlen
  clear ht hs hg hm h c0
  go_enter Tryz.func157, Tryz.ntmps157
  go_wp2_with fail
  refine HT.out.mono ?_
  rintro e w1 ⟨rfl, rfl⟩
  go_wp2_with fail
  go_loopw [3, 5, 9] (fun v _ i wr => ∃ k : Nat, k ≤ m ∧ i = .int .i64 k ∧ ∃ q : Int, v = .int .i64 q ∧ 0 ≤ q ∧ q ≤ 64 * k ∧ Hid (q = left (l.take k)) ∧ Hid (Below w.heap.size w wr)) (fun _ _ i _ => m - (intOf i).toNat)
  case atStart => exact ⟨0, Nat.zero_le _, rfl, 0, rfl, by omega, by omega, rfl, Below.refl _ _⟩
  case round =>
    obtain ⟨k, hk, rfl, q, rfl, hq0, hq1, HQ, HB⟩ := hrel
    by_cases hlt : k < m
    · obtain ⟨b, off, e, d0, d1, d2⟩ := (HS.out.below HB.out).at hlt
      injection e with e
      subst e
      have hkl : k < l.length := by rw [← HM.out]; exact hlt
      have HL := Lib.hid (left_take l k hkl)
      have hbd := one_bd (HG.out.all (l.getD k o0) (by rw [List.getD_eq_getElem?_getD, List.getElem?_eq_getElem hkl]; exact List.getElem_mem hkl))
      have HO : Hid (one (l.getD k o0) = if (l.getD k o0).k = 1 then (l.getD k o0).n else 0) := rfl
      generalize one (l.getD k o0) = z at *
      generalize (l.getD k o0).k = yk at *
      generalize (l.getD k o0).n = yn at *
      generalize (l.getD k o0).s = ys at *
      clear hkl
      by_cases hk1 : yk = 1
      · subst hk1
        have hz : z = yn := by rw [HO.out]; rfl
        subst hz
        go_wp2_with fail
        go_roundw
        case rel => exact ⟨k + 1, by omega, by go_num, q + z, rfl, by omega, by omega, Lib.hid (by rw [HL.out, ← HQ.out]), HB.out.alloc HB.out.size _⟩
        case measure => simp [intOf]; omega
      · have hz : z = 0 := by rw [HO.out, if_neg hk1]
        subst hz
        have hd : (yk == 1) = false := by simpa using hk1
        clear hk1
        go_wp2_with fail
        go_roundw
        case rel => exact ⟨k + 1, by omega, by go_num, q, rfl, by omega, by omega, Lib.hid (by rw [HL.out, ← HQ.out, Int.add_zero]), HB.out.alloc HB.out.size _⟩
        case measure => simp [intOf]; omega
    · obtain rfl : k = m := by omega
      have HE := Lib.hid (show q = left l by rw [HQ.out, HM.out, List.take_length])
      go_wp2_with fail
      go_ret
      rw [← HE.out]
      exact ⟨rfl, HB.out⟩
/-- acts are answered, in a row of the call's own -/
def CloP (l : List Ak) (w : World) (e : Ending) (w' : World) : Prop := ∃ a c, e = .returned (.slice a l.length c) ∧ NA w' w.heap.size (.slice a l.length c) l ∧ Below w.heap.size w w'
theorem na_zero (w : World) : NA (w.alloc (.cells #[] 57)) w.heap.size (.slice (some ⟨w.heap.size, 0, none⟩) 0 0) [] :=
  ⟨rfl, Or.inr ⟨w.heap.size, 0, #[], rfl, Nat.le_refl _, heap_alloc_new w _, Nat.le_refl _, Nat.zero_le _, rfl, rfl⟩⟩
theorem below_al (w : World) (o : Obj) : Below w.heap.size w (w.alloc o) := (Below.refl _ _).alloc (Nat.le_refl _) _
/-- acts, copied behind none -/
theorem copied {w : World} {v : Value} {l : List Ak} (h : AS w v l) (hl : l.length ≤ 900) (ty : TypeId) :
    ∃ x c w', (Builtin.append_ #[31, 31] ty #[.slice (some ⟨w.heap.size, 0, none⟩) 0 0, v]).run Tryz.prog (w.alloc (.cells #[] 57)) = .ok (.slice (some x) l.length c) w' ∧ NA w' w.heap.size (.slice (some x) l.length c) l ∧ Below w.heap.size w w' := by
  obtain ⟨a, c, w', hrun, hown, hb, hx⟩ := app_acts (na_zero w) (h.below (below_al w _)) (by simp) (by simp; omega) ty
  obtain ⟨x, rfl⟩ := hx (by simp)
  exact ⟨x, c, w', hrun, hown, (below_al w _).trans hb⟩
end Go.Proofs.YtkkmfpllgjoceaaGreat

namespace Go.Proofs.YtkkmfpllgjoceaaGreat
open Go.RowKit Ac
set_option linter.unusedVariables false
set_option maxRecDepth 100000

/-- nothing is answered; what is next is cut off -/
def CutP (rb g : Nat) (t : List Ak) (w : World) (e : Ending) (w' : World) : Prop := e = .returned (.tuple #[]) ∧ PR w' rb g t ∧ Only (Two rb g) w w'
set_option maxHeartbeats 1000000 in
theorem cut_any {w : World} {rb g : Nat} {x : Ak} {t : List Ak} (h : PR w rb g (x :: t)) (hl : (x :: t).length ≤ 32) : Calls Tryz.prog 178 #[.pointer (some ⟨rb, 0, none⟩)] w (CutP rb g t w) := by
  obtain ⟨ad, cap, hs, c0, ht⟩ := pr_todo h
  obtain ⟨b, off, e, d0, d1, d2⟩ := hs.at (i := 0) (by simp)
  injection e with e
  subst e
  obtain ⟨a', cap', e, hc1, hc2⟩ := hs.slice
  obtain ⟨rfl, rfl⟩ : some ⟨b, off, none⟩ = a' ∧ cap = cap' := by simpa using e
  have HC := Lib.hid (h.cut (Below.refl _ _) t.length (Nat.le_refl _) (by simp at hl; unfold maxLen; omega) c0 (fun e => e))
  have hf : w.frozen? ⟨rb, 0, none⟩ = false := by obtain ⟨a, cap, h1, _⟩ := h; exact frozen_of_row _ _ 0 _ _ h1
  have hlen : (x :: t).length = t.length + 1 := rfl
  have hlt := h.lt
  rw [hlen] at c0 hl hc1
  clear hs ht h d0 d1 d2 e hlen
  generalize hm : t.length = m at *
  have HM := Lib.hid hm
  clear hm
  by_cases hm0 : m = 0
  · subst hm0
    go_enter Tryz.func178, Tryz.ntmps178
    go_wp2_with fail
    go_returns
    exact ⟨rfl, HC.out.1, HC.out.2⟩
  · have hm1 : (m == 0) = false := by simpa using hm0
    go_enter Tryz.func178, Tryz.ntmps178
    go_wp2_with fail
    go_returns
    have H := HC.out
    rw [if_neg hm0] at H
    exact ⟨rfl, H.1, H.2⟩
theorem pr_free {w : World} {rb g : Nat} {x : Ak} {t : List Ak} (h : PR w rb g (x :: t)) {b off cap : Nat} (h0 : w.cell? ⟨rb, 0, none⟩ = some (.slice (some ⟨b, off, none⟩) (x :: t).length cap)) : w.frozen? ⟨b, off + 1, none⟩ = false := by
  obtain ⟨a, cap', h1, h2, h3, h4, h5, h6⟩ := h
  obtain ⟨off', cs, e, e1, e2, e3⟩ := h6 (by simp)
  have h7 := cell_of_row _ _ 0 _ _ _ h1
  rw [h0] at h7
  subst e
  obtain ⟨⟨rfl, rfl⟩, rfl⟩ : (b = g ∧ off = off') ∧ cap = cap' := by simpa using h7
  exact frozen_of_row _ _ _ _ _ e1
theorem pr_step {w w1 : World} {rb g : Nat} {l : List Ak} (h : PR w rb g l) (hb : Below w.heap.size w w1) (o : Obj) : PR (w1.alloc o) rb g l ∧ Only (Two rb g) w (w1.alloc o) ∧ Below w.heap.size w (w1.alloc o) :=
  ⟨h.below (hb.alloc hb.size o), Only.of_below (hb.alloc hb.size o), hb.alloc hb.size o⟩
section
variable {w : World} {rb g : Nat} {l : List Ak}
set_option maxHeartbeats 2000000 in
theorem did_any (h : PR w rb g l) (hl : l.length ≤ 32) : Calls Tryz.prog 136 #[.pointer (some ⟨rb, 0, none⟩)] w (RP 201 (.int .i64 (didE l)) rb g (didL l) w) := by
  have HX := Lib.hid (next_any h)
  have HP := Lib.hid h
  clear h
  cases l with
  | nil =>
    have HX2 : Hid (Calls Tryz.prog 162 #[.pointer (some ⟨rb, 0, none⟩)] w (VB (.tuple #[.agg #[.int .i64 0, .int .i64 0, .string ⟨#[]⟩], .bool false]) w)) := HX.out
    clear HX
    go_enter Tryz.func136, Tryz.ntmps136
    go_wp2_with fail
    refine HX2.out.mono ?_
    rintro e w1 ⟨rfl, hb⟩
    obtain ⟨hp, ho, _⟩ := pr_step HP.out hb (.cells #[.int .i64 0, .int .i64 0, .string ⟨#[]⟩] 57)
    have HP2 := Lib.hid hp
    have HO := Lib.hid ho
    clear hp ho hb HX2
    go_wp2_with fail
    refine (pr_is HP2.out).mono ?_
    rintro e w2 ⟨rfl, rfl⟩
    go_wp2_with fail
    go_ret
    exact ⟨rfl, HP2.out, HO.out⟩
  | cons x t =>
    obtain ⟨k, n, s⟩ := x
    have HX2 : Hid (Calls Tryz.prog 162 #[.pointer (some ⟨rb, 0, none⟩)] w (VB (.tuple #[.agg #[.int .i64 k, .int .i64 n, .string s], .bool true]) w)) := HX.out
    have HL := Lib.hid hl
    clear HX hl
    by_cases hk : k = 1
    · subst hk
      go_enter Tryz.func136, Tryz.ntmps136
      go_wp2_with fail
      refine HX2.out.mono ?_
      rintro e w1 ⟨rfl, hb⟩
      obtain ⟨hp, ho, _⟩ := pr_step HP.out hb (.cells #[.int .i64 1, .int .i64 n, .string s] 57)
      have HP2 := Lib.hid hp
      have HO := Lib.hid ho
      clear hp ho hb HX2
      go_wp2_with fail
      refine (pr_is HP2.out).mono ?_
      rintro e w2 ⟨rfl, rfl⟩
      go_wp2_with fail
      go_ret
      exact ⟨rfl, HP2.out, HO.out⟩
    · have hd : (k == 1) = false := by simpa using hk
      have HK := Lib.hid hk
      clear hk
      go_enter Tryz.func136, Tryz.ntmps136
      go_wp2_with fail
      refine HX2.out.mono ?_
      rintro e w1 ⟨rfl, hb⟩
      obtain ⟨hp, ho, _⟩ := pr_step HP.out hb (.cells #[.int .i64 k, .int .i64 n, .string s] 57)
      have HP2 := Lib.hid hp
      have HO := Lib.hid ho
      clear hp ho hb HX2
      go_wp2_with fail
      refine (pr_is HP2.out).mono ?_
      rintro e w2 ⟨rfl, rfl⟩
      go_wp2_with fail
      refine (cut_any HP2.out HL.out).mono ?_
      rintro e w3 ⟨rfl, hp3, ho3⟩
      have HP3 := Lib.hid hp3
      have HO3 := Lib.hid ho3
      clear hp3 ho3
      go_wp2_with fail
      go_ret
      exact ⟨by rw [didE_no HK.out]; rfl, by rw [didL_no HK.out]; exact HP3.out, HO.out.trans HO3.out⟩
set_option maxHeartbeats 2000000 in
theorem ran_any (h : PR w rb g l) (hl : Gd l) : Calls Tryz.prog 137 #[.pointer (some ⟨rb, 0, none⟩)] w (RP 201 (.int .i64 (ranE l)) rb g (ranL l) w) := by
  have HX := Lib.hid (next_any h)
  have HP := Lib.hid h
  clear h
  cases l with
  | nil =>
    have HX2 : Hid (Calls Tryz.prog 162 #[.pointer (some ⟨rb, 0, none⟩)] w (VB (.tuple #[.agg #[.int .i64 0, .int .i64 0, .string ⟨#[]⟩], .bool false]) w)) := HX.out
    clear HX
    go_enter Tryz.func137, Tryz.ntmps137
    go_wp2_with fail
    refine HX2.out.mono ?_
    rintro e w1 ⟨rfl, hb⟩
    obtain ⟨hp, ho, _⟩ := pr_step HP.out hb (.cells #[.int .i64 0, .int .i64 0, .string ⟨#[]⟩] 57)
    have HP2 := Lib.hid hp
    have HO := Lib.hid ho
    clear hp ho hb HX2
    go_wp2_with fail
    refine (pr_is HP2.out).mono ?_
    rintro e w2 ⟨rfl, rfl⟩
    go_wp2_with fail
    go_ret
    exact ⟨rfl, HP2.out, HO.out⟩
  | cons x t =>
    have hg := good_head hl
    have hl := hl.len
    obtain ⟨k, n, s⟩ := x
    have HX2 : Hid (Calls Tryz.prog 162 #[.pointer (some ⟨rb, 0, none⟩)] w (VB (.tuple #[.agg #[.int .i64 k, .int .i64 n, .string s], .bool true]) w)) := HX.out
    have HL := Lib.hid hl
    have HG := Lib.hid hg
    clear HX hl hg
    by_cases hk : k = 1
    · subst hk
      obtain ⟨hn1, hn2⟩ := may_run HG.out rfl
      simp only at hn1 hn2
      by_cases hn : n = 1
      · subst hn
        go_enter Tryz.func137, Tryz.ntmps137
        go_wp2_with fail
        refine HX2.out.mono ?_
        rintro e w1 ⟨rfl, hb⟩
        obtain ⟨hp, ho, _⟩ := pr_step HP.out hb (.cells #[.int .i64 1, .int .i64 1, .string s] 57)
        have HP2 := Lib.hid hp
        have HO := Lib.hid ho
        clear hp ho hb HX2
        go_wp2_with fail
        refine (pr_is HP2.out).mono ?_
        rintro e w2 ⟨rfl, rfl⟩
        go_wp2_with fail
        refine (cut_any HP2.out HL.out).mono ?_
        rintro e w3 ⟨rfl, hp3, ho3⟩
        have HP3 := Lib.hid hp3
        have HO3 := Lib.hid ho3
        clear hp3 ho3
        go_wp2_with fail
        go_ret
        exact ⟨rfl, HP3.out, HO.out.trans HO3.out⟩
      · have hd : (n == 1) = false := by simpa using hn
        have HN := Lib.hid hn
        clear hn
        go_enter Tryz.func137, Tryz.ntmps137
        go_wp2_with fail
        refine HX2.out.mono ?_
        rintro e w1 ⟨rfl, hb⟩
        obtain ⟨hp, ho, hb2⟩ := pr_step HP.out hb (.cells #[.int .i64 1, .int .i64 n, .string s] 57)
        obtain ⟨ad, cap, hs, c0, _⟩ := pr_todo hp
        obtain ⟨b, off, e, d0, d1, d2⟩ := hs.at (i := 0) (by simp)
        injection e with e
        subst e
        obtain ⟨q1, q2⟩ := hp.less (Below.refl _ _) c0 (n - 1)
        have hf := pr_free hp c0
        have HQ := Lib.hid (show PR _ rb g (⟨1, n - 1, s⟩ :: t) ∧ Only (Two rb g) w _ from ⟨q1, ho.trans q2⟩)
        simp only [Nat.zero_mul, Nat.add_zero, List.getD_cons_zero] at d0 d1 d2
        have HP2 := Lib.hid hp
        have HL2 : Hid (t.length + 1 ≤ 32) := HL.out
        rw [show (⟨1, n, s⟩ :: t : List Ak).length = t.length + 1 from rfl] at c0
        generalize t.length = m at *
        clear hp ho hb hb2 q1 q2 hs HX2
        go_wp2_with fail
        refine (pr_is HP2.out).mono ?_
        rintro e w2 ⟨rfl, rfl⟩
        go_wp2_with fail
        go_ret
        exact ⟨rfl, by rw [ranL_less HN.out]; exact HQ.out.1, HQ.out.2⟩
    · have hd : (k == 1) = false := by simpa using hk
      have HK := Lib.hid hk
      clear hk
      go_enter Tryz.func137, Tryz.ntmps137
      go_wp2_with fail
      refine HX2.out.mono ?_
      rintro e w1 ⟨rfl, hb⟩
      obtain ⟨hp, ho, _⟩ := pr_step HP.out hb (.cells #[.int .i64 k, .int .i64 n, .string s] 57)
      have HP2 := Lib.hid hp
      have HO := Lib.hid ho
      clear hp ho hb HX2
      go_wp2_with fail
      refine (pr_is HP2.out).mono ?_
      rintro e w2 ⟨rfl, rfl⟩
      go_wp2_with fail
      go_ret
      exact ⟨by rw [ranE_no HK.out]; rfl, by rw [ranL_no HK.out]; exact HP2.out, HO.out⟩
end
/-- a pointer to a row and no error are answered; or none, and an error -/
def NewP (l : List Ak) (w : World) (e : Ending) (w' : World) : Prop := ∃ rb g, e = .returned (.tuple #[.pointer (some ⟨rb, 0, none⟩), .int .i64 0]) ∧ PR w' rb g l ∧ w.heap.size ≤ rb ∧ w.heap.size ≤ g ∧ g < w'.heap.size ∧ Below w.heap.size w w'
def NoP (r : Int) (w : World) (e : Ending) (w' : World) : Prop := e = .returned (.tuple #[.pointer none, .int .i64 r]) ∧ Below w.heap.size w w'
/-- a row's object, laid -/
theorem pr_new {w : World} {B : Nat} {x : Addr} {c : Nat} {l : List Ak} (h : NA w B (.slice (some x) l.length c) l) : PR (w.alloc (.cells #[.slice (some x) l.length c] 201)) w.heap.size x.block l ∧ B ≤ x.block := by
  have hlt := (h.lt x.block rfl)
  rcases h.2 with ⟨e, _⟩ | ⟨g, cap, cur, e, hb, hh, hnc, hcm, hcs, htk⟩
  · simp at e
  · simp at e
    obtain ⟨rfl, rfl⟩ := e
    refine ⟨⟨_, c, heap_alloc_new w _, hnc, hcm, (fun e => by cases e), fun _ => ⟨_, rfl⟩, fun hn => ⟨0, cur, rfl, (Below.heap_alloc w _ g hlt.2).trans hh, (show g ≠ w.heap.size by have hlt2 : g < w.heap.size := hlt.2; omega), fun j u hj => ?_⟩⟩, hb⟩
    rw [← htk, List.getElem?_take] at hj
    split at hj
    · rw [Nat.zero_add, ← Array.getElem?_toList]; exact hj
    · cases hj
set_option maxHeartbeats 2000000 in
theorem new_lim {w : World} {v : Value} {l : List Ak} (h : AS w v l) (hl : 32 < l.length) : Calls Tryz.prog 150 #[v] w (NoP 5 w) := by
  obtain ⟨a, cap, rfl, h1, h2⟩ := h.slice
  have hd : decide (32 < (l.length : Int)) = true := by simp; omega
  generalize l.length = m at *
  clear h
  go_enter Tryz.func150, Tryz.ntmps150
  go_wp2_with fail
  go_ret2
  exact ⟨rfl, Below.refl _ _⟩
/-- either all may be, and a row is answered; or not, and an error -/
def NewR (l : List Ak) (w : World) (e : Ending) (w' : World) : Prop := ((∀ x ∈ l, may x) ∧ NewP l w e w') ∨ ((¬ ∀ x ∈ l, may x) ∧ NoP 2 w e w')
theorem all_of {l : List Ak} (h : ∀ j, j < l.length → may (l.getD j o0)) : ∀ x ∈ l, may x := fun x hx => by
  obtain ⟨j, hj, rfl⟩ := List.mem_iff_getElem.1 hx
  have := h j hj
  rw [List.getD_eq_getElem?_getD, List.getElem?_eq_getElem hj] at this
  exact this
theorem may_at {l : List Ak} (h : ∀ x ∈ l, may x) {j : Nat} (hj : j < l.length) : may (l.getD j o0) := by
  rw [List.getD_eq_getElem?_getD, List.getElem?_eq_getElem hj]
  exact h _ (List.getElem_mem hj)
set_option maxHeartbeats 4000000 in
theorem new_fit {w : World} {v : Value} {l : List Ak} (h : AS w v l) (hl : l.length ≤ 32) : Calls Tryz.prog 150 #[v] w (NewR l w) := by
  obtain ⟨a, cap, rfl, h1, h2⟩ := h.slice
  have hd : decide (32 < (l.length : Int)) = false := by simp; omega
  have HS := Lib.hid h
  obtain ⟨m, hm⟩ : ∃ m, m = l.length := ⟨_, rfl⟩
  have HM := Lib.hid hm
  rw [← hm] at HS hl hd h1 ⊢
  clear h hm
  go_enter Tryz.func150, Tryz.ntmps150
  go_wp2_with fail
  go_loopw [12] (fun i wr => ∃ k : Nat, k ≤ m ∧ i = .int .i64 k ∧ Hid (∀ j, j < k → may (l.getD j o0)) ∧ Hid (Below w.heap.size w wr)) (fun i _ => m - (intOf i).toNat)
  case atStart => exact ⟨0, Nat.zero_le _, rfl, Lib.hid (fun j hj => absurd hj (by omega)), Below.refl _ _⟩
  case round =>
    obtain ⟨k, hk, rfl, HY, HB⟩ := hrel
    by_cases hlt : k < m
    · obtain ⟨b, off, rfl, d0, d1, d2⟩ := (HS.out.below HB.out).at hlt
      have HCH : Hid (∀ W, Calls Tryz.prog 191 #[.agg #[.int .i64 (l.getD k o0).k, .int .i64 (l.getD k o0).n, .string (l.getD k o0).s]] W (VB (.int .i64 (chk (l.getD k o0))) W)) := fun W => check_any _ W
      rcases chk_or (l.getD k o0) with ⟨hy, hc⟩ | ⟨hn, hc⟩
      · rw [hc] at HCH
        have HY2 : Hid (∀ j, j < k + 1 → may (l.getD j o0)) := fun j hj => by
          rcases Nat.lt_or_ge j k with h | h
          · exact HY.out j h
          · obtain rfl : j = k := by omega
            exact hy
        generalize (l.getD k o0).k = yk at *
        generalize (l.getD k o0).n = yn at *
        generalize (l.getD k o0).s = ys at *
        have HBA := Lib.hid (HB.out.alloc HB.out.size (.cells #[.int .i64 yk, .int .i64 yn, .string ys] 57))
        clear hc hy HY
        go_wp2_with fail
        refine (HCH.out _).mono ?_
        rintro e w1 ⟨rfl, hb⟩
        have HB1 := Lib.hid (chn HBA.out hb)
        clear hb
        go_wp2_with fail
        go_roundw
        case rel => exact ⟨k + 1, by omega, by go_num, HY2, HB1⟩
        case measure => simp [intOf]; omega
      · rw [hc] at HCH
        have HN := Lib.hid (fun h : ∀ x ∈ l, may x => hn (may_at h (by rw [← HM.out]; exact hlt)))
        generalize (l.getD k o0).k = yk at *
        generalize (l.getD k o0).n = yn at *
        generalize (l.getD k o0).s = ys at *
        have HBA := Lib.hid (HB.out.alloc HB.out.size (.cells #[.int .i64 yk, .int .i64 yn, .string ys] 57))
        clear hc hn HY
        go_wp2_with fail
        refine (HCH.out _).mono ?_
        rintro e w1 ⟨rfl, hb⟩
        have HB1 := Lib.hid (chn HBA.out hb)
        clear hb
        go_wp2_with fail
        go_ret2
        exact Or.inr ⟨HN.out, rfl, HB1.out⟩
    · obtain rfl : k = m := by omega
      have hall : ∀ x ∈ l, may x := all_of (by rw [← HM.out]; exact HY.out)
      have hs2 := HS.out.below HB.out
      rw [HM.out] at hs2
      obtain ⟨x, c, w2, hrun, hown, hb⟩ := copied hs2 (by rw [← HM.out]; omega) 31
      obtain ⟨hp, hx⟩ := pr_new hown
      have HNEW := Lib.hid (show NewR l w (.returned (.tuple #[.pointer (some ⟨w2.heap.size, 0, none⟩), .int .i64 0])) _ from Or.inl ⟨hall, w2.heap.size, x.block, rfl, hp, Nat.le_trans HB.out.size hb.size, Nat.le_trans HB.out.size hx, (by have := (hown.lt x.block rfl).2; simp; omega), (HB.out.trans (hb.mono HB.out.size)).alloc (Nat.le_trans HB.out.size hb.size) _⟩)
      rw [← HM.out] at hrun HNEW
      have HRUN := Lib.hid hrun
      clear hrun hown hb hp hx hs2 hall HY
      go_wp2_with (at_builtin; refine wpList_append_eq rfl (.tmp 22) (.tmp 23) 31 31 rfl _ _ _ _ rfl rfl HRUN.out ?_)
      go_ret2
      exact HNEW.out
theorem new_yes {w : World} {v : Value} {l : List Ak} (h : AS w v l) (hg : Gd l) : Calls Tryz.prog 150 #[v] w (NewP l w) :=
  (new_fit h hg.len).mono fun e w' q => by
    rcases q with ⟨_, q⟩ | ⟨q, _⟩
    · exact q
    · exact absurd hg.all q
theorem new_no {w : World} {v : Value} {l : List Ak} (h : AS w v l) (hl : l.length ≤ 32) (hn : ¬ ∀ x ∈ l, may x) : Calls Tryz.prog 150 #[v] w (NoP 2 w) :=
  (new_fit h hl).mono fun e w' q => by
    rcases q with ⟨q, _⟩ | ⟨_, q⟩
    · exact absurd q hn
    · exact q
end Go.Proofs.YtkkmfpllgjoceaaGreat
