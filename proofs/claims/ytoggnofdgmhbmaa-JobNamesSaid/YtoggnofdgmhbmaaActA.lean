/- Acts in memory: what can be read; a row of the call's own; an append; a row's object. Bring. -/
import Derived.Test.YtoggnofdgmhbmaaActP
import Derived.WalkLawsBesides
import Derived.Lib.Hide
import Derived.Deep.QuietTactic
import Derived.BigQuiet
import Derived.Below
import Derived.OneCell
import Derived.RegionTactic
import Derived.StillTailTactics
import Derived.WalkMore
import Derived.Handy
import Derived.OwnWalk
import Derived.ArgAppend
import Derived.Laws.OwnMore
import Derived.Deep.Upon
import Derived.Lib.SliceRun
import Derived.Laws.StructEq
namespace Go.Proofs.Ytoggnofdgmhbmaa
open Go.RowKit Ac
set_option linter.unusedVariables false

theorem lt_of_cell {w : World} {p : Addr} {v : Value} (h : w.cell? p = some v) : p.block < w.heap.size := World.block_lt_of_cell? w p h
theorem lt_of_block {w : World} {b : Nat} {o : Obj} (h : w.heap[b]? = some o) : b < w.heap.size := (Array.getElem?_eq_some_iff.1 h).1
def IsB (b : Bool) (w : World) (e : Ending) (w' : World) : Prop := e = .returned (.bool b) ∧ w = w'
def IsI (x : Int) (w : World) (e : Ending) (w' : World) : Prop := e = .returned (.int .i64 x) ∧ w = w'
def IsV (v : Value) (w : World) (e : Ending) (w' : World) : Prop := e = .returned v ∧ w = w'
def VB (v : Value) (w : World) (e : Ending) (w' : World) : Prop := e = .returned v ∧ Below w.heap.size w w'
def TrueB (w : World) (e : Ending) (w' : World) : Prop := e = .returned (.bool true) ∧ Below w.heap.size w w'
theorem chn {w w1 w2 : World} (h : Below w.heap.size w w1) (k : Below w1.heap.size w1 w2) : Below w.heap.size w w2 := h.trans (k.mono h.size)
/-- of what was there nothing has turned but blocks of S -/
structure Only (S : Nat → Prop) (w w' : World) : Prop where
  os : w'.os = w.os
  tape : w'.tape = w.tape
  output : w'.output = w.output
  size : w.heap.size ≤ w'.heap.size
  block : ∀ k, k < w.heap.size → ¬ S k → w'.heap[k]? = w.heap[k]?
theorem Only.refl (S : Nat → Prop) (w : World) : Only S w w := ⟨rfl, rfl, rfl, Nat.le_refl _, fun _ _ _ => rfl⟩
theorem Only.trans {S : Nat → Prop} {a b c : World} (h : Only S a b) (k : Only S b c) : Only S a c :=
  ⟨k.os.trans h.os, k.tape.trans h.tape, k.output.trans h.output, Nat.le_trans h.size k.size, fun j hj hS => (k.block j (Nat.lt_of_lt_of_le hj h.size) hS).trans (h.block j hj hS)⟩
theorem Only.of_below {S : Nat → Prop} {a b : World} (h : Below a.heap.size a b) : Only S a b := ⟨h.os, h.tape, h.output, h.size, fun k hk _ => h.block k hk⟩
theorem Only.below {S : Nat → Prop} {a b : World} {B : Nat} (h : Only S a b) (hB : B ≤ a.heap.size) (hS : ∀ k, S k → B ≤ k) : Below B a b :=
  ⟨h.os, h.tape, h.output, h.size, fun k hk => h.block k (by omega) (fun t => by have := hS k t; omega)⟩
theorem Only.set {S : Nat → Prop} (w : World) {b : Nat} (o : Nat) (v : Value) (h : S b) : Only S w (w.setCell ⟨b, o, none⟩ v) := ⟨rfl, rfl, rfl, by simp [World.setCell], fun k hk hne => Below.heap_setCell _ _ _ _ (fun e => hne (e ▸ h))⟩
theorem Only.drew {S : Nat → Prop} {a b : World} (h : Only S a b) : Only S a b.drew := ⟨h.os, h.tape, h.output, h.size, h.block⟩
theorem below_drew {B : Nat} {a b : World} (h : Below B a b) : Below B a b.drew := ⟨h.os, h.tape, h.output, h.size, h.block⟩
def Two (a b : Nat) (k : Nat) : Prop := k = a ∨ k = b

/-- acts that can be read -/
def AS (w : World) (v : Value) (l : List Ak) : Prop :=
  ∃ a cap, v = .slice a l.length cap ∧ l.length ≤ cap ∧ cap ≤ maxLen ∧ (a = none → cap = 0) ∧
    (0 < l.length → ∃ b off, a = some ⟨b, off, none⟩ ∧ ∀ j u, (acells l)[j]? = some u → w.cell? ⟨b, off + j, none⟩ = some u)
theorem AS.slice {w : World} {v : Value} {l : List Ak} (h : AS w v l) : ∃ a cap, v = .slice a l.length cap ∧ l.length ≤ cap ∧ cap ≤ maxLen := by obtain ⟨a, cap, h1, h2, h3, _⟩ := h; exact ⟨a, cap, h1, h2, h3⟩
theorem AS.nil (w : World) : AS w (.slice none 0 0) [] := ⟨none, 0, rfl, Nat.le_refl _, Nat.zero_le _, fun _ => rfl, fun h => by cases h⟩
theorem AS.keep {w w' : World} {v : Value} {l : List Ak} (h : AS w v l) (q : ∀ k, v.ownBlock = some k → w'.heap[k]? = w.heap[k]?) : AS w' v l := by
  obtain ⟨a, cap, rfl, h2, h3, h4, h5⟩ := h
  exact ⟨a, cap, rfl, h2, h3, h4, fun hn => by obtain ⟨b, off, rfl, hc⟩ := h5 hn; exact ⟨b, off, rfl, fun j u hj => (World.cell?_of_block (q b rfl)).trans (hc j u hj)⟩⟩
theorem AS.below {w w' : World} {v : Value} {l : List Ak} (h : AS w v l) (q : Below w.heap.size w w') : AS w' v l := by
  obtain ⟨a, cap, h1, h2, h3, h4, h5⟩ := h
  exact ⟨a, cap, h1, h2, h3, h4, fun hn => by obtain ⟨b, off, e, hc⟩ := h5 hn; exact ⟨b, off, e, fun j u hj => (q.cell (lt_of_cell (hc j u hj))).trans (hc j u hj)⟩⟩
theorem AS.at {w : World} {n cap : Nat} {a : Option Addr} {l : List Ak} (h : AS w (.slice a n cap) l) {i : Nat} (hi : i < n) : ∃ b off, a = some ⟨b, off, none⟩ ∧ w.cell? ⟨b, off + i * 3, none⟩ = some (.int .i64 (l.getD i o0).k) ∧ w.cell? ⟨b, off + i * 3 + 1, none⟩ = some (.int .i64 (l.getD i o0).n) ∧ w.cell? ⟨b, off + i * 3 + 2, none⟩ = some (.string (l.getD i o0).s) := by
  obtain ⟨a', cap', e, h1, h2, h3, h4⟩ := h
  obtain ⟨rfl, rfl, rfl⟩ : a = a' ∧ n = l.length ∧ cap = cap' := by simpa using e
  obtain ⟨b, off, rfl, hc⟩ := h4 (by omega)
  obtain ⟨q1, q2, q3⟩ := acells_at l i hi
  exact ⟨b, off, rfl, hc _ _ q1, hc _ _ q2, hc _ _ q3⟩
theorem AS.take {w : World} {n cap : Nat} {a : Option Addr} {l : List Ak} (h : AS w (.slice a n cap) l) {k : Nat} (hk : k ≤ n) : AS w (.slice a k cap) (l.take k) := by
  obtain ⟨a', cap', e, h1, h2, h3, h4⟩ := h
  obtain ⟨rfl, rfl, rfl⟩ : a = a' ∧ n = l.length ∧ cap = cap' := by simpa using e
  have hl : (l.take k).length = k := by rw [List.length_take]; omega
  refine ⟨a, cap, by rw [hl], by omega, h2, h3, fun hp => ?_⟩
  obtain ⟨b, off, rfl, hc⟩ := h4 (by omega)
  refine ⟨b, off, rfl, fun j u hj => hc j u ?_⟩
  rw [← acells_take, List.getElem?_take] at hj
  split at hj
  · exact hj
  · cases hj
theorem infoOp : (Try.prog.info? 49).map (fun i => (i.zero, i.size, i.bytes)) = some (some (.agg #[.int .i64 0, .int .i64 0, .string ⟨#[]⟩]), 3, 32) := by kernel_rfl
/-- acts in a row of the call's own -/
def NA (w : World) (B : Nat) (v : Value) (l : List Ak) : Prop := w.ownsRow B 49 3 v l.length (acells l)
theorem NA.nil (w : World) (B : Nat) : NA w B (.slice none 0 0) [] := World.ownsRow_nil w B _ _
theorem NA.as {w : World} {B : Nat} {v : Value} {l : List Ak} (h : NA w B v l) : AS w v l := by
  have hc := fun g => World.ownsRow.cells h (g := g)
  rcases h.2 with ⟨rfl, h0⟩ | ⟨g, cap, cur, rfl, hb, hh, hnc, hcm, _⟩
  · rw [List.eq_nil_of_length_eq_zero h0]; exact AS.nil w
  · refine ⟨_, cap, rfl, hnc, hcm, (fun e => by cases e), fun _ => ⟨g, 0, rfl, fun j u hj => ?_⟩⟩
    have := hc g rfl _ _ hj
    rw [Addr.add_lit] at this
    exact this
theorem NA.base {w : World} {B C : Nat} {v : Value} {l : List Ak} (h : NA w B v l) (hC : C ≤ B) : NA w C v l := by
  refine ⟨h.1, ?_⟩
  rcases h.2 with hn | ⟨g, cap, cur, rfl, hb, rest⟩
  · exact Or.inl hn
  · exact Or.inr ⟨g, cap, cur, rfl, by omega, rest⟩
theorem NA.lt {w : World} {B : Nat} {v : Value} {l : List Ak} (h : NA w B v l) : ∀ k, v.ownBlock = some k → B ≤ k ∧ k < w.heap.size := fun k hk => World.ownsRow.lt h k hk
theorem NA.below {w w' : World} {B : Nat} {v : Value} {l : List Ak} (h : NA w B v l) (q : Below w.heap.size w w') : NA w' B v l := World.ownsRow.kept (row := none) h ⟨q.os, q.tape, q.output, q.size, fun k hk _ => q.block k hk⟩ (by cases v.ownBlock <;> simp)
theorem NA.form {w : World} {B : Nat} {v : Value} {l : List Ak} (h : NA w B v l) : ∃ a c, v = .slice a l.length c := by
  rcases h.2 with ⟨rfl, h0⟩ | ⟨g, cap, cur, rfl, _⟩
  · exact ⟨_, _, by rw [h0]⟩
  · exact ⟨_, _, rfl⟩
/-- acts behind acts of the call's own -/
theorem app_acts {w : World} {B : Nat} {v s : Value} {l k : List Ak} (h : NA w B v l) (hs : AS w s k) (hB : B ≤ w.heap.size) (hn : l.length + k.length ≤ 1000) (ty : TypeId) :
    ∃ a c w', (Builtin.append_ #[24, 24] ty #[v, s]).run Try.prog w = .ok (.slice a (l ++ k).length c) w' ∧ NA w' B (.slice a (l ++ k).length c) (l ++ k) ∧ Below B w w' ∧ (v ≠ .slice none 0 0 → ∃ x, a = some x) := by
  obtain ⟨i0, hi, hz0, hz1, hz2⟩ := info_parts infoOp
  obtain ⟨sa, sc, rfl, hs1, hs2, hs3, hs4⟩ := hs
  cases sa with
  | none =>
    have hk : k = [] := List.eq_nil_of_length_eq_zero (by have := hs3 rfl; omega)
    subst hk
    obtain ⟨va, vc, hv⟩ := h.form
    subst hv
    have hle : l.length ≤ vc := by
      rcases h.2 with ⟨e, h0⟩ | ⟨g, cap, cur, e, hb, hh, hnc, _⟩
      · simp at e; omega
      · simp at e; omega
    have hrun := run_append_nothing (P := Try.prog) w 24 24 ty 49 i0 Try.underlying24 hi va l.length vc hle (.slice none 0 sc) (by rw [hz1]; exact Src.ofNil w Try.underlying24 sc)
    refine ⟨va, vc, w, ?_, ?_, Below.refl _ _, fun hne => ?_⟩
    · rw [List.append_nil]; exact hrun
    · rw [List.append_nil]; exact h
    · cases va with
      | some x => exact ⟨x, rfl⟩
      | none =>
        rcases h.2 with ⟨e, h0⟩ | ⟨g, cap, cur, e, _⟩
        · exact absurd e hne
        · simp at e
  | some ad =>
    have hnews : ∀ j u, (acells k)[j]? = some u → w.cell? (ad.add j) = some u := by
      intro j u hj
      have hp : 0 < k.length := by
        rcases Nat.eq_zero_or_pos k.length with h0 | h0
        · rw [List.eq_nil_of_length_eq_zero h0] at hj; simp [acells] at hj
        · exact h0
      obtain ⟨b, off, e, hc⟩ := hs4 hp
      injection e with e
      subst e
      rw [Addr.add_lit]
      exact hc j u hj
    obtain ⟨v', w', hrun, hown', hgr, hiff⟩ := run_append_own (P := Try.prog) w B 24 ty 49 i0 _ 3 32 Try.underlying24 hi hz0 hz1 hz2 rfl (by decide) v l.length _ h ad k.length sc (acells k) (acells_len k) hnews (acells_one k) (by unfold maxLen; omega) (by omega) hB
    rw [← acells_append, ← List.length_append] at hown'
    obtain ⟨a, c, hv'⟩ := NA.form hown'
    subst hv'
    refine ⟨a, c, w', hrun, hown', (Below.refl B w).grown hgr hB (fun j e => (World.ownsRow.lt h j e).1), fun hne => ?_⟩
    cases a with
    | some x => exact ⟨x, rfl⟩
    | none =>
      rcases hown'.2 with ⟨e, _⟩ | ⟨g, cap, cur, e, _⟩
      · exact absurd (hiff.1 e).1 hne
      · simp at e
theorem wpList_append_eq {P : Program} {w : World} {ops : Array Oper} {rest : List Oper} {o : Oper} {a : Act} {Q : Exit → Act → World → Prop} (hgd : o.guard = none) (s x : Operand) (t u : TypeId)
    (ho : o.op = .call { callee := .builtin .append, args := #[s, x], argTypes := #[t, u] })
    (sv xv v' : Value) (w' : World) (hs : a.eval s = sv) (hx : a.eval x = xv) (hrun : (Builtin.append_ #[t, u] o.type #[sv, xv]).run P w = .ok v' w')
    (h : wpList P ops Q rest (a.put o.dst v') w') : wpList P ops Q (o :: rest) a w := by
  refine wpList_plain hgd fun K hK => ?_
  unfold Oper.wp
  simp [execOp, ho, resolve, invoke, builtin, hs, hx, hrun, Result.andThen]
  exact hK _ _ h

/-- a row's object at block rb, its acts in block g -/
def RW (T : TypeId) (w : World) (rb g : Nat) (l : List Ak) : Prop :=
  ∃ a cap, w.heap[rb]? = some (.cells #[.slice a l.length cap] T (0, 0)) ∧ l.length ≤ cap ∧ cap ≤ maxLen ∧ (a = none → cap = 0) ∧ (T = 74 → ∃ x, a = some x) ∧
    (0 < l.length → ∃ off cs, a = some ⟨g, off, none⟩ ∧ w.heap[g]? = some (.cells cs 49 (0, 0)) ∧ g ≠ rb ∧ ∀ j u, (acells l)[j]? = some u → cs[off + j]? = some u)
theorem RW.lt {T : TypeId} {w : World} {rb g : Nat} {l : List Ak} (h : RW T w rb g l) : rb < w.heap.size := by obtain ⟨a, cap, h1, _⟩ := h; exact lt_of_block h1
theorem RW.keep {T : TypeId} {w w' : World} {rb g : Nat} {l : List Ak} (h : RW T w rb g l) (q1 : w'.heap[rb]? = w.heap[rb]?) (q2 : g < w.heap.size → w'.heap[g]? = w.heap[g]?) : RW T w' rb g l := by
  obtain ⟨a, cap, h1, h2, h3, h4, h5, h6⟩ := h
  exact ⟨a, cap, q1.trans h1, h2, h3, h4, h5, fun hn => by obtain ⟨off, cs, e, e1, e2⟩ := h6 hn; exact ⟨off, cs, e, (q2 (lt_of_block e1)).trans e1, e2⟩⟩
theorem RW.below {T : TypeId} {w w' : World} {rb g : Nat} {l : List Ak} (h : RW T w rb g l) (q : Below w.heap.size w w') : RW T w' rb g l := h.keep (q.block rb h.lt) (fun hg => q.block g hg)
theorem RW.only {T : TypeId} {S : Nat → Prop} {w w' : World} {rb g : Nat} {l : List Ak} (h : RW T w rb g l) (q : Only S w w') (h1 : ¬ S rb) (h2 : ¬ S g) : RW T w' rb g l := h.keep (q.block rb h.lt h1) (fun hg => q.block g hg h2)
/-- the acts can be read -/
theorem RW.as {T : TypeId} {w : World} {rb g : Nat} {l : List Ak} (h : RW T w rb g l) : ∃ a cap, w.cell? ⟨rb, 0, none⟩ = some (.slice a l.length cap) ∧ AS w (.slice a l.length cap) l ∧ (T = 74 → ∃ x, a = some x) := by
  obtain ⟨a, cap, h1, h2, h3, h4, h5, h6⟩ := h
  refine ⟨a, cap, cell_of_row _ _ 0 _ _ _ h1, ⟨a, cap, rfl, h2, h3, h4, fun hn => ?_⟩, h5⟩
  obtain ⟨off, cs, e, e1, _, e2⟩ := h6 hn
  exact ⟨g, off, e, fun j u hj => (cell_of_row _ _ (off + j) _ _ _ e1).trans (e2 j u hj)⟩
/-- what is next is cut off -/
theorem RW.cut {T : TypeId} {w w' : World} {rb g : Nat} {x : Ak} {t : List Ak} (h : RW T w rb g (x :: t)) (q : Below w.heap.size w w') (c : Nat) (hc : t.length ≤ c) (hm : c ≤ maxLen) {b off cap : Nat} (h0 : w.cell? ⟨rb, 0, none⟩ = some (.slice (some ⟨b, off, none⟩) (x :: t).length cap)) (hz : c = 0 → t.length = 0) :
    RW T (w'.setCell ⟨rb, 0, none⟩ (.slice (some (if c = 0 then ⟨b, off, none⟩ else ⟨b, off + 3, none⟩)) t.length c)) rb g t ∧ Only (Two rb g) w (w'.setCell ⟨rb, 0, none⟩ (.slice (some (if c = 0 then ⟨b, off, none⟩ else ⟨b, off + 3, none⟩)) t.length c)) := by
  have h' := h.below q
  have hlt := h.lt
  obtain ⟨a, cap', h1, h2, h3, h4, h5, h6⟩ := h'
  obtain ⟨off', cs, e, e1, e2, e3⟩ := h6 (by simp)
  have hsame : w'.cell? ⟨rb, 0, none⟩ = some (.slice (some ⟨b, off, none⟩) (x :: t).length cap) := (q.cell (p := ⟨rb, 0, none⟩) hlt).trans h0
  have hsame2 := cell_of_row _ _ 0 _ _ _ h1
  rw [hsame] at hsame2
  subst e
  obtain ⟨⟨rfl, rfl⟩, rfl⟩ : (b = g ∧ off = off') ∧ cap = cap' := by simpa using hsame2
  refine ⟨⟨_, c, heap_setCell_same w' rb 0 _ T _ h1, hc, hm, (fun e => by cases e), fun _ => ⟨_, rfl⟩, fun hn => ?_⟩, ?_⟩
  · refine ⟨off + 3, cs, by rw [if_neg (by omega)], (Below.heap_setCell _ _ _ _ e2).trans e1, e2, fun j u hj => ?_⟩
    have := e3 (j + 3) u (by rw [acells_cons]; exact hj)
    rw [show off + 3 + j = off + (j + 3) by omega]
    exact this
  · exact (Only.of_below q).trans (Only.set w' 0 _ (Or.inl rfl))
/-- what is next has another number -/
theorem RW.less {T : TypeId} {w w' : World} {rb g : Nat} {x : Ak} {t : List Ak} (h : RW T w rb g (x :: t)) (q : Below w.heap.size w w') {b off cap : Nat} (h0 : w.cell? ⟨rb, 0, none⟩ = some (.slice (some ⟨b, off, none⟩) (x :: t).length cap)) (n : Int) :
    RW T (w'.setCell ⟨b, off + 1, none⟩ (.int .i64 n)) rb g (⟨x.k, n, x.s⟩ :: t) ∧ Only (Two rb g) w (w'.setCell ⟨b, off + 1, none⟩ (.int .i64 n)) := by
  have h' := h.below q
  have hlt := h.lt
  obtain ⟨a, cap', h1, h2, h3, h4, h5, h6⟩ := h'
  obtain ⟨off', cs, e, e1, e2, e3⟩ := h6 (by simp)
  have hsame : w'.cell? ⟨rb, 0, none⟩ = some (.slice (some ⟨b, off, none⟩) (x :: t).length cap) := (q.cell (p := ⟨rb, 0, none⟩) hlt).trans h0
  have hsame2 := cell_of_row _ _ 0 _ _ _ h1
  rw [hsame] at hsame2
  subst e
  obtain ⟨⟨rfl, rfl⟩, rfl⟩ : (b = g ∧ off = off') ∧ cap = cap' := by simpa using hsame2
  refine ⟨⟨_, cap, (Below.heap_setCell _ _ _ _ (fun e => e2 e.symm)).trans h1, h2, h3, h4, h5, fun _ => ⟨off, _, rfl, heap_setCell_same w' b (off + 1) _ _ _ e1, e2, fun j u hj => ?_⟩⟩, ?_⟩
  · rw [acells_cons] at hj
    by_cases hj1 : j = 1
    · subst hj1
      have hsz : off + 1 < cs.size := by have := e3 1 (.int .i64 x.n) rfl; exact (Array.getElem?_eq_some_iff.1 this).1
      rw [Array.getElem?_setIfInBounds_self_of_lt hsz]
      exact hj
    · rw [Array.getElem?_setIfInBounds_ne (by omega)]
      refine e3 j u ?_
      rw [acells_cons, ← hj]
      match j, hj1 with
      | 0, _ => rfl
      | 1, h => exact absurd rfl h
      | j + 2, _ => rfl
  · exact (Only.of_below q).trans (Only.set w' _ _ (Or.inr rfl))
/-- a call of a row: an answer; the row behind it -/
def RP (T : TypeId) (v : Value) (rb g : Nat) (l : List Ak) (w : World) (e : Ending) (w' : World) : Prop := e = .returned v ∧ RW T w' rb g l ∧ Only (Two rb g) w w'

/-- a number, brought to be from 0 to below n -/
def bring (a n : Int) : Int := if a.tmod n < 0 then a.tmod n + n else a.tmod n
theorem bring_bd (a n : Int) (h : 1 ≤ n) : 0 ≤ bring a n ∧ bring a n < n := by
  unfold bring
  have h1 := Int.lt_tmod_of_pos a (by omega : 0 < n)
  have h2 := Int.tmod_lt_of_pos a (by omega : 0 < n)
  split <;> omega
set_option maxHeartbeats 400000 in
theorem bring_any (a n : Int) (w : World) (h : 1 ≤ n) (hn : n ≤ 100000) : Calls Try.prog 9 #[.int .i64 a, .int .i64 n] w (IsI (bring a n) w) := by
  unfold bring
  have h1 := Int.lt_tmod_of_pos a (by omega : 0 < n)
  have h2 := Int.tmod_lt_of_pos a (by omega : 0 < n)
  have hz : (n == 0) = false := by simp; omega
  have hw64 : wrap64 (a.tmod n) = a.tmod n := IntWalk.wrap64_in _ ⟨by omega, by omega⟩
  by_cases hr : a.tmod n < 0
  · rw [if_pos hr]
    have hd : decide (a.tmod n < 0) = true := by simpa using hr
    go_enter Try.func9, Try.ntmps9
    go_wp2
    go_ret
    exact ⟨rfl, rfl⟩
  · rw [if_neg hr]
    have hd : decide (a.tmod n < 0) = false := by simpa using hr
    go_enter Try.func9, Try.ntmps9
    go_wp2
    go_ret
    exact ⟨rfl, rfl⟩
end Go.Proofs.Ytoggnofdgmhbmaa
