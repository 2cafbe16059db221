/- What is asked of the program's room, whatever it is in memory; a room of the call's own. -/
import Derived.Test.YtkkmfpllgjoceaaGreatRooS
import Derived.Test.YtkkmfpllgjoceaaGreatZj
import Derived.Test.YtkkmfpllgjoceaaGreatZs
namespace Go.Proofs.YtkkmfpllgjoceaaGreat.Ro
open Go.RowKit Ac Jo
set_option linter.unusedVariables false
set_option maxRecDepth 100000

/-- numbers are answered, in a row of their own -/
abbrev NumP (w : World) (xs : List Int) (e : Ending) (w' : World) : Prop := St.HeldP w xs e w'
/-- an answer; the room behind it, in blocks that it had or in new ones -/
def RP (J : World → Nat → (Nat → Prop) → Rm → Prop) (v : Value) (rb : Nat) (S : Nat → Prop) (s : Rm) (w : World) (e : Ending) (w' : World) : Prop :=
  e = .returned v ∧ ∃ S', J w' rb S' s ∧ (∀ k, S' k → S k ∨ w.heap.size ≤ k) ∧ Only S w w'
/-- a room is answered -/
def RNew (J : World → Nat → (Nat → Prop) → Rm → Prop) (s : Rm) (w : World) (e : Ending) (w' : World) : Prop :=
  ∃ rb S, e = .returned (.tuple #[.pointer (some ⟨rb, 0, none⟩), .int .i64 0]) ∧ J w' rb S s ∧ (∀ k, S k → w.heap.size ≤ k) ∧ Below w.heap.size w w'
def whoV (s : Rm) : Value := match who s with | some t => .tuple #[.int .i64 t, .bool true] | none => .tuple #[.int .i64 0, .bool false]
def soleV (s : Rm) : Value := match sole s s.n with | some i => .tuple #[.int .i64 i, .int .i64 (s.J i).c, .bool true] | none => .tuple #[.int .i64 0, .int .i64 0, .bool false]
def deadV (s : Rm) (t : Int) : Value := if asked s t = 0 then .tuple #[.int .i64 (s.dl t), .bool true] else .tuple #[.int .i64 0, .bool false]
/-- the program's room: J w rb S s: at rb stands s, in the blocks S -/
structure Rprg where
  J : World → Nat → (Nat → Prop) → Rm → Prop
  lt : ∀ {w : World} {rb : Nat} {S : Nat → Prop} {s : Rm}, J w rb S s → ∀ k, S k → k < w.heap.size
  keep : ∀ {w w' : World} {rb : Nat} {S : Nat → Prop} {s : Rm}, J w rb S s → (∀ k, S k → w'.heap[k]? = w.heap[k]?) → J w' rb S s
  did : ∀ {w : World} {rb : Nat} {S : Nat → Prop} {s : Rm}, J w rb S s → Rinv s → ∀ (t : Int), Calls Tryz.prog 20 #[.pointer (some ⟨rb, 0, none⟩), .int .i64 t] w (RP J (.int .i64 (didRE s t)) rb S (didR s t) w)
  run : ∀ {w : World} {rb : Nat} {S : Nat → Prop} {s : Rm}, J w rb S s → Rinv s → ∀ (t : Int), Calls Tryz.prog 21 #[.pointer (some ⟨rb, 0, none⟩), .int .i64 t] w (RP J (.int .i64 (runRE s t)) rb S (runR s t) w)
  lock : ∀ {w : World} {rb : Nat} {S : Nat → Prop} {s : Rm}, J w rb S s → Rinv s → ∀ (t : Int) (r : Int), Calls Tryz.prog 22 #[.pointer (some ⟨rb, 0, none⟩), .int .i64 t, .int .i64 r] w (RP J (.int .i64 (lockRE s t r)) rb S (lockR s t r) w)
  unlock : ∀ {w : World} {rb : Nat} {S : Nat → Prop} {s : Rm}, J w rb S s → Rinv s → ∀ (t : Int), Calls Tryz.prog 23 #[.pointer (some ⟨rb, 0, none⟩), .int .i64 t] w (RP J (.int .i64 (unlRE s t)) rb S (unlRm s t) w)
  ask : ∀ {w : World} {rb : Nat} {S : Nat → Prop} {s : Rm}, J w rb S s → Rinv s → ∀ (t : Int), Calls Tryz.prog 24 #[.pointer (some ⟨rb, 0, none⟩), .int .i64 t] w (RP J (.int .i64 (askRE s t)) rb S (askR s t) w)
  hold : ∀ {w : World} {rb : Nat} {S : Nat → Prop} {s : Rm}, J w rb S s → Rinv s → ∀ (t : Int), Calls Tryz.prog 25 #[.pointer (some ⟨rb, 0, none⟩), .int .i64 t] w (RP J (.int .i64 (holdRE s t)) rb S (holdR s t) w)
  give : ∀ {w : World} {rb : Nat} {S : Nat → Prop} {s : Rm}, J w rb S s → Rinv s → ∀ (t : Int), Calls Tryz.prog 26 #[.pointer (some ⟨rb, 0, none⟩), .int .i64 t] w (RP J (.int .i64 (giveRE s t)) rb S (giveR s t) w)
  fin : ∀ {w : World} {rb : Nat} {S : Nat → Prop} {s : Rm}, J w rb S s → Rinv s → ∀ (t : Int), Calls Tryz.prog 27 #[.pointer (some ⟨rb, 0, none⟩), .int .i64 t] w (RP J (.bool (endB s t)) rb S (endR s t) w)
  rel : ∀ {w : World} {rb : Nat} {S : Nat → Prop} {s : Rm} {v : Value} {l : List Ak}, J w rb S s → Rinv s → AS w v l → ∀ (t now : Int), Calls Tryz.prog 28 #[.pointer (some ⟨rb, 0, none⟩), .int .i64 t, v, .int .i64 now] w (RP J (.int .i64 (relE s t l now)) rb S (relR s t l now) w)
  who : ∀ {w : World} {rb : Nat} {S : Nat → Prop} {s : Rm}, J w rb S s → Rinv s → Calls Tryz.prog 19 #[.pointer (some ⟨rb, 0, none⟩)] w (VB (whoV s) w)
  next : ∀ {w : World} {rb : Nat} {S : Nat → Prop} {s : Rm}, J w rb S s → Rinv s → ∀ (t : Int), Calls Tryz.prog 35 #[.pointer (some ⟨rb, 0, none⟩), .int .i64 t] w (VB (nv (nextV s t)) w)
  fault : ∀ {w : World} {rb : Nat} {S : Nat → Prop} {s : Rm}, J w rb S s → Rinv s → ∀ (t : Int) (now : Int), Calls Tryz.prog 32 #[.pointer (some ⟨rb, 0, none⟩), .int .i64 t, .int .i64 now] w (VB (.int .i64 (fauR s t now)) w)
  sole : ∀ {w : World} {rb : Nat} {S : Nat → Prop} {s : Rm}, J w rb S s → Rinv s → Calls Tryz.prog 30 #[.pointer (some ⟨rb, 0, none⟩)] w (VB (soleV s) w)
  jobs : ∀ {w : World} {rb : Nat} {S : Nat → Prop} {s : Rm}, J w rb S s → Rinv s → Calls Tryz.prog 34 #[.pointer (some ⟨rb, 0, none⟩)] w (NumP w (jobsV s))
  dead : ∀ {w : World} {rb : Nat} {S : Nat → Prop} {s : Rm}, J w rb S s → Rinv s → ∀ (t : Int), Calls Tryz.prog 17 #[.pointer (some ⟨rb, 0, none⟩), .int .i64 t] w (VB (deadV s t) w)
  ear : ∀ {w : World} {rb : Nat} {S : Nat → Prop} {s : Rm}, J w rb S s → Rinv s → ∀ (t : Int), Calls Tryz.prog 29 #[.pointer (some ⟨rb, 0, none⟩), .int .i64 t] w (VB (.int .i64 (earV s t)) w)
  held : ∀ {w : World} {rb : Nat} {S : Nat → Prop} {s : Rm}, J w rb S s → Rinv s → ∀ (t : Int), Calls Tryz.prog 18 #[.pointer (some ⟨rb, 0, none⟩), .int .i64 t] w (NumP w (heldV s t))
  newOk : ∀ {w : World} {v : Value} {n : Nat} {z : Nat → Nat → Int}, St.TK w v n z → n ≤ 4 → (∀ i, i < n → Jo.tok (z i) = true) → Calls Tryz.prog 7 #[v] w (RNew J (noRm n z) w)
  newNo : ∀ {w : World} {v : Value} {n : Nat} {z : Nat → Nat → Int}, St.TK w v n z → (4 < n ∨ ∃ i, i < n ∧ Jo.tok (z i) = false) → Calls Tryz.prog 7 #[v] w (NoP 2 w)
/-- a room of the program's, of the call's own, beside the blocks of F -/
structure OF (Q : Rprg) (B : Nat) (W w : World) (rb : Nat) (s : Rm) (F : Nat → Prop) : Prop where
  j : ∃ S, Q.J w rb S s ∧ (∀ k, S k → B ≤ k) ∧ ∀ k, F k → ¬ S k
  f : ∀ k, F k → k < w.heap.size
  iv : Rinv s
  sz : B ≤ W.heap.size
  bel : Below B W w
/-- an answer; the room behind it; the blocks of F are as they were -/
def OFP (Q : Rprg) (v : Value) (B : Nat) (W : World) (rb : Nat) (s : Rm) (F : Nat → Prop) (w : World) (e : Ending) (w' : World) : Prop :=
  e = .returned v ∧ OF Q B W w' rb s F ∧ (∀ k, F k → w'.heap[k]? = w.heap[k]?) ∧ w.heap.size ≤ w'.heap.size
section
variable {Q : Rprg} {B : Nat} {W w w' : World} {rb : Nat} {s s' : Rm} {F F' : Nat → Prop} {f : Nat} {args : Array Value} {v : Value}
theorem OF.szw (h : OF Q B W w rb s F) : B ≤ w.heap.size := Nat.le_trans h.sz h.bel.size
theorem OF.below (h : OF Q B W w rb s F) (q : Below w.heap.size w w') : OF Q B W w' rb s F := by
  obtain ⟨S, h1, h2, h3⟩ := h.j
  exact ⟨⟨S, Q.keep h1 fun k hk => q.block k (Q.lt h1 k hk), h2, h3⟩, fun k hk => Nat.lt_of_lt_of_le (h.f k hk) q.size, h.iv, h.sz, h.bel.trans (q.mono h.szw)⟩
/-- blocks of F alone are written, and what is new -/
theorem OF.far (h : OF Q B W w rb s F) (q : Only F w w') (hF : ∀ k, F k → B ≤ k) : OF Q B W w' rb s F := by
  obtain ⟨S, h1, h2, h3⟩ := h.j
  exact ⟨⟨S, Q.keep h1 fun k hk => q.block k (Q.lt h1 k hk) (fun y => h3 k y hk), h2, h3⟩, fun k hk => Nat.lt_of_lt_of_le (h.f k hk) q.size, h.iv, h.sz, h.bel.trans (q.below h.szw hF)⟩
theorem OF.less (h : OF Q B W w rb s F) (q : ∀ k, F' k → F k) : OF Q B W w rb s F' := by
  obtain ⟨S, h1, h2, h3⟩ := h.j
  exact ⟨⟨S, h1, h2, fun k hk => h3 k (q k hk)⟩, fun k hk => h.f k (q k hk), h.iv, h.sz, h.bel⟩
/-- a block that was laid behind it is beside it, too -/
theorem OF.more (h : OF Q B W w rb s F) (q : Below w.heap.size w w') {b : Nat} (h1 : w.heap.size ≤ b) (h2 : b < w'.heap.size) : OF Q B W w' rb s (fun k => F k ∨ k = b) := by
  obtain ⟨S, j1, j2, j3⟩ := h.j
  refine ⟨⟨S, Q.keep j1 fun k hk => q.block k (Q.lt j1 k hk), j2, fun k hk => ?_⟩, fun k hk => ?_, h.iv, h.sz, h.bel.trans (q.mono h.szw)⟩
  · rcases hk with hk | rfl
    · exact j3 k hk
    · intro y; have := Q.lt j1 k y; omega
  · rcases hk with hk | rfl
    · exact Nat.lt_of_lt_of_le (h.f k hk) q.size
    · exact h2
/-- blocks of F are written, others are laid; beside which it stands from now on -/
theorem OF.to (h : OF Q B W w rb s F) (q : Only F w w') (hF : ∀ k, F k → B ≤ k) (hF' : ∀ k, F' k → F k ∨ (w.heap.size ≤ k ∧ k < w'.heap.size)) : OF Q B W w' rb s F' := by
  obtain ⟨S, h1, h2, h3⟩ := h.j
  refine ⟨⟨S, Q.keep h1 fun k hk => q.block k (Q.lt h1 k hk) (fun y => h3 k y hk), h2, fun k hk y => ?_⟩, fun k hk => ?_, h.iv, h.sz, h.bel.trans (q.below h.szw hF)⟩
  · rcases hF' k hk with z | ⟨z, _⟩
    · exact h3 k z y
    · have := Q.lt h1 k y; omega
  · rcases hF' k hk with z | ⟨_, z⟩
    · exact Nat.lt_of_lt_of_le (h.f k z) q.size
    · exact z
theorem OF.wr (h : OF Q B W w rb s F) (hi : Rinv s') (c : ∀ S, Q.J w rb S s → Calls Tryz.prog f args w (RP Q.J v rb S s' w)) : Calls Tryz.prog f args w (OFP Q v B W rb s' F w) := by
  obtain ⟨S, h1, h2, h3⟩ := h.j
  refine (c S h1).mono ?_
  rintro e w' ⟨e1, S', j1, j2, j3⟩
  have hb : Below B w w' := j3.below h.szw h2
  refine ⟨e1, ⟨⟨S', j1, fun k hk => ?_, fun k hk y => ?_⟩, fun k hk => Nat.lt_of_lt_of_le (h.f k hk) j3.size, hi, h.sz, h.bel.trans hb⟩, fun k hk => j3.block k (h.f k hk) (h3 k hk), j3.size⟩
  · rcases j2 k hk with y | y
    · exact h2 k y
    · exact Nat.le_trans h.szw y
  · rcases j2 k y with y | y
    · exact h3 k hk y
    · have := h.f k hk; omega
theorem OF.rd (h : OF Q B W w rb s F) (c : ∀ S, Q.J w rb S s → Calls Tryz.prog f args w (VB v w)) : Calls Tryz.prog f args w (OFP Q v B W rb s F w) := by
  obtain ⟨S, h1, _, _⟩ := h.j
  refine (c S h1).mono ?_
  rintro e w' ⟨e1, hb⟩
  exact ⟨e1, h.below hb, fun k hk => hb.block k (h.f k hk), hb.size⟩
theorem OF.at (h : OF Q B W w rb s F) : ∃ S, Q.J w rb S s := by obtain ⟨S, h1, _⟩ := h.j; exact ⟨S, h1⟩
end
end Go.Proofs.YtkkmfpllgjoceaaGreat.Ro
