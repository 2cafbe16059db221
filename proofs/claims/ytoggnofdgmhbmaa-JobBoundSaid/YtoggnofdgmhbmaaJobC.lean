/- What is asked of the program's job, whatever it is in memory. -/
import Derived.Test.YtoggnofdgmhbmaaJobA
import Derived.Lib.QuietBelow
namespace Go.Proofs.Ytoggnofdgmhbmaa
open Go.RowKit Go.Sort Ac Jo
set_option linter.unusedVariables false

/-- a task, by value -/
abbrev tv (t : Nat → Int) : Value := .agg #[.int .i64 (t 0), .int .i64 (t 1), .int .i64 (t 2), .int .i64 (t 3), .int .i64 (t 4), .int .i64 (t 5), .int .i64 (t 6), .int .i64 (t 7)]
abbrev tcs (t : Nat → Int) : Array Value := #[.int .i64 (t 0), .int .i64 (t 1), .int .i64 (t 2), .int .i64 (t 3), .int .i64 (t 4), .int .i64 (t 5), .int .i64 (t 6), .int .i64 (t 7)]
/-- a task in a block -/
def TB1 (w : World) (g : Nat) (t : Nat → Int) : Prop := w.heap[g]? = some (.cells (tcs t) 23 (0, 0))
theorem TB1.below {w w' : World} {g : Nat} {t : Nat → Int} (h : TB1 w g t) (q : Below w.heap.size w w') : TB1 w' g t := (q.block g (lt_of_block h)).trans h
def YB (b : Bool) (w : World) (e : Ending) (w' : World) : Prop := e = .returned (.bool b) ∧ Below w.heap.size w w'
/-- an answer; the job behind it; of what was there nothing has turned but its blocks -/
def QP (J : World → Nat → (Nat → Prop) → Jb → Prop) (v : Value) (jb : Nat) (S : Nat → Prop) (s : Jb) (w : World) (e : Ending) (w' : World) : Prop := e = .returned v ∧ J w' jb S s ∧ Only S w w'
/-- a job is answered -/
def QNew (J : World → Nat → (Nat → Prop) → Jb → Prop) (s : Jb) (w : World) (e : Ending) (w' : World) : Prop :=
  ∃ jb S, e = .returned (.tuple #[.pointer (some ⟨jb, 0, none⟩), .int .i64 0]) ∧ J w' jb S s ∧ (∀ k, S k → w.heap.size ≤ k) ∧ Below w.heap.size w w'
/-- the program's job: J w jb S s: at jb stands s, in the blocks S -/
structure Prg where
  J : World → Nat → (Nat → Prop) → Jb → Prop
  lt : ∀ {w : World} {jb : Nat} {S : Nat → Prop} {s : Jb}, J w jb S s → ∀ k, S k → k < w.heap.size
  keep : ∀ {w w' : World} {jb : Nat} {S : Nat → Prop} {s : Jb}, J w jb S s → (∀ k, S k → w'.heap[k]? = w.heap[k]?) → J w' jb S s
  next : ∀ {w : World} {jb : Nat} {S : Nat → Prop} {s : Jb}, J w jb S s → Inv s → Calls Try.prog 26 #[.pointer (some ⟨jb, 0, none⟩)] w (VB (nv s.l) w)
  did : ∀ {w : World} {jb : Nat} {S : Nat → Prop} {s : Jb}, J w jb S s → Inv s → Calls Try.prog 10 #[.pointer (some ⟨jb, 0, none⟩)] w (QP J (.int .i64 (didE s.l)) jb S (didJ s) w)
  run : ∀ {w : World} {jb : Nat} {S : Nat → Prop} {s : Jb}, J w jb S s → Inv s → Calls Try.prog 12 #[.pointer (some ⟨jb, 0, none⟩)] w (QP J (.int .i64 (runE s)) jb S (runJ s) w)
  enter : ∀ {w : World} {jb : Nat} {S : Nat → Prop} {s : Jb}, J w jb S s → Inv s → ∀ a : Int, Calls Try.prog 14 #[.pointer (some ⟨jb, 0, none⟩), .int .i64 a] w (QP J (.int .i64 (entE s a)) jb S (entJ s a) w)
  leave : ∀ {w : World} {jb : Nat} {S : Nat → Prop} {s : Jb}, J w jb S s → Inv s → Calls Try.prog 16 #[.pointer (some ⟨jb, 0, none⟩)] w (QP J (.int .i64 (leaE s)) jb S (leaJ s) w)
  fault : ∀ {w : World} {jb : Nat} {S : Nat → Prop} {s : Jb}, J w jb S s → Inv s → ∀ now : Int, Calls Try.prog 24 #[.pointer (some ⟨jb, 0, none⟩), .int .i64 now] w (VB (.int .i64 (fau s now)) w)
  deadline : ∀ {w : World} {jb : Nat} {S : Nat → Prop} {s : Jb}, J w jb S s → Inv s → Calls Try.prog 27 #[.pointer (some ⟨jb, 0, none⟩)] w (VB (.int .i64 s.e) w)
  ran : ∀ {w : World} {jb : Nat} {S : Nat → Prop} {s : Jb}, J w jb S s → Inv s → Calls Try.prog 21 #[.pointer (some ⟨jb, 0, none⟩)] w (VB (.int .i64 s.n) w)
  into : ∀ {w : World} {jb : Nat} {S : Nat → Prop} {s : Jb}, J w jb S s → Inv s → Calls Try.prog 20 #[.pointer (some ⟨jb, 0, none⟩)] w (VB (.tuple #[.int .i64 s.c, .int .i64 s.k]) w)
  takes : ∀ {w : World} {jb : Nat} {S : Nat → Prop} {s : Jb}, J w jb S s → Inv s → Calls Try.prog 22 #[.pointer (some ⟨jb, 0, none⟩)] w (VB (.int .i64 s.x) w)
  begun : ∀ {w : World} {jb : Nat} {S : Nat → Prop} {s : Jb}, J w jb S s → Inv s → Calls Try.prog 25 #[.pointer (some ⟨jb, 0, none⟩)] w (VB (.bool s.b) w)
  done : ∀ {w : World} {jb : Nat} {S : Nat → Prop} {s : Jb}, J w jb S s → Inv s → Calls Try.prog 23 #[.pointer (some ⟨jb, 0, none⟩)] w (VB (.bool s.l.isEmpty) w)
  newArg : ∀ {w : World} {v : Value} {l : List Ak} (t : Nat → Int) (now : Int), AS w v l → (tok t = false ∨ (tok t = true ∧ now < 0)) → Calls Try.prog 6 #[tv t, v, .int .i64 now] w (NoP 2 w)
  newOver : ∀ {w : World} {v : Value} {l : List Ak} (t : Nat → Int) (now : Int), AS w v l → tok t = true → 0 ≤ now → 1099511627776 < now → Calls Try.prog 6 #[tv t, v, .int .i64 now] w (NoP 10 w)
  newErr : ∀ {w : World} {v : Value} {l : List Ak} (t : Nat → Int) (now : Int), AS w v l → tok t = true → 0 ≤ now → now ≤ 1099511627776 → ¬ Gd l → Calls Try.prog 6 #[tv t, v, .int .i64 now] w (NoP (newE l) w)
  newOk : ∀ {w : World} {v : Value} {l : List Ak} (t : Nat → Int) (now : Int), AS w v l → tok t = true → 0 ≤ now → now ≤ 1099511627776 → Gd l → Calls Try.prog 6 #[tv t, v, .int .i64 now] w (QNew J (fresh t (now + t 1) l) w)

/-- a job of the program's, of the call's own -/
structure OJ (Q : Prg) (B : Nat) (W w : World) (jb : Nat) (S : Nat → Prop) (s : Jb) : Prop where
  j : Q.J w jb S s
  iv : Inv s
  b : ∀ k, S k → B ≤ k
  sz : B ≤ W.heap.size
  bel : Below B W w
/-- an answer; the job behind it -/
def OQ (Q : Prg) (v : Value) (B : Nat) (W : World) (jb : Nat) (S : Nat → Prop) (s : Jb) (w : World) (e : Ending) (w' : World) : Prop := e = .returned v ∧ OJ Q B W w' jb S s ∧ Only S w w'
section
variable {Q : Prg} {B : Nat} {W w : World} {jb : Nat} {S : Nat → Prop} {s : Jb}
theorem OJ.below {w' : World} (h : OJ Q B W w jb S s) (q : Below w.heap.size w w') : OJ Q B W w' jb S s :=
  ⟨Q.keep h.j fun k hk => q.block k (Q.lt h.j k hk), h.iv, h.b, h.sz, h.bel.trans (q.mono (Nat.le_trans h.sz h.bel.size))⟩
theorem OJ.far {w' : World} {R : Nat → Prop} (h : OJ Q B W w jb S s) (o : Only R w w') (hR : ∀ k, R k → B ≤ k) (ap : ∀ k, S k → R k → False) : OJ Q B W w' jb S s :=
  ⟨Q.keep h.j fun k hk => o.block k (Q.lt h.j k hk) (fun r => ap k hk r), h.iv, h.b, h.sz, h.bel.trans (o.below (Nat.le_trans h.sz h.bel.size) hR)⟩
theorem OJ.to {w' : World} {s' : Jb} (h : OJ Q B W w jb S s) (hj : Q.J w' jb S s') (hi : Inv s') (o : Only S w w') : OJ Q B W w' jb S s' :=
  ⟨hj, hi, h.b, h.sz, h.bel.trans (o.below (Nat.le_trans h.sz h.bel.size) h.b)⟩
theorem OJ.szw (h : OJ Q B W w jb S s) : B ≤ w.heap.size := Nat.le_trans h.sz h.bel.size
theorem oj_did (h : OJ Q B W w jb S s) : Calls Try.prog 10 #[.pointer (some ⟨jb, 0, none⟩)] w (OQ Q (.int .i64 (didE s.l)) B W jb S (didJ s) w) := (Q.did h.j h.iv).mono fun e w' ⟨e1, e2, e3⟩ => ⟨e1, h.to e2 (inv_did h.iv) e3, e3⟩
theorem oj_run (h : OJ Q B W w jb S s) : Calls Try.prog 12 #[.pointer (some ⟨jb, 0, none⟩)] w (OQ Q (.int .i64 (runE s)) B W jb S (runJ s) w) := (Q.run h.j h.iv).mono fun e w' ⟨e1, e2, e3⟩ => ⟨e1, h.to e2 (inv_run h.iv) e3, e3⟩
theorem oj_enter (h : OJ Q B W w jb S s) (a : Int) : Calls Try.prog 14 #[.pointer (some ⟨jb, 0, none⟩), .int .i64 a] w (OQ Q (.int .i64 (entE s a)) B W jb S (entJ s a) w) := (Q.enter h.j h.iv a).mono fun e w' ⟨e1, e2, e3⟩ => ⟨e1, h.to e2 (inv_ent h.iv a) e3, e3⟩
theorem oj_leave (h : OJ Q B W w jb S s) : Calls Try.prog 16 #[.pointer (some ⟨jb, 0, none⟩)] w (OQ Q (.int .i64 (leaE s)) B W jb S (leaJ s) w) := (Q.leave h.j h.iv).mono fun e w' ⟨e1, e2, e3⟩ => ⟨e1, h.to e2 (inv_lea h.iv) e3, e3⟩
end
end Go.Proofs.Ytoggnofdgmhbmaa
