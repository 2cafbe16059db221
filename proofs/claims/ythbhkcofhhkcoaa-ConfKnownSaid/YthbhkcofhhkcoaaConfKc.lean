/- ConfKnown: appends to a row that is read on. -/
import Derived.Test.YthbhkcofhhkcoaaConfKb
import Derived.ArgAppend
import Derived.Laws.OwnMore
namespace Go.Proofs.Ythbhkcofhhkcoaa
open Go.RowKit Pk Cn
set_option linter.unusedVariables false

/-- an append to a row of the call's own: the row that was is still there -/
theorem run_append_keep {P : Program} (w : World) (base : Nat) (t ty e : TypeId) (i : TypeInfo) (z : Value) (size bytes : Nat) (ht : P.underlying t = some (.slice e)) (hi : P.info? e = some i) (hz : i.zero = some z)
    (hsize : i.size = size) (hby : i.bytes = bytes) (hzs : z.cells.size = size) (hsz : 0 < size)
    (g n cap : Nat) (xs : List Value) (hown : w.ownsRow base e size (.slice (some ⟨g, 0, none⟩) n cap) n xs)
    (a : Addr) (m c : Nat) (news : List Value) (hl : news.length = m * size) (hnews : ∀ j u, news[j]? = some u → w.cell? (a.add j) = some u) (h1 : ∀ u ∈ news, u.oneCell' = true)
    (h63 : n + m ≤ maxLen) (hbytes : (n + m) * bytes ≤ 140737488355328) (hbase : base ≤ w.heap.size) :
    ∃ v' w', (Builtin.append_ #[t, t] ty #[.slice (some ⟨g, 0, none⟩) n cap, .slice (some a) m c]).run P w = .ok v' w' ∧ w'.ownsRow base e size v' (n + m) (xs ++ news) ∧ w'.ownsRow base e size (.slice (some ⟨g, 0, none⟩) n cap) n xs ∧ w.grownBy w' (some g) := by
  by_cases hroom : n + m ≤ cap
  · obtain ⟨w', hrun, hown', hgr⟩ := run_append_fits (P := P) w base t ty e i size ht hi hsize g n cap xs hown a m c news hl hnews h1 hroom
    refine ⟨_, w', hrun, hown', ⟨hown.1, ?_⟩, hgr⟩
    rcases hown'.2 with ⟨h, _⟩ | ⟨g', cap', cur, h, hbg, hg, hnc, hcm, hcs, htake⟩
    · simp at h
    · simp only [Value.slice.injEq, Option.some.injEq, Addr.mk.injEq, and_true, true_and] at h
      obtain ⟨rfl, rfl⟩ := h
      refine Or.inr ⟨g, cap, cur, rfl, hbg, hg, by omega, hcm, hcs, ?_⟩
      have h2 : (cur.toList.take ((n + m) * size)).take (n * size) = (xs ++ news).take (n * size) := by rw [htake]
      rw [List.take_take, Nat.min_eq_left (Nat.mul_le_mul_right _ (Nat.le_add_right n m)), List.take_append_of_le_length (by rw [hown.1]; exact Nat.le_refl _)] at h2
      exact h2.trans (List.take_of_length_le (by rw [hown.1]; exact Nat.le_refl _))
  · obtain ⟨v', w', hrun, hown', hgr⟩ := run_append_arg_grows (P := P) w t ty e i z size bytes ht hi hz hsize hby hzs hsz ⟨g, 0, none⟩ n cap xs hown.1 (fun j u hj => World.ownsRow.cells hown (g := g) rfl j u hj) a m c news hl hnews (by omega) h63 hbytes
    refine ⟨v', w', hrun, ⟨hown'.1, ?_⟩, World.ownsRow.kept hown hgr (Or.inr (by simp [Value.ownBlock])), ⟨hgr.os, hgr.tape, hgr.output, hgr.size, fun k hk _ => hgr.block k hk (by simp)⟩⟩
    rcases hown'.2 with hn | ⟨g', cap', cur, rfl, hb, rest⟩
    · exact Or.inl hn
    · exact Or.inr ⟨g', cap', cur, rfl, by omega, rest⟩
/-- the same, as one step of a region that draws -/
theorem step_append_keep {P : Program} {ops : Array Oper} {o : Oper} {a : Act} {w : World} {K : Act → World → Prop} {Q : Exit → Act → World → Prop} {E : Prop}
    (hg : o.guard = none) (s x : Operand) (t : TypeId) (hop : o.op = Op.call { callee := Callee.builtin Builtin.append, args := #[s, x], argTypes := #[t, t] })
    (base : Nat) (e : TypeId) (i : TypeInfo) (z : Value) (size bytes : Nat) (ht : P.underlying t = some (.slice e)) (hi : P.info? e = some i) (hz : i.zero = some z)
    (hsize : i.size = size) (hby : i.bytes = bytes) (hzs : z.cells.size = size) (hsz : 0 < size)
    (b n cap : Nat) (xs : List Value) (hs : a.eval s = .slice (some ⟨b, 0, none⟩) n cap) (hown : w.ownsRow base e size (.slice (some ⟨b, 0, none⟩) n cap) n xs)
    (ad : Addr) (m c : Nat) (news : List Value) (hx : a.eval x = .slice (some ad) m c) (hl : news.length = m * size) (hnews : ∀ j u, news[j]? = some u → w.cell? (ad.add j) = some u) (h1 : ∀ u ∈ news, u.oneCell' = true)
    (h63 : n + m ≤ maxLen) (hbytes : (n + m) * bytes ≤ 140737488355328) (hbase : base ≤ w.heap.size)
    (hK : ∀ v' w', w'.ownsRow base e size v' (n + m) (xs ++ news) → w'.ownsRow base e size (.slice (some ⟨b, 0, none⟩) n cap) n xs → w.grownBy w' (some b) → K (a.put o.dst v') w') :
    if Region.wanted o (yielded ops a.tmps) = true then Oper.wp P o a w K Q else E := by
  obtain ⟨v', w', hrun, h2, h3, h4⟩ := run_append_keep (P := P) w base t o.type e i z size bytes ht hi hz hsize hby hzs hsz b n cap xs hown ad m c news hl hnews h1 h63 hbytes hbase
  have key : Oper.wp P o a w K Q := by
    unfold Oper.wp
    simp [execOp, hop, resolve, invoke, builtin, hs, hx, hrun, Result.andThen]
    exact hK v' w' h2 h3 h4
  unfold Region.wanted
  rw [hg]
  simpa using key
theorem own_set {w : World} {B e K n b i : Nat} {v y : Value} {xs : List Value} {c : Array Value} {t : TypeId} {k : Nat × Nat} (h : w.ownsRow B e K v n xs) (hb : w.heap[b]? = some (.cells c t k)) (ht : t ≠ e) : (w.setCell ⟨b, i, none⟩ y).ownsRow B e K v n xs :=
  World.ownsRow.kept h set_grown (Or.inr (own_ne h hb ht))
theorem PW.setC {w : World} {B b i : Nat} {v y : Value} {ps : List Pt} {c : Array Value} {k : Nat × Nat} (h : PW w B v ps) (hb : w.heap[b]? = some (.cells c 25 k)) : PW (w.setCell ⟨b, i, none⟩ y) B v ps := by
  obtain ⟨l, h1, h2, h3⟩ := h
  exact ⟨l, h1, own_set h2 hb (by decide), fun q hq => own_set (h3 q hq) hb (by decide)⟩
theorem grown_undrew {w w3 : World} {o : Obj} {row : Option Nat} (h : (w.alloc o).drew.grownBy w3 row) : (w.alloc o).grownBy w3 row := ⟨h.os, h.tape, h.output, h.size, h.block⟩
/-- a row that is not empty, its block -/
theorem own_some {w : World} {B e K n : Nat} {v : Value} {xs : List Value} (h : w.ownsRow B e K v n xs) (hn : 0 < n) : ∃ g cap, v = .slice (some ⟨g, 0, none⟩) n cap ∧ B ≤ g ∧ n ≤ cap ∧ cap ≤ maxLen := by
  rcases h.2 with ⟨_, h0⟩ | ⟨g, cap, cur, rfl, hg, _, h1, h2, _⟩
  · omega
  · exact ⟨g, cap, rfl, hg, h1, h2⟩
/-- behind the append of a port to a configuration that shares its ports with another one -/
theorem many_put {w w3 : World} {B C M n g cap : Nat} {o : Obj} {sv v' : Value} {ps : List Pt} {os os' : List Po} (hCB : C < B) (hC : w.heap[C]? = some (.cells #[sv, .slice (some ⟨g, 0, none⟩) n cap] 25 (0, 0))) (hM : w.heap[M]? = some (.cells #[sv, .slice (some ⟨g, 0, none⟩) n cap] 25 (0, 0))) (hCM : C ≠ M)
    (hps : PW w B sv ps) (hl : os.length = n) (hov : w.ownsRow B 32 6 (.slice (some ⟨g, 0, none⟩) n cap) n (ocs os)) (hnew : OW w3 B v' os') (hold : w3.ownsRow B 32 6 (.slice (some ⟨g, 0, none⟩) n cap) n (ocs os)) (hgr : (w.alloc o).grownBy w3 (some g)) :
    w3.heap[C]? = some (.cells #[sv, .slice (some ⟨g, 0, none⟩) n cap] 25 (0, 0)) ∧ w3.frozen? ⟨M, 1, none⟩ = false ∧ w3.cell? ⟨M, 1, none⟩ = some (.slice (some ⟨g, 0, none⟩) n cap) ∧ (w3.setCell ⟨M, 1, none⟩ v').heap[C]? = some (.cells #[sv, .slice (some ⟨g, 0, none⟩) n cap] 25 (0, 0)) ∧ (w3.setCell ⟨M, 1, none⟩ v').heap[M]? = some (.cells #[sv, v'] 25 (0, 0)) ∧
      PW (w3.setCell ⟨M, 1, none⟩ v') B sv ps ∧ OW (w3.setCell ⟨M, 1, none⟩ v') B v' os' ∧ OW (w3.setCell ⟨M, 1, none⟩ v') B (.slice (some ⟨g, 0, none⟩) n cap) os ∧ (C < M → Below C w (w3.setCell ⟨M, 1, none⟩ v')) := by
  have lC := (Array.getElem?_eq_some_iff.1 hC).1
  have lM := (Array.getElem?_eq_some_iff.1 hM).1
  have gb := (World.ownsRow.lt hov g rfl).1
  have nM := own_ne hov hM (by decide)
  have hgr' : (w.alloc o).grownBy w3 (Value.slice (some ⟨g, 0, none⟩) n cap).ownBlock := hgr
  have old : ∀ b, b < w.heap.size → b ≠ g → w3.heap[b]? = w.heap[b]? := fun b h1 h2 => (hgr.block b (by simp; omega) (by intro e; exact h2 (Option.some.inj e))).trans (Below.heap_alloc _ _ _ h1)
  have hM3 := (old M lM (fun e => nM (by rw [e]; rfl))).trans hM
  have hC3 := (old C lC (by omega)).trans hC
  refine ⟨hC3, frozen_of_row _ _ 1 _ _ hM3, cell_of_row _ _ 1 _ _ _ hM3, (heap_set_other hCM).trans hC3, heap_set_same hM3, (hps.port hov hgr').setC hM3, own_set hnew hM3 (by decide), ?_, fun hlt => ⟨hgr.os, hgr.tape, hgr.output, ?_, fun k hk => (heap_set_other (by omega)).trans (old k (by omega) (by omega))⟩⟩
  · unfold OW; rw [hl]; exact own_set hold hM3 (by decide)
  · have := hgr.size; simp at this; simp [World.setCell]; omega
theorem own_cell0 {w : World} {B e K n g cap : Nat} {xs : List Value} (h : w.ownsRow B e K (.slice (some ⟨g, 0, none⟩) n cap) n xs) {j : Nat} {u : Value} (hj : xs[j]? = some u) : w.cell? ⟨g, j, none⟩ = some u := by
  have := World.ownsRow.cells h (g := g) rfl j u hj
  rw [Addr.add_lit, Nat.zero_add] at this
  exact this
/-- what the region of the ninth port reads -/
theorem s34 {w : World} {B C n g cap : Nat} {sv : Value} (hC : w.heap[C]? = some (.cells #[sv, .slice (some ⟨g, 0, none⟩) n cap] 25 (0, 0))) (ho : w.ownsRow B 32 6 (.slice (some ⟨g, 0, none⟩) n cap) n (ocs (osF 8))) :
    w.cell? ⟨C, 1, none⟩ = some (.slice (some ⟨g, 0, none⟩) n cap) ∧ w.cell? ⟨g, 0, none⟩ = some (.int .i64 2) ∧ w.cell? ⟨g, 1, none⟩ = some (.int .i64 0) ∧ w.cell? ⟨g, 2, none⟩ = some (.int .i64 1) ∧ w.cell? ⟨g, 3, none⟩ = some (.int .i64 16) ∧ w.cell? ⟨g, 4, none⟩ = some (.int .i64 4) ∧ w.cell? ⟨g, 5, none⟩ = some (.int .i64 0) :=
  ⟨(pz2 hC).2, own_cell0 ho rfl, own_cell0 ho rfl, own_cell0 ho rfl, own_cell0 ho rfl, own_cell0 ho rfl, own_cell0 ho rfl⟩
/-- what the region of the fifth partition reads -/
theorem s36 {w : World} {B C n g cap : Nat} {ov tv : Value} {xs : List Value} (hC : w.heap[C]? = some (.cells #[.slice (some ⟨g, 0, none⟩) n cap, ov] 25 (0, 0))) (ho : w.ownsRow B 28 3 (.slice (some ⟨g, 0, none⟩) n cap) n xs)
    (h0 : xs[0]? = some (.int .i64 64)) (h1 : xs[1]? = some (.int .i64 20)) (h2 : xs[2]? = some tv) :
    w.cell? ⟨C, 0, none⟩ = some (.slice (some ⟨g, 0, none⟩) n cap) ∧ w.cell? ⟨g, 0, none⟩ = some (.int .i64 64) ∧ w.cell? ⟨g, 1, none⟩ = some (.int .i64 20) ∧ w.cell? ⟨g, 2, none⟩ = some tv :=
  ⟨(pz2 hC).1, own_cell0 ho h0, own_cell0 ho h1, own_cell0 ho h2⟩
/-- an append of a partition to a row that is read on -/
theorem PW.rowK {w : World} {B n g cap : Nat} {p : Pt} {ps : List Pt} (h : PW w B (.slice (some ⟨g, 0, none⟩) n cap) (p :: ps)) (hn : (p :: ps).length = n) :
    ∃ xs ta tcap, w.ownsRow B 28 3 (.slice (some ⟨g, 0, none⟩) n cap) n xs ∧ xs[0]? = some (.int .i64 p.per) ∧ xs[1]? = some (.int .i64 p.bud) ∧ xs[2]? = some (.slice ta p.ts.length tcap) ∧
      ∀ (o : Obj) (w3 : World) (v' : Value), (w.alloc o).grownBy w3 (some g) → w3.ownsRow B 28 3 v' (n + 1) (xs ++ [.int .i64 p.per, .int .i64 p.bud, .slice ta p.ts.length tcap]) → w3.ownsRow B 28 3 (.slice (some ⟨g, 0, none⟩) n cap) n xs →
        PW w3 B v' (p :: ps ++ [p]) ∧ PW w3 B (.slice (some ⟨g, 0, none⟩) n cap) (p :: ps) := by
  obtain ⟨L, hL, hrow, hall⟩ := h
  have hLn : L.length = n := by rw [← hn, ← hL, List.length_map]
  rw [hLn] at hrow
  obtain ⟨q0, L', rfl⟩ : ∃ q0 L', L = q0 :: L' := by
    cases L with
    | nil => simp at hL
    | cons a b => exact ⟨a, b, rfl⟩
  obtain ⟨rfl, hL'⟩ : q0.1 = p ∧ L'.map (·.1) = ps := by simpa using hL
  have ht := hall q0 (by simp)
  obtain ⟨ta, tcap, htv⟩ := TW.form ht
  refine ⟨_, ta, tcap, hrow, rfl, rfl, by rw [← htv]; rfl, fun o w3 v' hgr hnew hold => ?_⟩
  have key : ∀ {u : Value} {ts : List Tk}, TW w B u ts → TW w3 B u ts := fun hu =>
    World.ownsRow.kept (World.ownsRow.alloc hu _) (row := (Value.slice (some ⟨g, 0, none⟩) n cap).ownBlock) hgr (own_two (World.ownsRow.alloc hu o) (World.ownsRow.alloc hrow o) (by decide))
  refine ⟨⟨q0 :: L' ++ [q0], by rw [List.map_append, hL]; rfl, ?_, fun q hq => ?_⟩, ⟨q0 :: L', hL, by rw [hLn]; exact hold, fun q hq => key (hall q hq)⟩⟩
  · rw [List.length_append, hLn, List.flatMap_append]
    rw [← htv] at hnew
    simpa [pcs] using hnew
  · rcases List.mem_append.1 hq with hq | hq
    · exact key (hall q hq)
    · rw [List.mem_singleton] at hq
      subst hq
      exact key ht
theorem five_put {w w3 : World} {B C M F n g cap : Nat} {o : Obj} {ov mv v' : Value} {ps ps' : List Pt} {os ms : List Po} {xs : List Value} (hCB : C < B) (hC : w.heap[C]? = some (.cells #[.slice (some ⟨g, 0, none⟩) n cap, ov] 25 (0, 0))) (hM : w.heap[M]? = some (.cells #[.slice (some ⟨g, 0, none⟩) n cap, mv] 25 (0, 0)))
    (hF : w.heap[F]? = some (.cells #[.slice (some ⟨g, 0, none⟩) n cap, ov] 25 (0, 0))) (hCF : C ≠ F) (hMF : M ≠ F)
    (hrow : w.ownsRow B 28 3 (.slice (some ⟨g, 0, none⟩) n cap) n xs) (hov : OW w B ov os) (hmv : OW w B mv ms) (hnew : PW w3 B v' ps') (hold : PW w3 B (.slice (some ⟨g, 0, none⟩) n cap) ps) (hgr : (w.alloc o).grownBy w3 (some g)) :
    w3.heap[C]? = some (.cells #[.slice (some ⟨g, 0, none⟩) n cap, ov] 25 (0, 0)) ∧ w3.frozen? ⟨F, 0, none⟩ = false ∧ w3.cell? ⟨F, 0, none⟩ = some (.slice (some ⟨g, 0, none⟩) n cap) ∧ (w3.setCell ⟨F, 0, none⟩ v').heap[C]? = some (.cells #[.slice (some ⟨g, 0, none⟩) n cap, ov] 25 (0, 0)) ∧
      (w3.setCell ⟨F, 0, none⟩ v').heap[M]? = some (.cells #[.slice (some ⟨g, 0, none⟩) n cap, mv] 25 (0, 0)) ∧ (w3.setCell ⟨F, 0, none⟩ v').heap[F]? = some (.cells #[v', ov] 25 (0, 0)) ∧
      PW (w3.setCell ⟨F, 0, none⟩ v') B v' ps' ∧ PW (w3.setCell ⟨F, 0, none⟩ v') B (.slice (some ⟨g, 0, none⟩) n cap) ps ∧ OW (w3.setCell ⟨F, 0, none⟩ v') B ov os ∧ OW (w3.setCell ⟨F, 0, none⟩ v') B mv ms ∧ (C < F → Below C w (w3.setCell ⟨F, 0, none⟩ v')) := by
  have lC := (Array.getElem?_eq_some_iff.1 hC).1
  have lM := (Array.getElem?_eq_some_iff.1 hM).1
  have lF := (Array.getElem?_eq_some_iff.1 hF).1
  have gb := (World.ownsRow.lt hrow g rfl).1
  have nM := own_ne hrow hM (by decide)
  have nF := own_ne hrow hF (by decide)
  have old : ∀ b, b < w.heap.size → b ≠ g → w3.heap[b]? = w.heap[b]? := fun b h1 h2 => (hgr.block b (by simp; omega) (by intro e; exact h2 (Option.some.inj e))).trans (Below.heap_alloc _ _ _ h1)
  have hM3 := (old M lM (fun e => nM (by rw [e]; rfl))).trans hM
  have hF3 := (old F lF (fun e => nF (by rw [e]; rfl))).trans hF
  have hC3 := (old C lC (by omega)).trans hC
  have key : ∀ {u : Value} {l : List Po}, OW w B u l → OW w3 B u l := fun hu =>
    World.ownsRow.kept (World.ownsRow.alloc hu _) (row := (Value.slice (some ⟨g, 0, none⟩) n cap).ownBlock) hgr (own_two (World.ownsRow.alloc hu o) (World.ownsRow.alloc hrow o) (by decide))
  refine ⟨hC3, frozen_of_row _ _ 0 _ _ hF3, cell_of_row _ _ 0 _ _ _ hF3, (heap_set_other hCF).trans hC3, (heap_set_other hMF).trans hM3, heap_set_same hF3, hnew.setC hF3, hold.setC hF3, own_set (key hov) hF3 (by decide), own_set (key hmv) hF3 (by decide), fun hlt => ⟨hgr.os, hgr.tape, hgr.output, ?_, fun k hk => (heap_set_other (by omega)).trans (old k (by omega) (by omega))⟩⟩
  have := hgr.size; simp at this; simp [World.setCell]; omega
theorem five_blk {w w3 : World} {B F n g cap : Nat} {o : Obj} {xs : List Value} {c : Array Value} (hF : w.heap[F]? = some (.cells c 25 (0, 0))) (hrow : w.ownsRow B 28 3 (.slice (some ⟨g, 0, none⟩) n cap) n xs) (hgr : (w.alloc o).grownBy w3 (some g)) : w3.heap[F]? = some (.cells c 25 (0, 0)) := by
  have lF := (Array.getElem?_eq_some_iff.1 hF).1
  have nF := own_ne hrow hF (by decide)
  exact ((hgr.block F (by simp; omega) (by intro e; exact nF (by rw [← Option.some.inj e]; rfl))).trans (Below.heap_alloc _ _ _ lF)).trans hF
def tC3 : Tk := ⟨20, 12, 3, 0, 0, 0, 0, 0⟩
/-- what the region of the further tasks reads -/
theorem s41 {w : World} {B C n g cap j : Nat} {x y : Value} (hC : w.heap[C]? = some (.cells #[x, y] 25 (0, 0))) (ho : w.ownsRow B 30 8 (.slice (some ⟨g, 0, none⟩) n cap) n (tcs (List.replicate (j + 1) tC3))) :
    w.cell? ⟨C, 0, none⟩ = some x ∧ w.cell? ⟨g, 0, none⟩ = some (.int .i64 20) ∧ w.cell? ⟨g, 1, none⟩ = some (.int .i64 12) ∧ w.cell? ⟨g, 2, none⟩ = some (.int .i64 3) ∧ w.cell? ⟨g, 3, none⟩ = some (.int .i64 0) ∧ w.cell? ⟨g, 4, none⟩ = some (.int .i64 0) ∧ w.cell? ⟨g, 5, none⟩ = some (.int .i64 0) ∧ w.cell? ⟨g, 6, none⟩ = some (.int .i64 0) ∧ w.cell? ⟨g, 7, none⟩ = some (.int .i64 0) :=
  ⟨(pz2 hC).1, own_cell0 ho rfl, own_cell0 ho rfl, own_cell0 ho rfl, own_cell0 ho rfl, own_cell0 ho rfl, own_cell0 ho rfl, own_cell0 ho rfl, own_cell0 ho rfl⟩
/-- behind the append of a task to the one partition of a configuration -/
theorem more_put {w w3 : World} {B s2 K n g cap : Nat} {o : Obj} {a b x y v' : Value} {ts : List Tk} {t : Tk} (hp : w.heap[s2]? = some (.cells #[a, b, .slice (some ⟨g, 0, none⟩) n cap] 28 (0, 0))) (hk : w.heap[K]? = some (.cells #[x, y] 25 (0, 0))) (hne : K ≠ s2) (hl : ts.length = n)
    (ht : w.ownsRow B 30 8 (.slice (some ⟨g, 0, none⟩) n cap) n (tcs ts)) (hnew : w3.ownsRow B 30 8 v' (n + 1) (tcs ts ++ t.row.map (Value.int .i64))) (hold : w3.ownsRow B 30 8 (.slice (some ⟨g, 0, none⟩) n cap) n (tcs ts)) (hgr : (w.alloc o).grownBy w3 (some g)) :
    w3.heap[K]? = some (.cells #[x, y] 25 (0, 0)) ∧ w3.frozen? ⟨s2, 2, none⟩ = false ∧ w3.cell? ⟨s2, 2, none⟩ = some (.slice (some ⟨g, 0, none⟩) n cap) ∧ (w3.setCell ⟨s2, 2, none⟩ v').heap[K]? = some (.cells #[x, y] 25 (0, 0)) ∧ (w3.setCell ⟨s2, 2, none⟩ v').heap[s2]? = some (.cells #[a, b, v'] 28 (0, 0)) ∧
      TW (w3.setCell ⟨s2, 2, none⟩ v') B v' (ts ++ [t]) ∧ (w3.setCell ⟨s2, 2, none⟩ v').ownsRow B 30 8 (.slice (some ⟨g, 0, none⟩) n cap) n (tcs ts) ∧ ∀ C, C ≤ B → C ≤ s2 → Below C w (w3.setCell ⟨s2, 2, none⟩ v') := by
  have lp := (Array.getElem?_eq_some_iff.1 hp).1
  have lk := (Array.getElem?_eq_some_iff.1 hk).1
  have gb := (World.ownsRow.lt ht g rfl).1
  have np := own_ne ht hp (by decide)
  have nk := own_ne ht hk (by decide)
  have old : ∀ b, b < w.heap.size → b ≠ g → w3.heap[b]? = w.heap[b]? := fun b h1 h2 => (hgr.block b (by simp; omega) (by intro e; exact h2 (Option.some.inj e))).trans (Below.heap_alloc _ _ _ h1)
  have hp3 := (old s2 lp (fun e => np (by rw [e]; rfl))).trans hp
  have hk3 := (old K lk (fun e => nk (by rw [e]; rfl))).trans hk
  refine ⟨hk3, frozen_of_row _ _ 2 _ _ hp3, cell_of_row _ _ 2 _ _ _ hp3, (heap_set_other hne).trans hk3, heap_set_same hp3, ?_, own_set hold hp3 (by decide), fun C hC hC2 => ⟨hgr.os, hgr.tape, hgr.output, ?_, fun k hk => (heap_set_other (by omega)).trans (old k (by omega) (by omega))⟩⟩
  · unfold TW
    rw [List.length_append, hl, tcs_snoc]
    exact own_set hnew hp3 (by decide)
  · have := hgr.size; simp at this; simp [World.setCell]; omega
/-- the chapter's tasks -/
theorem ch_tasks {w w' : World} (h : ChO 3 w w') : TW w' (w.heap.size + 1) (.slice (some ⟨w.heap.size + 1, 0, none⟩) 1 1) (List.replicate 1 tC3) :=
  ⟨rfl, Or.inr ⟨w.heap.size + 1, 1, _, rfl, Nat.le_refl _, h.ht, Nat.le_refl _, by unfold maxLen; decide, rfl, rfl⟩⟩
end Go.Proofs.Ythbhkcofhhkcoaa
