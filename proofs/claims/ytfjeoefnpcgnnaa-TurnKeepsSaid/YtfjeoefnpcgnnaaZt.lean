/- Servers in memory; rows of numbers. -/
import Derived.Test.YtfjeoefnpcgnnaaZd
import Derived.Test.YtfjeoefnpcgnnaaDelO
import Derived.Test.YtfjeoefnpcgnnaaZl
import Derived.Deep.OwnRows
import Derived.BigQuiet
import Derived.StillTailTactics
import Derived.RegionTactic
import Derived.Lib.SmallJoins
import Derived.Deep.RegionLawGrows
namespace Go.Proofs.Ytfjeoefnpcgnnaa.Sh
open Go.RowKit Tk De Dl Go.Proofs.Ytfjeoefnpcgnnaa.Lo
set_option linter.unusedVariables false

/-- servers that can be read: their tasks are not looked at -/
def SV (w : World) (v : Value) (n : Nat) (p b : Nat → Int) : Prop :=
  ∃ a cap, v = .slice a n cap ∧ n ≤ cap ∧ cap ≤ maxLen ∧ (a = none → cap = 0) ∧
    (0 < n → ∃ g off, a = some ⟨g, off, none⟩ ∧ ∀ i, i < n → w.cell? ⟨g, off + i * 3, none⟩ = some (.int .i64 (p i)) ∧ w.cell? ⟨g, off + i * 3 + 1, none⟩ = some (.int .i64 (b i)) ∧ ∃ ta tn tc, w.cell? ⟨g, off + i * 3 + 2, none⟩ = some (.slice ta tn tc))
theorem SV.slice {w : World} {v : Value} {n : Nat} {p b : Nat → Int} (h : SV w v n p b) : ∃ a cap, v = .slice a n cap ∧ n ≤ cap ∧ cap ≤ maxLen := by obtain ⟨a, cap, h1, h2, h3, _⟩ := h; exact ⟨a, cap, h1, h2, h3⟩
theorem SV.below {w w' : World} {v : Value} {n : Nat} {p b : Nat → Int} (h : SV w v n p b) (q : Below w.heap.size w w') : SV w' v n p b := by
  obtain ⟨a, cap, h1, h2, h3, h4, h5⟩ := h
  refine ⟨a, cap, h1, h2, h3, h4, fun hn => ?_⟩
  obtain ⟨g, off, e, hc⟩ := h5 hn
  refine ⟨g, off, e, fun i hi => ?_⟩
  obtain ⟨c1, c2, ta, tn, tc, c3⟩ := hc i hi
  exact ⟨(q.cell (World.block_lt_of_cell? _ _ c1)).trans c1, (q.cell (World.block_lt_of_cell? _ _ c2)).trans c2, ta, tn, tc, (q.cell (World.block_lt_of_cell? _ _ c3)).trans c3⟩
theorem SV.nil (w : World) (p b : Nat → Int) : SV w (.slice none 0 0) 0 p b := ⟨none, 0, rfl, Nat.le_refl _, Nat.zero_le _, fun _ => rfl, fun h => by cases h⟩
theorem SV.at {w : World} {n cap m : Nat} {a : Option Addr} {p b : Nat → Int} (h : SV w (.slice a n cap) m p b) {i : Nat} (hi : i < n) : ∃ g off ta tn tc, a = some ⟨g, off, none⟩ ∧ w.cell? ⟨g, off + i * 3, none⟩ = some (.int .i64 (p i)) ∧ w.cell? ⟨g, off + i * 3 + 1, none⟩ = some (.int .i64 (b i)) ∧ w.cell? ⟨g, off + i * 3 + 2, none⟩ = some (.slice ta tn tc) := by
  obtain ⟨a', cap', e, h1, h2, h3, h4⟩ := h
  obtain ⟨rfl, rfl, rfl⟩ : a = a' ∧ n = m ∧ cap = cap' := by simpa using e
  obtain ⟨g, off, rfl, hc⟩ := h4 (by omega)
  obtain ⟨c1, c2, ta, tn, tc, c3⟩ := hc i hi
  exact ⟨g, off, ta, tn, tc, rfl, c1, c2, c3⟩
theorem SV.congr {w : World} {v : Value} {n : Nat} {p b p' b' : Nat → Int} (h : SV w v n p b) (e : ∀ i, i < n → p i = p' i ∧ b i = b' i) : SV w v n p' b' := by
  obtain ⟨a, cap, h1, h2, h3, h4, h5⟩ := h
  refine ⟨a, cap, h1, h2, h3, h4, fun hn => ?_⟩
  obtain ⟨g, off, hg, hc⟩ := h5 hn
  refine ⟨g, off, hg, fun i hi => ?_⟩
  rw [← (e i hi).1, ← (e i hi).2]
  exact hc i hi
theorem SV.take {w : World} {a : Option Addr} {n cap m : Nat} {p b : Nat → Int} (h : SV w (.slice a n cap) m p b) {j : Nat} (hj : j ≤ n) : SV w (.slice a j cap) j p b := by
  obtain ⟨a', cap', e, h1, h2, h3, h4⟩ := h
  obtain ⟨rfl, rfl, rfl⟩ : a = a' ∧ n = m ∧ cap = cap' := by simpa using e
  refine ⟨_, _, rfl, by omega, h2, h3, fun hp => ?_⟩
  obtain ⟨g, off, rfl, hc⟩ := h4 (by omega)
  exact ⟨g, off, rfl, fun i hi => hc i (by omega)⟩
/-- the periods, the budgets of partitions -/
def sp (ps : List Pn) (i : Nat) : Int := (ps.getD i p0).per
def sb (ps : List Pn) (i : Nat) : Int := (ps.getD i p0).bud
theorem sv_of_ps {w : World} {v : Value} {ps : List Pn} (h : PS w v ps) : SV w v ps.length (sp ps) (sb ps) := by
  obtain ⟨a, cap, h1, h2, h3, h4, h5⟩ := h
  refine ⟨a, cap, h1, h2, h3, h4, fun hn => ?_⟩
  obtain ⟨g, off, e, hc⟩ := h5 hn
  refine ⟨g, off, e, fun i hi => ?_⟩
  obtain ⟨c1, c2, tv, c3, c4, c5⟩ := hc i hi
  obtain ⟨ta, tc, rfl, _⟩ := c4.slice
  exact ⟨c1, c2, ta, _, tc, c3⟩
/-- numbers that can be read -/
def NV (w : World) (v : Value) (n : Nat) (x : Nat → Nat) : Prop := ∃ a cap, v = .slice a n cap ∧ n ≤ cap ∧ cap ≤ maxLen ∧ (0 < n → ∃ g off, a = some ⟨g, off, none⟩ ∧ ∀ i, i < n → w.cell? ⟨g, off + i, none⟩ = some (.int .i64 (x i : Nat)))
theorem NV.slice {w : World} {v : Value} {n : Nat} {x : Nat → Nat} (h : NV w v n x) : ∃ a cap, v = .slice a n cap ∧ n ≤ cap ∧ cap ≤ maxLen := by obtain ⟨a, cap, h1, h2, h3, _⟩ := h; exact ⟨a, cap, h1, h2, h3⟩
theorem NV.below {w w' : World} {v : Value} {n : Nat} {x : Nat → Nat} (h : NV w v n x) (q : Below w.heap.size w w') : NV w' v n x := by
  obtain ⟨a, cap, h1, h2, h3, h5⟩ := h
  exact ⟨a, cap, h1, h2, h3, fun hn => by obtain ⟨b, off, e, hc⟩ := h5 hn; exact ⟨b, off, e, fun i hi => (q.cell (World.block_lt_of_cell? _ _ (hc i hi))).trans (hc i hi)⟩⟩
theorem NV.at {w : World} {n cap m : Nat} {a : Option Addr} {x : Nat → Nat} (h : NV w (.slice a n cap) m x) {i : Nat} (hi : i < n) : ∃ b off, a = some ⟨b, off, none⟩ ∧ w.cell? ⟨b, off + i, none⟩ = some (.int .i64 (x i : Nat)) := by
  obtain ⟨a', cap', e, h1, h2, h4⟩ := h
  obtain ⟨rfl, rfl, rfl⟩ : a = a' ∧ n = m ∧ cap = cap' := by simpa using e
  obtain ⟨b, off, rfl, hc⟩ := h4 (by omega)
  exact ⟨b, off, rfl, hc i hi⟩
/-- a row of the call's own, of numbers -/
def NS (W : World) (g n : Nat) (x : Nat → Nat) : Prop := ∃ cur : Array Value, W.heap[g]? = some (.cells cur 3 (0, 0)) ∧ cur.size = n ∧ ∀ i, i < n → cur[i]? = some (.int .i64 (x i : Nat))
theorem NS.lt {W : World} {g n : Nat} {x : Nat → Nat} (h : NS W g n x) : g < W.heap.size := by obtain ⟨cur, h1, _⟩ := h; exact lt_of_block h1
theorem NS.below {W W' : World} {g n : Nat} {x : Nat → Nat} (h : NS W g n x) (q : Below W.heap.size W W') : NS W' g n x := by
  obtain ⟨cur, h1, h2⟩ := h
  exact ⟨cur, (q.block _ (lt_of_block h1)).trans h1, h2⟩
theorem NS.drewN {W : World} {g n : Nat} {x : Nat → Nat} (h : NS W g n x) (m : Nat) : NS (W.drewN m) g n x := h
theorem NS.drew {W : World} {g n : Nat} {x : Nat → Nat} (h : NS W g n x) : NS W.drew g n x := h
theorem NS.off {W : World} {g g' n o : Nat} {x : Nat → Nat} (h : NS W g n x) (hne : g ≠ g') (v : Value) : NS (W.setCell ⟨g', o, none⟩ v) g n x := by
  obtain ⟨cur, h1, h2⟩ := h
  exact ⟨cur, (Below.heap_setCell _ _ _ _ hne).trans h1, h2⟩
theorem NS.at {W : World} {g n : Nat} {x : Nat → Nat} (h : NS W g n x) {i : Nat} (hi : i < n) : W.cell? ⟨g, i, none⟩ = some (.int .i64 (x i : Nat)) ∧ W.frozen? ⟨g, i, none⟩ = false := by
  obtain ⟨cur, h1, h2, h3⟩ := h
  exact ⟨(cell_of_row _ _ _ _ _ _ h1).trans (h3 i hi), frozen_of_row _ _ _ _ _ h1⟩
theorem NS.set {W : World} {g n : Nat} {x : Nat → Nat} (h : NS W g n x) {k : Nat} (hk : k < n) (X : Nat) : NS (W.setCell ⟨g, k, none⟩ (.int .i64 X)) g n (upd x k X) := by
  obtain ⟨cur, h1, h2, h3⟩ := h
  refine ⟨_, heap_set_same h1, by simp [h2], fun i hi => ?_⟩
  simp only [Array.getElem?_setIfInBounds]
  by_cases hik : i = k
  · subst hik
    rw [upd_at, if_pos rfl, if_pos (by omega)]
  · rw [upd_ne _ _ hik, if_neg (by omega)]
    exact h3 i hi
theorem ns_made {W : World} {g n : Nat} (h : W.heap[g]? = some (.cells (madeCells #[.int .i64 0] n) 3 (0, 0))) : NS W g n (fun _ => 0) := ⟨_, h, by simp [madeCells], fun i hi => made_at (by omega)⟩
theorem NS.nv {W : World} {g n : Nat} {x : Nat → Nat} (h : NS W g n x) (hn : n ≤ maxLen) : NV W (.slice (some ⟨g, 0, none⟩) n n) n x := ⟨_, _, rfl, Nat.le_refl _, hn, fun _ => ⟨g, 0, rfl, fun i hi => by rw [Nat.zero_add]; exact (h.at hi).1⟩⟩
theorem wr2 {x : Int} (h0 : 0 ≤ x) (h : x ≤ 1099511627776) : IntKind.i64.wrap x = x ∧ wrap64 x = x := ⟨IntWalk.i64_in _ (by omega), by unfold wrap64; omega⟩
end Go.Proofs.Ytfjeoefnpcgnnaa.Sh

namespace Go.Proofs.Ytfjeoefnpcgnnaa.Sh
open Go.RowKit Tk De Dl Go.Proofs.Ytfjeoefnpcgnnaa.Lo Go.Proofs.Ytfjeoefnpcgnnaa.Ed Go.Proofs.Ytfjeoefnpcgnnaa.Su
set_option linter.unusedVariables false

/-- they share 1 at most; more than 1, by a common multiple -/
def Fits (n : Nat) (P B : Nat → Nat) : Prop := ∃ M, 0 < M ∧ (∀ i, i < n → P i ∣ M) ∧ sm (fun i => B i * (M / P i)) n ≤ M
def Over (n : Nat) (P B : Nat → Nat) (M : Nat) : Prop := (∀ i, i < n → P i ∣ M) ∧ M < sm (fun i => B i * (M / P i)) n
def KeptP (n : Nat) (P B b : Nat → Nat) (E : Nat) (w : World) (e : Ending) (w' : World) : Prop := ∃ r : Bool, e = .returned (.bool r) ∧ Below w.heap.size w w' ∧ (Fits n P B → r = true) ∧ ((∀ i, i < n → b i = 0) → ∀ M, M < E → Over n P B M → r = false)
theorem cell_other (w : World) {g o g' o' : Nat} (v : Value) (h : g ≠ g') : (w.setCell ⟨g', o', none⟩ v).cell? ⟨g, o, none⟩ = w.cell? ⟨g, o, none⟩ := by
  unfold World.cell?
  rw [Below.heap_setCell _ _ _ _ h]
theorem wr3 {x : Int} {c : Nat} (h : x = (c : Int)) (hc : c ≤ 1099511627776) : wrap64 x = (c : Int) ∧ IntKind.i64.wrap x = (c : Int) := by
  subst h
  exact ⟨(wr2 (by omega) (by omega)).2, (wr2 (by omega) (by omega)).1⟩
theorem fits_late {n : Nat} {P B b : Nat → Nat} {t i : Nat} {l e : Nat → Nat} (hP : ∀ i, i < n → 1 ≤ P i ∧ P i ≤ 64 ∧ 1 ≤ B i ∧ B i ≤ P i) (h : KM n P B b t i l e) (hi : i < n) (hb : b i ≤ t) (hm : (t - b i) % P i = 0) (hl : 0 < l i) (hf : Fits n P B) : False := by
  obtain ⟨M, hM, hd, hs⟩ := hf
  exact km_late hP hM hd hs h hi hb hm hl
end Go.Proofs.Ytfjeoefnpcgnnaa.Sh

namespace Go.Proofs.Ytfjeoefnpcgnnaa.Sh
open Go.RowKit Tk De Dl Go.Proofs.Ytfjeoefnpcgnnaa.Lo
set_option linter.unusedVariables false

theorem bring_eq (a : Int) {n : Int} (h : 0 < n) : (if a.tmod n < 0 then a.tmod n + n else a.tmod n) = a % n := by
  by_cases ha : 0 ≤ a
  · rw [Int.tmod_eq_emod_of_nonneg ha, if_neg (by have := Int.emod_nonneg a (show n ≠ 0 by omega); omega)]
  · rw [tmod_neg a n (by omega) (by omega), emod_neg a n (by omega)]
    have h1 := Int.emod_nonneg (-a) (show n ≠ 0 by omega)
    have h2 := Int.emod_lt_of_pos (-a) h
    by_cases h0 : (-a) % n = 0
    · rw [h0]; simp
    · rw [if_pos (by omega), if_neg h0]; omega
set_option maxHeartbeats 400000 in
theorem brings_any (a n : Int) (w : World) (h : 1 ≤ n) (hn : n ≤ 9007199254740992) : Calls Try.prog 15 #[.int .i64 a, .int .i64 n] w (IsN (a % n) w) := by
  rw [← bring_eq a (show 0 < n by omega)]
  have h1 := Int.lt_tmod_of_pos a (by omega : 0 < n)
  have h2 := Int.tmod_lt_of_pos a (by omega : 0 < n)
  have hz : (n == 0) = false := by simp; omega
  have hw64 : wrap64 (a.tmod n) = a.tmod n := by unfold wrap64; omega
  by_cases hr : a.tmod n < 0
  · rw [if_pos hr]
    have hd : decide (a.tmod n < 0) = true := by simpa using hr
    have hw2 : wrap64 (a.tmod n + n) = a.tmod n + n := by unfold wrap64; omega
    go_enter Try.func15, Try.ntmps15
    go_wp2
    go_ret
    exact ⟨rfl, rfl⟩
  · rw [if_neg hr]
    have hd : decide (a.tmod n < 0) = false := by simpa using hr
    go_enter Try.func15, Try.ntmps15
    go_wp2
    go_ret
    exact ⟨rfl, rfl⟩
/-- a number, brought to be a natural below n -/
def bn (a : Int) (n : Nat) : Nat := (a % (n : Int)).toNat
theorem bn_lt (a : Int) {n : Nat} (h : 0 < n) : bn a n < n := by
  unfold bn
  have h1 := Int.emod_nonneg a (show (n : Int) ≠ 0 by omega)
  have h2 := Int.emod_lt_of_pos a (show (0 : Int) < n by omega)
  omega
theorem bring_bn (a : Int) (n : Nat) (w : World) (h : 0 < n) (hn : n ≤ 1000000) : Calls Try.prog 15 #[.int .i64 a, .int .i64 n] w (IsN (bn a n : Nat) w) := by
  have e : ((bn a n : Nat) : Int) = a % (n : Int) := by
    unfold bn
    have h1 := Int.emod_nonneg a (show (n : Int) ≠ 0 by omega)
    omega
  rw [e]
  exact brings_any a n w (by omega) (by omega)
theorem bring_q (a : Int) (n : Nat) (w : World) (h : 0 < n) (hn : n ≤ 1000000) : Calls Try.prog 15 #[.int .i64 a, .int .i64 n] w (fun e w' => e = .returned (.int .i64 (bn a n : Nat)) ∧ w' = w) := (bring_bn a n w h hn).mono fun _ _ h => ⟨h.1, h.2.symm⟩
/-- what is made of the numbers that came in -/
def mP (p : Nat → Int) (i : Nat) : Nat := 1 + bn (p i) 24
def mB (p b : Nat → Int) (i : Nat) : Nat := 1 + bn (b i) (mP p i)
theorem m_bd (p b : Nat → Int) (i : Nat) : 1 ≤ mP p i ∧ mP p i ≤ 24 ∧ 1 ≤ mB p b i ∧ mB p b i ≤ mP p i := by
  have h1 := bn_lt (p i) (n := 24) (by decide)
  have e1 : mP p i = 1 + bn (p i) 24 := rfl
  have h2 := bn_lt (b i) (n := mP p i) (by omega)
  have e2 : mB p b i = 1 + bn (b i) (mP p i) := rfl
  omega
/-- servers of the call's own -/
def sflat (P B : Nat → Int) : Nat → List Value
  | 0 => []
  | k + 1 => sflat P B k ++ [.int .i64 (P k), .int .i64 (B k), .slice none 0 0]
theorem sflat_len (P B : Nat → Int) : ∀ k, (sflat P B k).length = k * 3
  | 0 => rfl
  | k + 1 => by rw [sflat, List.length_append, sflat_len]; simp; omega
theorem sflat_at (P B : Nat → Int) : ∀ {n i : Nat}, i < n → (sflat P B n)[i * 3]? = some (.int .i64 (P i)) ∧ (sflat P B n)[i * 3 + 1]? = some (.int .i64 (B i)) ∧ (sflat P B n)[i * 3 + 2]? = some (.slice none 0 0)
  | 0, _, h => by cases h
  | n + 1, i, h => by
    have hl := sflat_len P B n
    rw [sflat]
    by_cases hc : i < n
    · rw [List.getElem?_append_left (by omega), List.getElem?_append_left (by omega), List.getElem?_append_left (by omega)]
      exact sflat_at P B hc
    · obtain rfl : i = n := by omega
      rw [List.getElem?_append_right (by omega), List.getElem?_append_right (by omega), List.getElem?_append_right (by omega), hl, Nat.sub_self, Nat.add_sub_cancel_left, Nat.add_sub_cancel_left]
      exact ⟨rfl, rfl, rfl⟩
def SW (w : World) (C : Nat) (v : Value) (n : Nat) (P B : Nat → Int) : Prop := w.ownsRow C 53 3 v n (sflat P B n)
theorem SW.sv {w : World} {C n : Nat} {v : Value} {P B : Nat → Int} (h : SW w C v n P B) : SV w v n P B := by
  have hc := h
  rcases h.2 with ⟨rfl, h0⟩ | ⟨g, cap, cur, rfl, hg, hh, hnc, hcm, _⟩
  · subst h0
    exact SV.nil _ _ _
  · refine ⟨some ⟨g, 0, none⟩, cap, rfl, hnc, hcm, (fun h => by cases h), fun _ => ⟨g, 0, rfl, fun i hi => ?_⟩⟩
    obtain ⟨a0, a1, a2⟩ := sflat_at P B hi
    have k0 := World.ownsRow.cells hc (g := g) rfl _ _ a0
    have k1 := World.ownsRow.cells hc (g := g) rfl _ _ a1
    have k2 := World.ownsRow.cells hc (g := g) rfl _ _ a2
    rw [Addr.add_lit] at k0 k1 k2
    exact ⟨k0, k1, none, 0, 0, k2⟩
theorem SW.drew {w : World} {C n : Nat} {v : Value} {P B : Nat → Int} (h : SW w C v n P B) : SW w.drew C v n P B := h
theorem infoPt : (Try.prog.info? 53).map (fun i => (i.zero, i.size, i.bytes)) = some (some (.agg #[.int .i64 0, .int .i64 0, .slice none 0 0]), 3, 40) := by kernel_rfl
theorem sv_one (per bud : Int) : ∀ u ∈ [Value.int .i64 per, .int .i64 bud, .slice none 0 0], u.oneCell' = true := by
  intro u hu
  simp only [List.mem_cons, List.not_mem_nil, or_false] at hu
  rcases hu with rfl | rfl | rfl <;> rfl
def MadeP (w : World) (n : Nat) (p b : Nat → Int) (e : Ending) (w' : World) : Prop := ∃ r, e = .returned r ∧ SW w' w.heap.size r (min n 4) (fun i => (mP p i : Nat)) (fun i => (mB p b i : Nat)) ∧ Below w.heap.size w w'
end Go.Proofs.Ytfjeoefnpcgnnaa.Sh

namespace Go.Proofs.Ytfjeoefnpcgnnaa.Sh
open Go.RowKit Tk De Dl Go.Proofs.Ytfjeoefnpcgnnaa.Lo
set_option linter.unusedVariables false

/-- an append whose run is known, as one step of a region that draws -/
theorem step_append_eq {P : Program} {ops : Array Oper} {o : Oper} {a : Act} {w w' : World} {K : Act → World → Prop} {Q : Exit → Act → World → Prop} {E : Prop}
    (hg : o.guard = none) (s x : Operand) (t : TypeId) (hop : o.op = Op.call { callee := Callee.builtin Builtin.append, args := #[s, x], argTypes := #[t, t] })
    (sv xv v' : Value) (hs : a.eval s = sv) (hx : a.eval x = xv) (hrun : (Builtin.append_ #[t, t] o.type #[sv, xv]).run P w = .ok v' w') (hK : K (a.put o.dst v') w') :
    if Region.wanted o (yielded ops a.tmps) = true then Oper.wp P o a w K Q else E := by
  have hw : Region.wanted o (yielded ops a.tmps) = true := by simp [Region.wanted, hg]
  rw [if_pos hw]
  unfold Oper.wp
  simp [execOp, hop, resolve, invoke, builtin, hs, hx, hrun, Result.andThen]
  exact hK
/-- a server more in a row of the call's own -/
theorem app_server {w : World} {C n : Nat} {v : Value} {P B : Nat → Int} (hown : SW w C v n P B) {g : Nat} (hg : w.heap[g]? = some (.cells #[.int .i64 (P n), .int .i64 (B n), .slice none 0 0] 53 (0, 0))) (hB : C ≤ w.heap.size) (hn : n ≤ 1000) (ty : TypeId) :
    ∃ v' w', (Builtin.append_ #[22, 22] ty #[v, .slice (some ⟨g, 0, none⟩) 1 1]).run Try.prog w = .ok v' w' ∧ SW w' C v' (n + 1) P B ∧ Below C w w' := by
  obtain ⟨i0, hi, hz0, hz1, hz2⟩ := info_parts infoPt
  obtain ⟨v', w', hrun, hown', hgr, _⟩ := run_append_own (P := Try.prog) (w := w) C 22 ty 53 i0 _ 3 40 Try.underlying22 hi hz0 hz1 hz2 rfl (by decide) v n _ hown ⟨g, 0, none⟩ 1 1 [.int .i64 (P n), .int .i64 (B n), .slice none 0 0] rfl
    (fun j u hj => by rw [Addr.add_lit, Nat.zero_add, cell_of_row _ _ j _ _ _ hg, List.getElem?_toArray]; exact hj) (sv_one _ _) (by unfold maxLen; omega) (by omega) hB
  exact ⟨v', w', hrun, hown', (Below.refl C w).grown hgr hB (fun k e => (hown.lt k e).1)⟩
def tP (xs : List Int) (i : Nat) : Int := xs.getD (2 * i + 1) 0
def tB (xs : List Int) (i : Nat) : Int := xs.getD (2 * i) 0
def TurnP (w : World) (xs : List Int) (e : Ending) (w' : World) : Prop := ∃ r, e = .returned r ∧ SW w' w.heap.size r (xs.length / 2) (tP xs) (tB xs) ∧ Below w.heap.size w w'
end Go.Proofs.Ytfjeoefnpcgnnaa.Sh

namespace Go.Proofs.Ytfjeoefnpcgnnaa.Sh
open Go.RowKit Tk De Dl Go.Proofs.Ytfjeoefnpcgnnaa.Lo
set_option linter.unusedVariables false

theorem low_scale {g x y : Nat} (hg : 0 < g) : low (g * x) (g * y) = low x y := by
  unfold low
  rw [Nat.gcd_mul_left, Nat.mul_div_mul_left _ _ hg, Nat.mul_div_mul_left _ _ hg]
/-- the sum, not in lowest terms -/
def un (B P : Nat → Nat) : Nat → Nat × Nat
  | 0 => (0, 1)
  | n + 1 => ((un B P n).1 * P n + B n * (un B P n).2, (un B P n).2 * P n)
theorem un_pos {B P : Nat → Nat} : ∀ {n : Nat}, (∀ i, i < n → 0 < P i) → 0 < (un B P n).2
  | 0, _ => Nat.zero_lt_one
  | n + 1, h => Nat.mul_pos (un_pos fun i hi => h i (by omega)) (h n (by omega))
theorem sumF_un {B P : Nat → Nat} : ∀ {n : Nat}, (∀ i, i < n → 0 < P i) → sumF B P n = low (un B P n).1 (un B P n).2
  | 0, _ => by show ((0 : Nat), (1 : Nat)) = low 0 1; decide
  | n + 1, h => by
    have ih := sumF_un (B := B) (n := n) fun i hi => h i (by omega)
    have hp := un_pos (B := B) (n := n) fun i hi => h i (by omega)
    have hg := Nat.gcd_pos_of_pos_right (un B P n).1 hp
    have e1 : (un B P n).1 = Nat.gcd (un B P n).1 (un B P n).2 * (sumF B P n).1 := by rw [ih]; exact (Nat.mul_div_cancel' (Nat.gcd_dvd_left _ _)).symm
    have e2 : (un B P n).2 = Nat.gcd (un B P n).1 (un B P n).2 * (sumF B P n).2 := by rw [ih]; exact (Nat.mul_div_cancel' (Nat.gcd_dvd_right _ _)).symm
    show low _ _ = low ((un B P n).1 * P n + B n * (un B P n).2) ((un B P n).2 * P n)
    generalize Nat.gcd (un B P n).1 (un B P n).2 = g at *
    rw [e1, e2, ← low_scale hg]
    congr 1
    · rw [Nat.mul_add, Nat.mul_assoc, Nat.mul_left_comm (B n)]
    · rw [Nat.mul_assoc]
theorem un_bd {B P : Nat → Nat} : ∀ {n : Nat}, (∀ i, i < n → P i ≤ 64 ∧ B i ≤ 64) → (un B P n).1 ≤ n * 64 ^ n ∧ (un B P n).2 ≤ 64 ^ n
  | 0, _ => ⟨Nat.le_refl _, Nat.le_refl _⟩
  | n + 1, h => by
    obtain ⟨h1, h2⟩ := un_bd (B := B) (n := n) fun i hi => h i (by omega)
    obtain ⟨p1, p2⟩ := h n (by omega)
    have m1 := Nat.mul_le_mul h1 p1
    have m2 := Nat.mul_le_mul p2 h2
    have m3 := Nat.mul_le_mul h2 p1
    refine ⟨?_, ?_⟩
    · show (un B P n).1 * P n + B n * (un B P n).2 ≤ (n + 1) * 64 ^ (n + 1)
      rw [Nat.pow_succ, Nat.add_mul, ← Nat.mul_assoc]
      omega
    · show (un B P n).2 * P n ≤ 64 ^ (n + 1)
      rw [Nat.pow_succ]
      exact m3
theorem un_small {B P : Nat → Nat} {n : Nat} (hn : n ≤ 4) (h : ∀ i, i < n → P i ≤ 64 ∧ B i ≤ 64) : (un B P n).1 ≤ 67108864 ∧ (un B P n).2 ≤ 16777216 := by
  obtain ⟨h1, h2⟩ := un_bd h
  have h3 : 64 ^ n ≤ 64 ^ 4 := Nat.pow_le_pow_right (by decide) hn
  have h4 := Nat.mul_le_mul hn h3
  have e : 64 ^ 4 = 16777216 := by decide
  omega
/-- may they be asked -/
def okT (p b : Int) : Bool := decide (1 ≤ p ∧ p ≤ 64 ∧ 1 ≤ b ∧ b ≤ p)
def okS (p b : Nat → Int) : Nat → Bool
  | 0 => true
  | k + 1 => okS p b k && okT (p k) (b k)
theorem okS_iff {p b : Nat → Int} : ∀ {n : Nat}, okS p b n = true ↔ ∀ i, i < n → 1 ≤ p i ∧ p i ≤ 64 ∧ 1 ≤ b i ∧ b i ≤ p i
  | 0 => ⟨fun _ i hi => by omega, fun _ => rfl⟩
  | n + 1 => by
    rw [okS, Bool.and_eq_true, okS_iff (n := n), okT, decide_eq_true_eq]
    constructor
    · intro h i hi
      by_cases e : i = n
      · rw [e]; exact h.2
      · exact h.1 i (by omega)
    · exact fun h => ⟨fun i hi => h i (by omega), h n (by omega)⟩
theorem okS_no {p b : Nat → Int} {n k : Nat} (hk : k < n) (h : okT (p k) (b k) = false) : okS p b n = false := by
  cases hc : okS p b n with
  | false => rfl
  | true =>
    have := okS_iff.1 hc k hk
    unfold okT at h
    rw [decide_eq_true this] at h
    cases h
def nn (f : Nat → Int) (i : Nat) : Nat := (f i).toNat
def mayS (n : Nat) (p b : Nat → Int) : Bool := decide (n ≤ 4) && okS p b n
def suF (n : Nat) (p b : Nat → Int) : Nat × Nat := sumF (nn b) (nn p) n
def suA (n : Nat) (p b : Nat → Int) : Int := if mayS n p b then ((suF n p b).1 : Nat) else 0
def suB (n : Nat) (p b : Nat → Int) : Int := if mayS n p b then ((suF n p b).2 : Nat) else 0
def suE (n : Nat) (p b : Nat → Int) : Int := if mayS n p b then 0 else 2
def teE (n : Nat) (p b : Nat → Int) : Int := if mayS n p b then (if (suF n p b).2 < (suF n p b).1 then 120 else 0) else 2
def ThreeB (a b c : Int) (w : World) (e : Ending) (w' : World) : Prop := e = .returned (.tuple #[.int .i64 a, .int .i64 b, .int .i64 c]) ∧ Below w.heap.size w w'
theorem su_no {n : Nat} {p b : Nat → Int} (h : mayS n p b = false) : suA n p b = 0 ∧ suB n p b = 0 ∧ suE n p b = 2 ∧ teE n p b = 2 := by
  unfold suA suB suE teE
  rw [h]
  exact ⟨rfl, rfl, rfl, rfl⟩
theorem su_yes {n : Nat} {p b : Nat → Int} (h : mayS n p b = true) : suA n p b = ((suF n p b).1 : Nat) ∧ suB n p b = ((suF n p b).2 : Nat) ∧ suE n p b = 0 ∧ teE n p b = if (suF n p b).2 < (suF n p b).1 then 120 else 0 := by
  unfold suA suB suE teE
  rw [h]
  exact ⟨rfl, rfl, rfl, rfl⟩
theorem nn_bd {n : Nat} {p b : Nat → Int} (h : okS p b n = true) : ∀ i, i < n → 0 < nn p i ∧ nn p i ≤ 64 ∧ nn b i ≤ 64 := fun i hi => by
  have := okS_iff.1 h i hi
  unfold nn
  omega
/-- the greatest common divisor of a sum -/
theorem gcd_step {x y : Nat} : Nat.gcd y (x % y) = Nat.gcd x y := by rw [Nat.gcd_comm y, ← Nat.gcd_rec, Nat.gcd_comm]
end Go.Proofs.Ytfjeoefnpcgnnaa.Sh

namespace Go.Proofs.Ytfjeoefnpcgnnaa.Sh
open Go.RowKit Tk De Dl Go.Proofs.Ytfjeoefnpcgnnaa.Lo
set_option linter.unusedVariables false

theorem step_sum {T D P G : Nat} (ht1 : T ≤ 67108864) (ht2 : D ≤ 16777216) (hP : P ≤ 64) (hG : G ≤ 64) : ∃ M1 M2 M3 M4 : Nat, T * P + G * D = M4 ∧ D * P = M3 ∧ (T : Int) * P = (M1 : Nat) ∧ (G : Int) * D = (M2 : Nat) ∧ (D : Int) * P = (M3 : Nat) ∧ ((M1 : Nat) : Int) + (M2 : Nat) = (M4 : Nat) ∧
    M1 ≤ 1099511627776 ∧ M2 ≤ 1099511627776 ∧ M3 ≤ 1099511627776 ∧ M4 ≤ 1099511627776 := by
  have b1 : T * P ≤ 67108864 * 64 := Nat.mul_le_mul ht1 hP
  have b2 : G * D ≤ 64 * 16777216 := Nat.mul_le_mul hG ht2
  have b3 : D * P ≤ 16777216 * 64 := Nat.mul_le_mul ht2 hP
  exact ⟨T * P, G * D, D * P, T * P + G * D, rfl, rfl, (Int.natCast_mul T P).symm, (Int.natCast_mul G D).symm, (Int.natCast_mul D P).symm, (Int.natCast_add _ _).symm, by omega, by omega, by omega, by omega⟩
end Go.Proofs.Ytfjeoefnpcgnnaa.Sh
