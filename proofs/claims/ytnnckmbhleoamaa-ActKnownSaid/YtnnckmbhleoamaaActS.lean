/- A row beside the acts that it was made of. -/
import Derived.Test.YtnnckmbhleoamaaActW
namespace Go.Proofs.Ytnnckmbhleoamaa
open Go.RowKit Ac
set_option linter.unusedVariables false

/-- a row, and acts that can be read, apart -/
structure TS (B : Nat) (W w : World) (rb g : Nat) (c : List Ak) (v : Value) (l : List Ak) : Prop where
  p : PO B W w rb g c
  a : AS w v l
  n : ∀ k, v.ownBlock = some k → k ≠ rb ∧ k ≠ g
section
variable {B : Nat} {W w : World} {rb g : Nat} {c : List Ak} {v : Value} {l : List Ak}
theorem TS.below {w' : World} (h : TS B W w rb g c v l) (q : Below w.heap.size w w') : TS B W w' rb g c v l := ⟨h.p.below q, h.a.below q, h.n⟩
theorem TS.sz (h : TS B W w rb g c v l) : B ≤ w.heap.size := Nat.le_trans h.p.sz h.p.bel.size
theorem AS.only {w' : World} (h : AS w v l) (o : Only (Two rb g) w w') (n : ∀ k, v.ownBlock = some k → k ≠ rb ∧ k ≠ g) : AS w' v l := by
  obtain ⟨a, cap, rfl, h2, h3, h4, h5⟩ := h
  refine ⟨a, cap, rfl, h2, h3, h4, fun hn => ?_⟩
  obtain ⟨b, off, rfl, hc⟩ := h5 hn
  obtain ⟨n1, n2⟩ := n b rfl
  have hlt : b < w.heap.size := by
    have hz : 0 < (acells l).length := by rw [acells_len]; omega
    exact lt_of_cell (hc 0 _ (List.getElem?_eq_getElem hz))
  exact ⟨b, off, rfl, fun j u hj => (World.cell?_of_block (a := ⟨b, off + j, none⟩) (o.block b hlt (by rintro (e | e); exact n1 e; exact n2 e))).trans (hc j u hj)⟩
/-- an answer; the row behind it -/
def SP (r : Value) (B : Nat) (W : World) (rb g : Nat) (c : List Ak) (v : Value) (l : List Ak) (e : Ending) (w' : World) : Prop := e = .returned r ∧ TS B W w' rb g c v l
/-- an answer; nothing has turned -/
def SB (r : Value) (B : Nat) (W : World) (rb g : Nat) (c : List Ak) (v : Value) (l : List Ak) (w : World) (e : Ending) (w' : World) : Prop := e = .returned r ∧ TS B W w' rb g c v l ∧ Below w.heap.size w w'
theorem ts_did (h : TS B W w rb g c v l) {x : Int} {c' : List Ak} (h1 : didE c = x) (h2 : didL c = c') : Calls Try.prog 13 #[.pointer (some ⟨rb, 0, none⟩)] w (SP (.int .i64 x) B W rb g c' v l) :=
  (po_did h.p h1 h2).mono fun e w' ⟨e1, e2, e3⟩ => ⟨e1, e2, h.a.only e3 h.n, h.n⟩
theorem ts_ran (h : TS B W w rb g c v l) {x : Int} {c' : List Ak} (h1 : ranE c = x) (h2 : ranL c = c') : Calls Try.prog 11 #[.pointer (some ⟨rb, 0, none⟩)] w (SP (.int .i64 x) B W rb g c' v l) :=
  (po_ran h.p h1 h2).mono fun e w' ⟨e1, e2, e3⟩ => ⟨e1, e2, h.a.only e3 h.n, h.n⟩
theorem ts_next (h : TS B W w rb g c v l) {k n : Int} {s : ByteArray} {b : Bool} (h1 : nxt c = ⟨k, n, s⟩) (h2 : isn c = b) : Calls Try.prog 15 #[.pointer (some ⟨rb, 0, none⟩)] w (SB (.tuple #[.agg #[.int .i64 k, .int .i64 n, .string s], .bool b]) B W rb g c v l w) :=
  (next_any h.p.r).mono fun e w' ⟨e1, e2⟩ => ⟨by rw [e1]; unfold nv av; rw [h1, h2], h.below e2, e2⟩
theorem ts_left (h : TS B W w rb g c v l) {x : Int} (h1 : left c = x) : Calls Try.prog 20 #[.pointer (some ⟨rb, 0, none⟩)] w (SB (.int .i64 x) B W rb g c v l w) := by
  subst h1
  exact (left_any h.p.r h.p.gd).mono fun e w' ⟨e1, e2⟩ => ⟨e1, h.below e2, e2⟩
end
theorem left_drop (l : List Ak) (k : Nat) (h : k < l.length) : l.drop k = l.getD k o0 :: l.drop (k + 1) := by
  rw [List.drop_eq_getElem_cons h, List.getD_eq_getElem?_getD, List.getElem?_eq_getElem h]
  rfl
/-- what is left of a run behind j ticks -/
def cur (n : Int) (s : ByteArray) (t : List Ak) (j : Int) : List Ak := if j = n then t else ⟨1, n - j, s⟩ :: t
theorem cur_end {n : Int} {s : ByteArray} {t : List Ak} : cur n s t n = t := if_pos rfl
theorem cur_go {n j : Int} {s : ByteArray} {t : List Ak} (h : j < n) : cur n s t j = ⟨1, n - j, s⟩ :: t := if_neg (by omega)
theorem ran_cur {n j : Int} {s : ByteArray} {t : List Ak} (h : j < n) : ranL (⟨1, n - j, s⟩ :: t) = cur n s t (j + 1) := by
  by_cases h1 : n - j = 1
  · rw [ranL_end h1]
    unfold cur
    rw [if_pos (by omega)]
  · rw [ranL_less h1, cur_go (by omega)]
    rw [show n - j - 1 = n - (j + 1) by omega]
theorem left_run (z : Int) (s : ByteArray) (t : List Ak) : left (⟨1, z, s⟩ :: t) = z + left t := by
  simp only [left, one]
  rfl
theorem left_other {k n : Int} {s : ByteArray} {t : List Ak} (h : k ≠ 1) : left (⟨k, n, s⟩ :: t) = left t := by
  simp only [left, one]
  rw [if_neg h]
  omega
theorem gd_drop {l : List Ak} (h : Gd l) (k : Nat) : Gd (l.drop k) := ⟨by rw [List.length_drop]; have := h.len; omega, fun x hx => h.all x (List.mem_of_mem_drop hx)⟩
theorem left_small {l : List Ak} (h : Gd l) : 0 ≤ left l ∧ left l ≤ 2048 := by
  have := left_bd h.all
  have := h.len
  omega
end Go.Proofs.Ytnnckmbhleoamaa
