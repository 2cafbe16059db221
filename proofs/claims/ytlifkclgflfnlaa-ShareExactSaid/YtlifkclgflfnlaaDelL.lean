/- More, the document's. -/
import Derived.Test.YtlifkclgflfnlaaDelF
namespace Go.Proofs.Ytlifkclgflfnlaa
open Go.RowKit Tk De Dl Go.Sort
set_option linter.unusedVariables false

theorem IS.row {w : World} {a : Option Addr} {n cap : Nat} {xs : List Int} (h : IS w (.slice a n cap) xs) : Row w a xs := by
  obtain ⟨a', cap', e, h1, h2, h3, h4⟩ := h
  obtain ⟨rfl, rfl, rfl⟩ : a = a' ∧ n = xs.length ∧ cap = cap' := by simpa using e
  by_cases h0 : 0 < xs.length
  · obtain ⟨b, off, rfl, hc⟩ := h4 h0
    exact Or.inr ⟨b, off, rfl, hc⟩
  · exact Or.inl (List.eq_nil_of_length_eq_zero (by omega))
theorem is_of_own {n : Nat} {zs : List Int} {w' : World} {base : Nat} {v : Value} (hn : n = zs.length) (h : w'.ownsRow base 3 1 v n (zs.map (Value.int .i64))) : IS w' v zs := by
  have hc := h
  subst hn
  rcases h.2 with ⟨rfl, h0⟩ | ⟨g, cap, cur, rfl, hg, hh, hnc, hcm, _⟩
  · obtain rfl : zs = [] := List.eq_nil_of_length_eq_zero h0
    exact IS.nil _
  · refine ⟨some ⟨g, 0, none⟩, cap, rfl, hnc, hcm, (fun h => by cases h), fun _ => ⟨g, 0, rfl, fun i hi => ?_⟩⟩
    have := hc.cells (g := g) rfl i (.int .i64 (zs.getD i 0)) (by simp [List.getElem?_eq_getElem hi, List.getD])
    rw [Addr.add_lit] at this; exact this
theorem lit_add {W : World} {s : Nat} (hs : W.heap.size = s) (l : List Value) (t : TypeId) : ∀ j u, l[j]? = some u → (W.alloc (.cells l.toArray t)).cell? ((⟨s, 0, none⟩ : Addr).add j) = some u := by
  intro j u hj
  subst hs
  rw [Addr.add_lit, cell_of_row _ _ _ _ _ _ (heap_alloc_new W _)]
  simpa using hj
theorem lit_one (W : World) (x : Value) (t : TypeId) : ∀ j u, ([x] : List Value)[j]? = some u → (W.alloc (.cells #[x] t)).cell? ((⟨W.heap.size, 0, none⟩ : Addr).add j) = some u := by
  intro j u hj
  rw [Addr.add_lit, cell_of_row _ _ _ _ _ _ (heap_alloc_new W _)]
  rw [← List.getElem?_toArray] at hj
  rw [Nat.zero_add]
  exact hj
theorem one_one (x : Int) : ∀ u ∈ ([.int .i64 x] : List Value), u.oneCell' = true := by
  intro u hu
  rw [List.mem_singleton.1 hu]
  rfl
theorem own_slice {w : World} {B k : Nat} {v : Value} {xs : List Value} (h : w.ownsRow B 3 1 v k xs) : ∃ a cap, v = .slice a k cap := by
  rcases h.2 with ⟨rfl, rfl⟩ | ⟨g, cap, cur, rfl, _⟩
  · exact ⟨_, _, rfl⟩
  · exact ⟨_, _, rfl⟩
theorem own_below {w w' : World} {B k : Nat} {v : Value} {xs : List Value} (h : w.ownsRow B 3 1 v k xs) (b : Below w.heap.size w w') : w'.ownsRow B 3 1 v k xs := by
  refine h.kept (grown_of_below b) ?_
  cases e : v.ownBlock with
  | none => exact Or.inl rfl
  | some b => exact Or.inr (by simp)
/-- what is more of the first k tasks -/
def msv (F : Nat → Int) (k : Nat) : List Value := (List.range k).map fun i => Value.int .i64 (F i)
theorem msv_snoc (F : Nat → Int) (k : Nat) : msv F (k + 1) = msv F k ++ [.int .i64 (F k)] := by simp [msv, List.range_succ]
end Go.Proofs.Ytlifkclgflfnlaa
