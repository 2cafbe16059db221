/- Check, the program's. -/
import Derived.Test.YtlifkclgflfnlaaDelA
import Derived.OwnWalk
namespace Go.Proofs.Ytlifkclgflfnlaa
open Go.RowKit Tk De Dl
set_option linter.unusedVariables false

/-- a row that was made whole -/
theorem own_full {w : World} {B e size n g : Nat} {xs : Array Value} (h : w.ownsRow B e size (.slice (some ⟨g, 0, none⟩) n n) n xs.toList) : w.heap[g]? = some (.cells xs e (0, 0)) ∧ xs.size = n * size := by
  have hl : xs.size = n * size := by have := h.1; rwa [Array.length_toList] at this
  rcases h.2 with ⟨h0, _⟩ | ⟨g', cap, cur, hv, _, hg, h1, h2, h3, h4⟩
  · cases h0
  · obtain ⟨rfl, rfl⟩ : g = g' ∧ n = cap := by simpa using hv
    have : cur = xs := by
      apply Array.toList_inj.1
      rw [← h4, List.take_of_length_le (by rw [Array.length_toList, h3]; exact Nat.le_refl _)]
    rw [← this]
    exact ⟨hg, h3⟩
theorem infoIn : (Try.prog.info? 3).map (fun i => (i.zero, i.size, i.bytes)) = some (some (.int .i64 0), 1, 8) := by kernel_rfl
/-- so many nothings, that can be read -/
def noughts (n : Nat) : List Int := List.replicate n 0
theorem made_at {n i : Nat} (h : i < n) : (madeCells #[.int .i64 0] n)[i]? = some (.int .i64 0) := by
  unfold madeCells
  rw [Array.getElem?_map, Array.getElem?_eq_getElem (by simpa using h)]
  simp [Nat.mod_one]
theorem is_made {w : World} {g n : Nat} (h : w.heap[g]? = some (.cells (madeCells (Value.int .i64 0).cells (n * 1)) 3 (0, 0))) (hn : n ≤ maxLen) : IS w (.slice (some ⟨g, 0, none⟩) n n) (noughts n) := by
  have hl : (noughts n).length = n := by simp [noughts]
  refine ⟨_, _, by rw [hl], by rw [hl]; exact Nat.le_refl _, hn, (fun h => by cases h), fun hp => ⟨g, 0, rfl, fun i hi => ?_⟩⟩
  rw [hl] at hi
  rw [cell_of_row w g (0 + i) _ _ _ h, Nat.zero_add, Nat.mul_one]
  refine (made_at hi).trans ?_
  simp [noughts, List.getD, hi]
theorem noughts_ok (n : Nat) (z : Nat → Nat → Int) : chkE n z (noughts n) = if tasksOK n z then 0 else 2 := by
  have h : moreOK (noughts n) = true := by
    rw [moreOK, List.all_eq_true]
    intro x hx
    rw [List.eq_of_mem_replicate hx]
    rfl
  have hl : (noughts n).length = n := by simp [noughts]
  unfold chkE chk
  rw [h, hl, decide_eq_true rfl, Bool.and_true, Bool.and_true]
/-- the program's test on a task of tasks that may be asked -/
theorem okTs_next {bud : Int} {z : Nat → Nat → Int} {k : Nat} {R : Bool} (h : okTs bud z k = true) (hk : okT bud (z k) = R) : okTs bud z (k + 1) = R := by unfold okTs; rw [h, hk]; rfl
/-- a partition by value, and its box -/
abbrev pv (per bud : Int) (a : Option Addr) (n cap : Nat) : Value := .agg #[.int .i64 per, .int .i64 bud, .slice a n cap]
def pvo (per bud : Int) (a : Option Addr) (n cap : Nat) : Obj := .cells #[.int .i64 per, .int .i64 bud, .slice a n cap] 36
/-- the box of a partition, and all that was there, are kept -/
structure KB (w W : World) (per bud : Int) (a : Option Addr) (n cap : Nat) : Prop where
  c0 : W.cell? ⟨w.heap.size, 0, none⟩ = some (.int .i64 per)
  c1 : W.cell? ⟨w.heap.size, 1, none⟩ = some (.int .i64 bud)
  c2 : W.cell? ⟨w.heap.size, 2, none⟩ = some (.slice a n cap)
  b : Below w.heap.size w W
theorem KB.made (w : World) (per bud : Int) (a : Option Addr) (n cap : Nat) : KB w (w.alloc (pvo per bud a n cap)) per bud a n cap :=
  ⟨cell_of_row _ _ 0 _ _ _ (heap_alloc_new w _), cell_of_row _ _ 1 _ _ _ (heap_alloc_new w _), cell_of_row _ _ 2 _ _ _ (heap_alloc_new w _), (Below.refl _ w).alloc (Nat.le_refl _) _⟩
theorem KB.below {w W W' : World} {per bud : Int} {a : Option Addr} {n cap : Nat} (h : KB w W per bud a n cap) (q : Below W.heap.size W W') : KB w W' per bud a n cap :=
  ⟨(q.cell (World.block_lt_of_cell? _ _ h.c0)).trans h.c0, (q.cell (World.block_lt_of_cell? _ _ h.c1)).trans h.c1, (q.cell (World.block_lt_of_cell? _ _ h.c2)).trans h.c2, chn h.b q⟩
theorem KB.alloc {w W : World} {per bud : Int} {a : Option Addr} {n cap : Nat} (h : KB w W per bud a n cap) (o : Obj) : KB w (W.alloc o) per bud a n cap := h.below ((Below.refl _ _).alloc (Nat.le_refl _) o)
theorem nought_facts {w V : World} {per bud : Int} {a : Option Addr} {n cap : Nat} (hn : n ≤ maxLen)
    (hown : V.ownsRow (w.alloc (pvo per bud a n cap)).heap.size 3 1 (.slice (some ⟨(w.alloc (pvo per bud a n cap)).heap.size, 0, none⟩) n n) n (madeCells (Value.int .i64 0).cells (n * 1)).toList)
    (hgrow : (w.alloc (pvo per bud a n cap)).grownBy V none) :
    V.cell? ⟨w.heap.size, 2, none⟩ = some (.slice a n cap) ∧ Hid (KB w V per bud a n cap) ∧ Hid (IS V (.slice (some ⟨w.heap.size + 1, 0, none⟩) n n) (noughts n)) := by
  have hb := (Below.refl (w.alloc (pvo per bud a n cap)).heap.size (w.alloc (pvo per bud a n cap))).grown hgrow (Nat.le_refl _) (fun k hk => by cases hk)
  have hk := (KB.made w per bud a n cap).below hb
  have hi := is_made (own_full hown).1 hn
  rw [World.size_alloc] at hi
  exact ⟨hk.c2, hk, hi⟩
/-- of the first k of them each may be asked -/
def okK (l : List Pn) : Nat → Bool
  | 0 => true
  | k + 1 => okK l k && okP (l.getD k p0)
theorem okK_all {l : List Pn} : ∀ {k : Nat}, okK l k = true ↔ ∀ i, i < k → okP (l.getD i p0) = true
  | 0 => by simp [okK]
  | k + 1 => by
    rw [okK, Bool.and_eq_true, okK_all]
    exact ⟨fun h i hi => by
      by_cases e : i = k
      · subst e; exact h.2
      · exact h.1 i (by omega), fun h => ⟨fun i hi => h i (by omega), h k (by omega)⟩⟩
theorem okK_chk {l : List Pn} (h : okK l l.length = true) (hl : l.length ≤ 4) : chkP l = true := okP_all (okK_all.1 h) hl
theorem okP_three (p : Pn) : okP p = (inn 1 64 p.per && (inn 1 p.per p.bud && (tasksOK p.n p.z && okTs p.bud p.z p.n))) := by
  unfold okP inn
  simp only [Bool.and_assoc]
end Go.Proofs.Ytlifkclgflfnlaa
