/- The program's Check. -/
import Derived.Test.YtoggnofdgmhbmaaActB
namespace Go.Proofs.Ytoggnofdgmhbmaa
open Go.RowKit Ac
set_option linter.unusedVariables false

theorem keep_al {w0 : World} {ob : Nat} {v : Value} (hz : w0.heap.size = ob + 1) (h : w0.cell? ⟨ob, 0, none⟩ = some v ∧ Below (ob + 1) w0 w0) (o : Obj) : (w0.alloc o).drew.cell? ⟨ob, 0, none⟩ = some v ∧ Below (ob + 1) w0 (w0.alloc o).drew :=
  ⟨(World.cell?_alloc_lt w0 o ⟨ob, 0, none⟩ (show ob < w0.heap.size by omega)).trans h.1, below_drew (h.2.alloc (by omega) o)⟩
theorem keep_cl {w0 W w1 : World} {ob : Nat} {v : Value} (hz : w0.heap.size = ob + 1) (h : W.cell? ⟨ob, 0, none⟩ = some v ∧ Below (ob + 1) w0 W) (hb : Below W.heap.size W w1) : w1.cell? ⟨ob, 0, none⟩ = some v ∧ Below (ob + 1) w0 w1 :=
  ⟨(hb.cell (p := ⟨ob, 0, none⟩) (show ob < W.heap.size by have := h.2.size; omega)).trans h.1, h.2.trans (hb.mono (by have := h.2.size; omega))⟩
theorem var_cl {W w1 : World} {cs : Array Value} {T : TypeId} (hb : Below (W.alloc (.cells cs T)).heap.size (W.alloc (.cells cs T)) w1) : w1.heap[W.heap.size]? = some (.cells cs T (0, 0)) := (hb.block _ (by simp)).trans (heap_alloc_new W _)
theorem var_facts {w0 w1 : World} {x y z : Value} {T : TypeId} (hb : Below (w0.alloc (.cells #[x, y, z] T)).drew.heap.size (w0.alloc (.cells #[x, y, z] T)).drew w1) :
    (w1.cell? ⟨w0.heap.size, 0, none⟩ = some x ∧ w1.cell? ⟨w0.heap.size, 0 + 1, none⟩ = some y ∧ w1.cell? ⟨w0.heap.size, 0 + 2, none⟩ = some z) ∧ w1.frozen? ⟨w0.heap.size, 0, none⟩ = false ∧ w1.frozen? ⟨w0.heap.size, 0 + 1, none⟩ = false ∧ w1.frozen? ⟨w0.heap.size, 0 + 2, none⟩ = false := by
  have hb' : Below (w0.alloc (.cells #[x, y, z] T)).heap.size (w0.alloc (.cells #[x, y, z] T)) w1 := ⟨hb.os, hb.tape, hb.output, hb.size, hb.block⟩
  have h : w1.heap[w0.heap.size]? = some (.cells #[x, y, z] T (0, 0)) := var_cl hb'
  exact ⟨⟨cell_of_row _ _ 0 _ _ _ h, cell_of_row _ _ 1 _ _ _ h, cell_of_row _ _ 2 _ _ _ h⟩, frozen_of_row _ _ 0 _ _ h, frozen_of_row _ _ 1 _ _ h, frozen_of_row _ _ 2 _ _ h⟩
theorem keep_al2 {w0 w1 : World} {ob : Nat} {v : Value} (hz : w0.heap.size = ob + 1) (h : w1.cell? ⟨ob, 0, none⟩ = some v ∧ Below (ob + 1) w0 w1) (o : Obj) : (w1.alloc o).cell? ⟨ob, 0, none⟩ = some v ∧ Below (ob + 1) w0 (w1.alloc o) :=
  ⟨(World.cell?_alloc_lt w1 o ⟨ob, 0, none⟩ (show ob < w1.heap.size by have := h.2.size; omega)).trans h.1, h.2.alloc (by have := h.2.size; omega) o⟩
theorem keep_st {w0 w1 : World} {ob : Nat} {v a b c : Value} (hz : w0.heap.size = ob + 1) (h : w1.cell? ⟨ob, 0, none⟩ = some v ∧ Below (ob + 1) w0 w1) :
    (((w1.setCell ⟨w0.heap.size, 0, none⟩ a).setCell ⟨w0.heap.size, 1, none⟩ b).setCell ⟨w0.heap.size, 2, none⟩ c).cell? ⟨ob, 0, none⟩ = some v ∧ Below (ob + 1) w0 (((w1.setCell ⟨w0.heap.size, 0, none⟩ a).setCell ⟨w0.heap.size, 1, none⟩ b).setCell ⟨w0.heap.size, 2, none⟩ c) := by
  have hb := (((Below.refl (ob + 1) w1).setCell (p := ⟨w0.heap.size, 0, none⟩) (show ob + 1 ≤ w0.heap.size by omega) a).setCell (p := ⟨w0.heap.size, 1, none⟩) (show ob + 1 ≤ w0.heap.size by omega) b).setCell (p := ⟨w0.heap.size, 2, none⟩) (show ob + 1 ≤ w0.heap.size by omega) c
  exact ⟨(hb.cell (p := ⟨ob, 0, none⟩) (show ob < ob + 1 by omega)).trans h.1, h.2.trans hb⟩
/-- behind the table's asking: the act, what was told of its kind -/
structure Fin (ob vb : Nat) (n p q r : Int) (s : ByteArray) (w W : World) : Prop where
  c1 : W.cell? ⟨ob, 0 + 1, none⟩ = some (.int .i64 n)
  c2 : W.cell? ⟨ob, 0 + 2, none⟩ = some (.string s)
  v0 : W.cell? ⟨vb, 0, none⟩ = some (.int .i64 p)
  v1 : W.cell? ⟨vb, 0 + 1, none⟩ = some (.int .i64 q)
  v2 : W.cell? ⟨vb, 0 + 2, none⟩ = some (.int .i64 r)
  bl : Below ob w W
theorem fin_a {w w0 w1 : World} {ob : Nat} {k n : Int} {s : ByteArray} {T U : TypeId} (h : Below ob w w0) (hob : w0.heap[ob]? = some (.cells #[.int .i64 k, .int .i64 n, .string s] T (0, 0))) (hz : w0.heap.size = ob + 1) (hb : Below (ob + 1) w0 w1) (p q r : Int) :
    Fin ob w1.heap.size n p q r s w (w1.alloc (.cells #[.int .i64 p, .int .i64 q, .int .i64 r] U)) := by
  have hs := hb.size
  have h1 : (w1.alloc (.cells #[.int .i64 p, .int .i64 q, .int .i64 r] U)).heap[ob]? = some (.cells #[.int .i64 k, .int .i64 n, .string s] T (0, 0)) := (Below.heap_alloc w1 _ ob (by omega)).trans ((hb.block ob (by omega)).trans hob)
  have h2 := heap_alloc_new w1 (.cells #[.int .i64 p, .int .i64 q, .int .i64 r] U)
  exact ⟨cell_of_row _ _ 1 _ _ _ h1, cell_of_row _ _ 2 _ _ _ h1, cell_of_row _ _ 0 _ _ _ h2, cell_of_row _ _ 1 _ _ _ h2, cell_of_row _ _ 2 _ _ _ h2, (h.trans (hb.mono (by omega))).alloc (by omega) _⟩
theorem fin_b {w w0 w1 : World} {ob : Nat} {k n : Int} {s : ByteArray} {T U : TypeId} {x y z : Value} (h : Below ob w w0) (hob : w0.heap[ob]? = some (.cells #[.int .i64 k, .int .i64 n, .string s] T (0, 0))) (hz : w0.heap.size = ob + 1) (hb : Below (ob + 1) w0 w1)
    (hb1 : Below (w0.alloc (.cells #[x, y, z] U)).drew.heap.size (w0.alloc (.cells #[x, y, z] U)).drew w1) (p q r : Int) :
    Fin ob w0.heap.size n p q r s w (((w1.setCell ⟨w0.heap.size, 0, none⟩ (.int .i64 p)).setCell ⟨w0.heap.size, 1, none⟩ (.int .i64 q)).setCell ⟨w0.heap.size, 2, none⟩ (.int .i64 r)) := by
  have hs := hb.size
  have hb' : Below (w0.alloc (.cells #[x, y, z] U)).heap.size (w0.alloc (.cells #[x, y, z] U)) w1 := ⟨hb1.os, hb1.tape, hb1.output, hb1.size, hb1.block⟩
  have hv : w1.heap[w0.heap.size]? = some (.cells #[x, y, z] U (0, 0)) := var_cl hb'
  have h2 := heap_setCell_same _ _ 2 _ _ (.int .i64 r) (heap_setCell_same _ _ 1 _ _ (.int .i64 q) (heap_setCell_same _ _ 0 _ _ (.int .i64 p) hv))
  have hne : ob ≠ w0.heap.size := by omega
  have hbb := (((Below.refl (ob + 1) w1).setCell (p := ⟨w0.heap.size, 0, none⟩) (show ob + 1 ≤ w0.heap.size by omega) (.int .i64 p)).setCell (p := ⟨w0.heap.size, 1, none⟩) (show ob + 1 ≤ w0.heap.size by omega) (.int .i64 q)).setCell (p := ⟨w0.heap.size, 2, none⟩) (show ob + 1 ≤ w0.heap.size by omega) (.int .i64 r)
  have h1 := (hbb.block ob (by omega)).trans ((hb.block ob (by omega)).trans hob)
  exact ⟨cell_of_row _ _ 1 _ _ _ h1, cell_of_row _ _ 2 _ _ _ h1, cell_of_row _ _ 0 _ _ _ h2, cell_of_row _ _ 1 _ _ _ h2, cell_of_row _ _ 2 _ _ _ h2, (h.trans (hb.mono (by omega))).trans (hbb.mono (by omega))⟩
theorem look_al {w1 : World} {B : Nat} (h : w1.heap[B]? = some (.map (tab 8) 8)) (o : Obj) : (w1.alloc o).heap[B]? = some (.map (tab 8) 8) := (Below.heap_alloc w1 o B (lt_of_block h)).trans h
set_option maxHeartbeats 4000000 in
theorem check_gen {x : Ak} (w : World) {p q r : Int} {ok : Bool}
    (hlk : ∀ (W : World) (b : Nat), W.heap[b]? = some (.map (tab 8) 8) → (Instr.lookup 83 (.map (some b)) (.int .i64 x.k) true).run Try.prog W = .ok (.tuple #[.agg #[.int .i64 p, .int .i64 q, .int .i64 r], .bool ok]) W) (e : Int)
    (hc : (ok = false ∧ e = 2) ∨ (ok = true ∧ x.n < p ∧ e = 2) ∨ (ok = true ∧ p ≤ x.n ∧ q < x.n ∧ e = 2) ∨ (ok = true ∧ p ≤ x.n ∧ x.n ≤ q ∧ r < (x.s.size : Int) ∧ e = 2) ∨ (ok = true ∧ p ≤ x.n ∧ x.n ≤ q ∧ (x.s.size : Int) ≤ r ∧ e = 0)) :
    Calls Try.prog 49 #[av x] w (VB (.int .i64 e) w) := by
  obtain ⟨k, n, s⟩ := x
  unfold av
  simp only at hlk hc ⊢
  have hA := (Below.refl _ w).alloc (Nat.le_refl _) (.cells #[.int .i64 k, .int .i64 n, .string s] 49)
  have hob := heap_alloc_new w (.cells #[.int .i64 k, .int .i64 n, .string s] 49)
  have HA := Lib.hid hA
  have HOB := Lib.hid hob
  have HLK := Lib.hid hlk
  have c0 : (w.alloc (.cells #[.int .i64 k, .int .i64 n, .string s] 49)).cell? ⟨w.heap.size, 0, none⟩ = some (.int .i64 k) := cell_of_row _ _ 0 _ _ _ hob
  have hsz : w.heap.size < (w.alloc (.cells #[.int .i64 k, .int .i64 n, .string s] 49)).heap.size := by simp
  clear hA hob hlk
  go_enter Try.func49, Try.ntmps49
  go_wp2_with fail
  have HS0 := Lib.hid (And.intro c0 (Below.refl (w.heap.size + 1) (w.alloc (.cells #[.int .i64 k, .int .i64 n, .string s] 49))))
  have hz0 : (w.alloc (.cells #[.int .i64 k, .int .i64 n, .string s] 49)).heap.size = w.heap.size + 1 := by simp
  have HZ := Lib.hid hz0
  clear hz0
  generalize w.alloc (.cells #[.int .i64 k, .int .i64 n, .string s] 49) = w0 at *
  generalize hoe : w.heap.size = ob at *
  have HOE := Lib.hid hoe
  clear hoe
  go_region_held3 (fun w' => w'.cell? ⟨ob, 0, none⟩ = some (.int .i64 k) ∧ Below (ob + 1) w0 w')
    (first | assumption | exact HS0.out | exact ⟨HS0.out.1, HS0.out.2.drew⟩ | exact keep_al HZ.out HS0.out _ | exact keep_al2 HZ.out hS1 _ | exact keep_st HZ.out hS1)
    (first
      | (go_at_call 59; (with_reducible refine (bounds_any (w0.alloc (.cells #[.int .i64 0, .int .i64 0, .int .i64 0] 81)).drew).mono ?_); rintro e1 w1 ⟨B, rfl, hB, hm1, hb1⟩; have hS1 := keep_cl HZ.out (by assumption) hb1; obtain ⟨⟨v0, v1, v2⟩, f0, f1, f2⟩ := var_facts hb1; have hl1 := HLK.out _ _ hm1; have hl2 := HLK.out _ _ (look_al hm1 (.cells #[.int .i64 0, .int .i64 0, .int .i64 0] 81)); clear hm1)
      | (go_at_call 59; (with_reducible refine (bounds_any w0.drew).mono ?_); rintro e1 w1 ⟨B, rfl, hB, hm1, hb1⟩; have hS1 := keep_cl HZ.out (by assumption) hb1; have hl1 := HLK.out _ _ hm1; have hl2 := HLK.out _ _ (look_al hm1 (.cells #[.int .i64 0, .int .i64 0, .int .i64 0] 81)); clear hm1))
  all_goals
    first
      | (obtain ⟨d1, d2, g0, g1, g2, hbl⟩ := fin_b HA.out HOB.out HZ.out hS1.2 hb1 p q r
         clear hl1 hl2 hb1 hS1 HS0 v0 v1 v2 f0 f1 f2
         generalize ((w1.setCell ⟨w0.heap.size, 0, none⟩ (.int .i64 p)).setCell ⟨w0.heap.size, 1, none⟩ (.int .i64 q)).setCell ⟨w0.heap.size, 2, none⟩ (.int .i64 r) = W at *
         generalize w0.heap.size = vb at *)
      | (obtain ⟨d1, d2, g0, g1, g2, hbl⟩ := fin_a (U := 81) HA.out HOB.out HZ.out hS1.2 p q r
         clear hl1 hl2 hb1 hS1 HS0
         generalize w1.alloc (.cells #[.int .i64 p, .int .i64 q, .int .i64 r] 81) = W at *
         generalize w1.heap.size = vb at *)
    have HBL := Lib.hid hbl
    clear hbl
    rcases hc with ⟨rfl, rfl⟩ | ⟨rfl, h1, rfl⟩ | ⟨rfl, h1, h2, rfl⟩ | ⟨rfl, h1, h2, h3, rfl⟩ | ⟨rfl, h1, h2, h3, rfl⟩
    · go_wp2_with fail
      go_ret
      exact ⟨rfl, by rw [HOE.out]; exact HBL.out⟩
    · have e1 : decide (n < p) = true := by simpa using h1
      go_wp2_with fail
      go_ret
      exact ⟨rfl, by rw [HOE.out]; exact HBL.out⟩
    · have e1 : decide (n < p) = false := by simp; omega
      have e2 : decide (q < n) = true := by simpa using h2
      go_wp2_with fail
      go_ret
      exact ⟨rfl, by rw [HOE.out]; exact HBL.out⟩
    · have e1 : decide (n < p) = false := by simp; omega
      have e2 : decide (q < n) = false := by simp; omega
      have e3 : decide (r < (s.size : Int)) = true := by simpa using h3
      go_wp2_with fail
      go_ret
      exact ⟨rfl, by rw [HOE.out]; exact HBL.out⟩
    · have e1 : decide (n < p) = false := by simp; omega
      have e2 : decide (q < n) = false := by simp; omega
      have e3 : decide (r < (s.size : Int)) = false := by simp; omega
      go_wp2_with fail
      go_ret
      exact ⟨rfl, by rw [HOE.out]; exact HBL.out⟩
theorem check_any (x : Ak) (w : World) : Calls Try.prog 49 #[av x] w (VB (.int .i64 (chk x)) w) := by
  cases hb : bnd x.k with
  | none => exact check_gen w (fun W b h => look_no h hb) _ (Or.inl ⟨rfl, chk_no (not_may_none hb)⟩)
  | some z =>
    obtain ⟨p, q, r⟩ := z
    refine check_gen w (fun W b h => look_yes h hb) _ (Or.inr ?_)
    by_cases h1 : x.n < p
    · exact Or.inl ⟨rfl, h1, chk_no (not_may hb (Or.inl h1))⟩
    by_cases h2 : q < x.n
    · exact Or.inr (Or.inl ⟨rfl, by omega, h2, chk_no (not_may hb (Or.inr (Or.inl h2)))⟩)
    by_cases h3 : r < (x.s.size : Int)
    · exact Or.inr (Or.inr (Or.inl ⟨rfl, by omega, by omega, h3, chk_no (not_may hb (Or.inr (Or.inr h3)))⟩))
    · exact Or.inr (Or.inr (Or.inr ⟨rfl, by omega, by omega, by omega, chk_yes (may_of hb (by omega) (by omega) (by omega))⟩))
end Go.Proofs.Ytoggnofdgmhbmaa
