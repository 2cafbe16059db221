/- Tasks that may be asked, made out of any. -/
import Derived.Test.YtkkmfpllgjoceaaGreatRooX
import Derived.Test.YtkkmfpllgjoceaaGreatRooG
import Derived.Sort.AtCall
import Derived.Deep.Cut
namespace Go.Proofs.YtkkmfpllgjoceaaGreat.Ro
open Go.RowKit Go.Sort Ac Jo
set_option linter.unusedVariables false
set_option maxRecDepth 100000

def yP (t : Nat → Int) : Int := 1 + bring (t 0) 64
def yD (t : Nat → Int) : Int := 1 + bring (t 1) (yP t)
def yB (t : Nat → Int) : Int := 1 + bring (t 2) (yD t)
def yL (t : Nat → Int) : Int := bring (t 3) 16
/-- the tasks that they are made -/
def ym (z : Nat → Nat → Int) (i j : Nat) : Int := match j with
  | 0 => yP (z i)
  | 1 => yD (z i)
  | 2 => yB (z i)
  | 3 => yL (z i)
  | 4 => if 0 < yL (z i) then yB (z i) else 0
  | _ => 0
theorem yP_bd (t : Nat → Int) : 1 ≤ yP t ∧ yP t ≤ 64 := by have := bring_bd (t 0) 64 (by decide); unfold yP; omega
theorem yD_bd (t : Nat → Int) : 1 ≤ yD t ∧ yD t ≤ yP t := by have := bring_bd (t 1) (yP t) (yP_bd t).1; unfold yD; omega
theorem yB_bd (t : Nat → Int) : 1 ≤ yB t ∧ yB t ≤ yD t := by have := bring_bd (t 2) (yD t) (yD_bd t).1; unfold yB; omega
theorem yL_bd (t : Nat → Int) : 0 ≤ yL t ∧ yL t < 16 := bring_bd (t 3) 16 (by decide)
theorem ym_tok (z : Nat → Nat → Int) (i : Nat) : Jo.tok (ym z i) = true := by
  have h1 := yP_bd (z i)
  have h2 := yD_bd (z i)
  have h3 := yB_bd (z i)
  rw [tok_six]
  show (decide (1 ≤ yP (z i)) && (decide (yP (z i) ≤ 64) && (decide (1 ≤ yD (z i)) && (decide (yD (z i) ≤ yP (z i)) && (decide (1 ≤ yB (z i)) && (decide (yB (z i) ≤ yD (z i)))))))) = true
  simp only [Bool.and_eq_true, decide_eq_true_eq]
  omega
theorem ym_z7 (z : Nat → Nat → Int) (i : Nat) : ym z i 7 ≤ 9223372036854775807 := (by decide : (0 : Int) ≤ 9223372036854775807)
/-- a task more, in a row of the call's own -/
theorem app_tk {w : World} {C k : Nat} {v : Value} {z : Nat → Nat → Int} (h : St.NT w C v k z) {g : Nat} (hg : w.heap[g]? = some (.cells #[.int .i64 (z k 0), .int .i64 (z k 1), .int .i64 (z k 2), .int .i64 (z k 3), .int .i64 (z k 4), .int .i64 (z k 5), .int .i64 (z k 6), .int .i64 (z k 7)] 55 (0, 0))) (hB : C ≤ w.heap.size) (hn : k ≤ 1000) (ty : TypeId) :
    ∃ v' w', (Builtin.append_ #[22, 22] ty #[v, .slice (some ⟨g, 0, none⟩) 1 1]).run Tryz.prog w = .ok v' w' ∧ St.NT w' C v' (k + 1) z ∧ Below C w w' := by
  obtain ⟨i0, hi, hz0, hz1, hz2⟩ := info_parts St.infoT13
  obtain ⟨v', w', hrun, hown', hgr, _⟩ := run_append_own (P := Tryz.prog) (w := w) C 22 ty 55 i0 _ 8 64 Tryz.underlying22 hi hz0 hz1 hz2 rfl (by decide) v k _ h ⟨g, 0, none⟩ 1 1 [.int .i64 (z k 0), .int .i64 (z k 1), .int .i64 (z k 2), .int .i64 (z k 3), .int .i64 (z k 4), .int .i64 (z k 5), .int .i64 (z k 6), .int .i64 (z k 7)] rfl
    (fun j u hj => by rw [Addr.add_lit, Nat.zero_add, cell_of_row _ _ j _ _ _ hg, List.getElem?_toArray]; exact hj) (by intro u hu; simp only [List.mem_cons, List.not_mem_nil, or_false] at hu; rcases hu with rfl | rfl | rfl | rfl | rfl | rfl | rfl | rfl <;> rfl) (by unfold maxLen; omega) (by omega) hB
  exact ⟨v', w', hrun, hown', (Below.refl C w).grown hgr hB (fun k e => (World.ownsRow.lt h k e).1)⟩
def YmP (n : Nat) (z : Nat → Nat → Int) (w : World) (e : Ending) (w' : World) : Prop := ∃ r, e = .returned r ∧ St.NT w' w.heap.size r (min n 4) (ym z) ∧ Below w.heap.size w w'
theorem keep_y {w : World} {b p q : Nat} {u v : Value} (h : w.cell? ⟨b, p, none⟩ = some u ∧ w.cell? ⟨b, q, none⟩ = some v) (o : Obj) : (w.alloc o).cell? ⟨b, p, none⟩ = some u ∧ (w.alloc o).cell? ⟨b, q, none⟩ = some v :=
  ⟨(World.cell?_alloc_lt w o _ (lt_of_cell h.1)).trans h.1, (World.cell?_alloc_lt w o _ (lt_of_cell h.2)).trans h.2⟩
set_option maxHeartbeats 8000000 in
theorem made_any {w : World} {v : Value} {n : Nat} {z : Nat → Nat → Int} (h : St.TK w v n z) : Calls Tryz.prog 14 #[v] w (YmP n z w) := by
  obtain ⟨a, cap, rfl, hn1, hn2⟩ := h.slice
  have HT := Lib.hid h
  have HO := Lib.hid (World.ownsRow_nil w w.heap.size 55 8)
  have hmx : n ≤ 9223372036854775807 := by unfold maxLen at hn2; omega
  clear h hn2
  go_enter Tryz.func14, Tryz.ntmps14
  go_wp2_with fail
  go_loopw [3, 4] (fun o i wr => ∃ (k : Nat) (ov : Value), k ≤ n ∧ k ≤ 4 ∧ i = .int .i64 k ∧ ov = o ∧ Hid (St.NT wr w.heap.size ov k (ym z)) ∧ Hid (Below w.heap.size w wr)) (fun _ i _ => 4 - (intOf i).toNat)
  case atStart => exact ⟨0, _, Nat.zero_le _, Nat.zero_le _, rfl, rfl, HO.out, Below.refl _ _⟩
  case round =>
    clear HO
    obtain ⟨k, o, hk, hk4, rfl, rfl, HN, HB⟩ := hrel
    by_cases hlt : k < n ∧ k < 4
    · obtain ⟨hlt, hl4⟩ := hlt
      have hd1 : decide ((k : Int) < (n : Int)) = true := by simp; omega
      have hd4 : decide ((k : Int) < 4) = true := by simp; omega
      obtain ⟨tb, off, rfl, ⟨t0, t1, t2, t3, _, _, _, _⟩⟩ := (HT.out.below HB.out).at hlt
      have b1 := yP_bd (z k)
      have b2 := yD_bd (z k)
      have b3 := yB_bd (z k)
      have b4 := yL_bd (z k)
      have B0 := Lib.hid (fun W => bring_any (z k 0) 64 W (by decide) (by decide))
      have B1 := Lib.hid (fun W => bring_any (z k 1) (yP (z k)) W (by omega) (by omega))
      have B2 := Lib.hid (fun W => bring_any (z k 2) (yD (z k)) W (by omega) (by omega))
      have B3 : Hid (∀ W, Calls Tryz.prog 10 #[.int .i64 (z k 3), .int .i64 16] W (IsI (yL (z k)) W)) := Lib.hid (fun W => bring_any (z k 3) 16 W (by decide) (by decide))
      obtain ⟨l, hl⟩ : ∃ l, l = (if 0 < yL (z k) then yB (z k) else 0) := ⟨_, rfl⟩
      have HST : Hid (∀ W, Below wr.heap.size wr W → ∃ v' w', (Builtin.append_ #[22, 22] 22 #[o, .slice (some ⟨W.heap.size, 0, none⟩) 1 1]).run Tryz.prog (W.alloc (.cells #[.int .i64 (yP (z k)), .int .i64 (yD (z k)), .int .i64 (yB (z k)), .int .i64 (yL (z k)), .int .i64 l, .int .i64 0, .int .i64 0, .int .i64 0] 55)) = .ok v' w' ∧ St.NT w' w.heap.size v' (k + 1) (ym z) ∧ Below w.heap.size w w') := fun W hW => by
        have hr : St.NT (W.alloc (.cells #[.int .i64 (yP (z k)), .int .i64 (yD (z k)), .int .i64 (yB (z k)), .int .i64 (yL (z k)), .int .i64 l, .int .i64 0, .int .i64 0, .int .i64 0] 55)) w.heap.size o k (ym z) := World.ownsRow.alloc (row_keep HN.out (fun j hj => hW.block j (World.ownsRow.lt HN.out j hj).2)) _
        have hg := heap_alloc_new W (.cells #[.int .i64 (yP (z k)), .int .i64 (yD (z k)), .int .i64 (yB (z k)), .int .i64 (yL (z k)), .int .i64 l, .int .i64 0, .int .i64 0, .int .i64 0] 55)
        have hs := hW.size
        have hs2 := HB.out.size
        rw [hl] at hg hr ⊢
        obtain ⟨v', w', hrun, hown, hb⟩ := app_tk hr (g := W.heap.size) hg (by rw [World.size_alloc]; omega) (by omega) 22
        exact ⟨v', w', hrun, hown, ((HB.out.trans (hW.mono hs2)).alloc (by omega) _).trans hb⟩
      have HPQ : Hid ((1 : Int) + bring (z k 0) 64 = yP (z k) ∧ (1 : Int) + bring (z k 1) (yP (z k)) = yD (z k) ∧ (1 : Int) + bring (z k 2) (yD (z k)) = yB (z k)) := ⟨rfl, rfl, rfl⟩
      obtain ⟨e1, e2, e3⟩ := HPQ.out
      have hl' : (0 < yL (z k) ∧ l = yB (z k)) ∨ (yL (z k) = 0 ∧ l = 0) := by
        by_cases q : 0 < yL (z k)
        · exact Or.inl ⟨q, by rw [hl, if_pos q]⟩
        · exact Or.inr ⟨by omega, by rw [hl, if_neg q]⟩
      generalize yP (z k) = P at *
      generalize yD (z k) = D at *
      generalize yB (z k) = Bd at *
      generalize yL (z k) = L at *
      generalize bring (z k 0) 64 = x0 at *
      generalize bring (z k 1) P = x1 at *
      generalize bring (z k 2) D = x2 at *
      generalize z k 0 = z0 at *
      generalize z k 1 = z1 at *
      generalize z k 2 = z2 at *
      generalize z k 3 = z3 at *
      have hw3 : IntKind.i64.wrap (1 + x2) = Bd := by rw [IntKind.wrap_i64]; omega
      have hw4 : wrap64 (1 + x2) = Bd := by unfold wrap64; omega
      have hwb : IntKind.i64.wrap Bd = Bd := by rw [IntKind.wrap_i64]; omega
      have hwb2 : wrap64 Bd = Bd := by unfold wrap64; omega
      have hw1 : wrap64 (1 + x0) = P := by unfold wrap64; omega
      have hw2 : wrap64 (1 + x1) = D := by unfold wrap64; omega
      clear hl HPQ
      have HS0 := Lib.hid (And.intro t2 t3)
      have HBW : Hid (Below wr.heap.size wr (wr.alloc (.cells #[.int .i64 P, .int .i64 D, .int .i64 Bd, .int .i64 L, .int .i64 0, .int .i64 0, .int .i64 0, .int .i64 0] 55))) := below_al wr _
      have hka : ((k : Int) < 4) := by omega
      have hki : (0 : Int) ≤ (k : Int) := by omega
      have hkn : (k : Int) < (n : Int) := by omega
      go_wp2_with fail
      refine (B0.out _).mono ?_
      rintro e w1 ⟨rfl, rfl⟩
      go_wp2_with fail
      refine (B1.out _).mono ?_
      rintro e w1 ⟨rfl, rfl⟩
      clear t0 t1 B0 B1
      go_wp2_with fail
      go_region_held3 (fun w' => w'.cell? ⟨tb, off + k * 8 + 2, none⟩ = some (.int .i64 z2) ∧ w'.cell? ⟨tb, off + k * 8 + 3, none⟩ = some (.int .i64 z3))
        (first | assumption | exact HS0.out | exact keep_y HS0.out _ | go_keep)
        (first | (go_at_call_has 10 z2; refine (B2.out _).mono ?_; rintro e w1 ⟨rfl, rfl⟩)
               | (go_at_call_has 10 z3; refine (B3.out _).mono ?_; rintro e w1 ⟨rfl, rfl⟩))
      all_goals
        clear hw1 hw2 hw3 hw4 hwb hwb2 HS0 B2 B3 e1 e2 e3
        have hT : ((wr.alloc (.cells #[.int .i64 P, .int .i64 D, .int .i64 Bd, .int .i64 L, .int .i64 0, .int .i64 0, .int .i64 0, .int .i64 0] 55)).drew).heap[wr.heap.size]? = some (.cells #[.int .i64 P, .int .i64 D, .int .i64 Bd, .int .i64 L, .int .i64 0, .int .i64 0, .int .i64 0, .int .i64 0] 55 (0, 0)) := heap_alloc_new wr _
        have hB0 : Below wr.heap.size wr ((wr.alloc (.cells #[.int .i64 P, .int .i64 D, .int .i64 Bd, .int .i64 L, .int .i64 0, .int .i64 0, .int .i64 0, .int .i64 0] 55)).drew) := below_drew (below_al wr _)
        generalize (wr.alloc (.cells #[.int .i64 P, .int .i64 D, .int .i64 Bd, .int .i64 L, .int .i64 0, .int .i64 0, .int .i64 0, .int .i64 0] 55)).drew = W0 at *
        rcases hl' with ⟨hL, rfl⟩ | ⟨rfl, rfl⟩
        · have hd5 : decide (0 < L) = true := by simpa using hL
          have f4 : W0.frozen? ⟨wr.heap.size, 0 + 4, none⟩ = false := frozen_of_row _ _ 4 _ _ hT
          have v0 : W0.cell? ⟨wr.heap.size, 0, none⟩ = some (.int .i64 P) := cell_of_row _ _ 0 _ _ _ hT
          have v1 : W0.cell? ⟨wr.heap.size, 0 + 1, none⟩ = some (.int .i64 D) := cell_of_row _ _ 1 _ _ _ hT
          have v2 : W0.cell? ⟨wr.heap.size, 0 + 2, none⟩ = some (.int .i64 l) := cell_of_row _ _ 2 _ _ _ hT
          have v3 : W0.cell? ⟨wr.heap.size, 0 + 3, none⟩ = some (.int .i64 L) := cell_of_row _ _ 3 _ _ _ hT
          have v4 : W0.cell? ⟨wr.heap.size, 0 + 4, none⟩ = some (.int .i64 0) := cell_of_row _ _ 4 _ _ _ hT
          have v5 : W0.cell? ⟨wr.heap.size, 0 + 5, none⟩ = some (.int .i64 0) := cell_of_row _ _ 5 _ _ _ hT
          have v6 : W0.cell? ⟨wr.heap.size, 0 + 6, none⟩ = some (.int .i64 0) := cell_of_row _ _ 6 _ _ _ hT
          have v7 : W0.cell? ⟨wr.heap.size, 0 + 7, none⟩ = some (.int .i64 0) := cell_of_row _ _ 7 _ _ _ hT
          have hT1 : (W0.setCell ⟨wr.heap.size, 4, none⟩ (.int .i64 l)).heap[wr.heap.size]? = some (.cells #[.int .i64 P, .int .i64 D, .int .i64 l, .int .i64 L, .int .i64 l, .int .i64 0, .int .i64 0, .int .i64 0] 55 (0, 0)) := heap_setCell_same W0 wr.heap.size 4 _ _ (.int .i64 l) hT
          have hB1 : Below wr.heap.size wr (W0.setCell ⟨wr.heap.size, 4, none⟩ (.int .i64 l)) := hB0.setCell (p := ⟨wr.heap.size, 4, none⟩) (Nat.le_refl _) _
          have q0 : (W0.setCell ⟨wr.heap.size, 4, none⟩ (.int .i64 l)).cell? ⟨wr.heap.size, 0, none⟩ = some (.int .i64 P) := cell_of_row _ _ 0 _ _ _ hT1
          have q1 : (W0.setCell ⟨wr.heap.size, 4, none⟩ (.int .i64 l)).cell? ⟨wr.heap.size, 0 + 1, none⟩ = some (.int .i64 D) := cell_of_row _ _ 1 _ _ _ hT1
          have q2 : (W0.setCell ⟨wr.heap.size, 4, none⟩ (.int .i64 l)).cell? ⟨wr.heap.size, 0 + 2, none⟩ = some (.int .i64 l) := cell_of_row _ _ 2 _ _ _ hT1
          have q3 : (W0.setCell ⟨wr.heap.size, 4, none⟩ (.int .i64 l)).cell? ⟨wr.heap.size, 0 + 3, none⟩ = some (.int .i64 L) := cell_of_row _ _ 3 _ _ _ hT1
          have q4 : (W0.setCell ⟨wr.heap.size, 4, none⟩ (.int .i64 l)).cell? ⟨wr.heap.size, 0 + 4, none⟩ = some (.int .i64 l) := cell_of_row _ _ 4 _ _ _ hT1
          have q5 : (W0.setCell ⟨wr.heap.size, 4, none⟩ (.int .i64 l)).cell? ⟨wr.heap.size, 0 + 5, none⟩ = some (.int .i64 0) := cell_of_row _ _ 5 _ _ _ hT1
          have q6 : (W0.setCell ⟨wr.heap.size, 4, none⟩ (.int .i64 l)).cell? ⟨wr.heap.size, 0 + 6, none⟩ = some (.int .i64 0) := cell_of_row _ _ 6 _ _ _ hT1
          have q7 : (W0.setCell ⟨wr.heap.size, 4, none⟩ (.int .i64 l)).cell? ⟨wr.heap.size, 0 + 7, none⟩ = some (.int .i64 0) := cell_of_row _ _ 7 _ _ _ hT1
          obtain ⟨v', w3, hrun, hnt, hbb⟩ := HST.out _ hB1
          have HRUN := Lib.hid hrun
          have HNT := Lib.hid hnt
          have HBB := Lib.hid hbb
          clear hrun hnt hbb hT hB0 hT1 hB1 HST HN HB HT hL
          generalize wr.heap.size = g at *
          go_upto_region 10 with (fail)
          clear v0 v1 v2 v3 v4 v5 v6 v7 f4
          generalize W0.setCell ⟨g, 4, none⟩ (.int .i64 l) = W1 at *
          go_wp2_with (at_builtin; refine St.wpList_append_eq rfl _ _ 22 22 rfl _ _ _ _ rfl rfl HRUN.out ?_)
          go_roundw
          case rel => exact ⟨k + 1, _, by omega, by omega, by go_num, rfl, HNT.out, HBB.out⟩
          case measure => simp [intOf]; omega
        · have hd5 : decide ((0 : Int) < 0) = false := rfl
          have v0 : W0.cell? ⟨wr.heap.size, 0, none⟩ = some (.int .i64 P) := cell_of_row _ _ 0 _ _ _ hT
          have v1 : W0.cell? ⟨wr.heap.size, 0 + 1, none⟩ = some (.int .i64 D) := cell_of_row _ _ 1 _ _ _ hT
          have v2 : W0.cell? ⟨wr.heap.size, 0 + 2, none⟩ = some (.int .i64 Bd) := cell_of_row _ _ 2 _ _ _ hT
          have v3 : W0.cell? ⟨wr.heap.size, 0 + 3, none⟩ = some (.int .i64 0) := cell_of_row _ _ 3 _ _ _ hT
          have v4 : W0.cell? ⟨wr.heap.size, 0 + 4, none⟩ = some (.int .i64 0) := cell_of_row _ _ 4 _ _ _ hT
          have v5 : W0.cell? ⟨wr.heap.size, 0 + 5, none⟩ = some (.int .i64 0) := cell_of_row _ _ 5 _ _ _ hT
          have v6 : W0.cell? ⟨wr.heap.size, 0 + 6, none⟩ = some (.int .i64 0) := cell_of_row _ _ 6 _ _ _ hT
          have v7 : W0.cell? ⟨wr.heap.size, 0 + 7, none⟩ = some (.int .i64 0) := cell_of_row _ _ 7 _ _ _ hT
          obtain ⟨v', w3, hrun, hnt, hbb⟩ := HST.out _ hB0
          have HRUN := Lib.hid hrun
          have HNT := Lib.hid hnt
          have HBB := Lib.hid hbb
          clear hrun hnt hbb hT hB0 HST HN HB HT
          generalize wr.heap.size = g at *
          go_wp2_with (at_builtin; refine St.wpList_append_eq rfl _ _ 22 22 rfl _ _ _ _ rfl rfl HRUN.out ?_)
          go_roundw
          case rel => exact ⟨k + 1, _, by omega, by omega, by go_num, rfl, HNT.out, HBB.out⟩
          case measure => simp [intOf]; omega
    · have hkm : k = min n 4 := by omega
      have HF : Hid (YmP n z w (.returned o) wr) := ⟨o, rfl, by rw [← hkm]; exact HN.out, HB.out⟩
      clear hkm HN HB HT
      rcases (show (k < n ∧ ¬ k < 4) ∨ ¬ k < n by omega) with ⟨q1, q2⟩ | q1
      · have hd1 : decide ((k : Int) < (n : Int)) = true := by simp; omega
        have hd4 : decide ((k : Int) < 4) = false := by simp; omega
        go_wp2_with fail
        go_ret
        exact HF.out
      · have hd1 : decide ((k : Int) < (n : Int)) = false := by simp; omega
        go_wp2_with fail
        go_ret
        exact HF.out
end Go.Proofs.YtkkmfpllgjoceaaGreat.Ro
