/- What plays: a room, tasks, a tick, an order, in one object; who is gone; who has something. -/
import Derived.Test.YtkkmfpllgjoceaaGreatRooQ
import Derived.Test.YtkkmfpllgjoceaaGreatRooL
import Derived.Test.YtkkmfpllgjoceaaGreatZt
namespace Go.Proofs.YtkkmfpllgjoceaaGreat.Ro
open Go.RowKit Go.Sort Ac Jo
set_option linter.unusedVariables false
set_option maxRecDepth 100000

/-- the play's own blocks, and those of X, which stay as they are: X k = some o: o lies in block k -/
def PF (X : Nat → Option Obj) (pb : Nat) (tv ov : Value) (k : Nat) : Prop := k = pb ∨ tv.ownBlock = some k ∨ ov.ownBlock = some k ∨ (X k).isSome = true
structure PL (X : Nat → Option Obj) (Q : Rprg) (B : Nat) (W w : World) (pb rb : Nat) (tv ov : Value) (s : Rm) (now : Int) (O : List Int) : Prop where
  ob : w.heap[pb]? = some (.cells #[.pointer (some ⟨rb, 0, none⟩), tv, .int .i64 now, ov] 46 (0, 0))
  tk : St.NT w B tv s.n s.z
  od : St.NR w B ov O
  rm : OF Q B W w rb s (PF X pb tv ov)
  d1 : ∀ k, ov.ownBlock = some k → k ≠ pb
  d2 : ∀ k, tv.ownBlock = some k → k ≠ pb
  d3 : ∀ k, ov.ownBlock = some k → tv.ownBlock ≠ some k
  pbB : B ≤ pb
  xk : ∀ k o, X k = some o → w.heap[k]? = some o
  x1 : ∀ k, (X k).isSome = true → B ≤ k ∧ k ≠ pb ∧ tv.ownBlock ≠ some k ∧ ov.ownBlock ≠ some k
section
variable {X : Nat → Option Obj} {Q : Rprg} {B : Nat} {W w w' : World} {pb rb : Nat} {tv ov : Value} {s s' : Rm} {now : Int} {O : List Int}
theorem own_ge {w : World} {C e size n : Nat} {v : Value} {xs : List Value} (h : w.ownsRow C e size v n xs) : ∀ k, v.ownBlock = some k → C ≤ k ∧ k < w.heap.size := fun k hk => by
  have := World.ownsRow.lt h k hk
  exact ⟨by first | exact this.2 | exact this.1, by first | exact this.1 | exact this.2⟩
theorem row_keep {w w' : World} {C e size n : Nat} {v : Value} {xs : List Value} (h : w.ownsRow C e size v n xs) (q : ∀ k, v.ownBlock = some k → w'.heap[k]? = w.heap[k]?) : w'.ownsRow C e size v n xs := by
  refine ⟨h.1, ?_⟩
  rcases h.2 with hn | ⟨g, cap, cur, rfl, hb, hgg, rest⟩
  · exact Or.inl hn
  · refine Or.inr ⟨g, cap, cur, rfl, hb, ?_, rest⟩
    rw [q g rfl]
    exact hgg
theorem PL.keep (h : PL X Q B W w pb rb tv ov s now O) (hb : ∀ k, PF X pb tv ov k → w'.heap[k]? = w.heap[k]?) (hs : w.heap.size ≤ w'.heap.size) (hr : OF Q B W w' rb s' (PF X pb tv ov)) (hn : s'.n = s.n) (hz : s'.z = s.z) : PL X Q B W w' pb rb tv ov s' now O :=
  ⟨(hb pb (Or.inl rfl)).trans h.ob, by rw [hn, hz]; exact row_keep h.tk (fun k hk => hb k (Or.inr (Or.inl hk))) , row_keep h.od (fun k hk => hb k (Or.inr (Or.inr (Or.inl hk)))), hr, h.d1, h.d2, h.d3, h.pbB,
    fun k o hk => (hb k (Or.inr (Or.inr (Or.inr (by rw [hk]; rfl))))).trans (h.xk k o hk), h.x1⟩
theorem PL.below (h : PL X Q B W w pb rb tv ov s now O) (q : Below w.heap.size w w') : PL X Q B W w' pb rb tv ov s now O :=
  h.keep (fun k hk => q.block k (h.rm.f k hk)) q.size (h.rm.below q) rfl rfl
theorem PL.cells (h : PL X Q B W w pb rb tv ov s now O) : w.cell? ⟨pb, 0, none⟩ = some (.pointer (some ⟨rb, 0, none⟩)) ∧ w.cell? ⟨pb, 0 + 1, none⟩ = some tv ∧ w.cell? ⟨pb, 0 + 2, none⟩ = some (.int .i64 now) ∧ w.cell? ⟨pb, 0 + 3, none⟩ = some ov :=
  ⟨cell_of_row _ _ 0 _ _ _ h.ob, cell_of_row _ _ 1 _ _ _ h.ob, cell_of_row _ _ 2 _ _ _ h.ob, cell_of_row _ _ 3 _ _ _ h.ob⟩
/-- a play; the answer -/
def PLP (X : Nat → Option Obj) (Q : Rprg) (v : Value) (B : Nat) (W : World) (pb rb : Nat) (tv : Value) (s : Rm) (now : Int) (O : List Int) (e : Ending) (w' : World) : Prop := e = .returned v ∧ ∃ ov, PL X Q B W w' pb rb tv ov s now O
theorem od_is (h : PL X Q B W w pb rb tv ov s now O) : St.IS w ov O := St.NR.is h.od
/-- of the first k those that are not t -/
theorem gone_take (O : List Int) (t : Int) (k : Nat) (h : k < O.length) : gone (O.take (k + 1)) t = if O.getD k 0 = t then gone (O.take k) t else gone (O.take k) t ++ [O.getD k 0] := by
  rw [List.take_add_one, List.getElem?_eq_getElem h, List.getD_eq_getElem?_getD, List.getElem?_eq_getElem h]
  unfold gone
  rw [List.filter_append]
  simp only [Option.toList_some, Option.getD_some]
  by_cases e : O[k] = t
  · rw [if_pos e, List.filter_cons_of_neg (by simp [e])]; simp
  · rw [if_neg e, List.filter_cons_of_pos (by simpa using e)]; simp
theorem gone_len (O : List Int) (t : Int) : (gone O t).length ≤ O.length := List.length_filter_le _ _
/-- the order is another one -/
theorem PL.order (h : PL X Q B W w pb rb tv ov s now O) (q : Below w.heap.size w w') {v : Value} {O' : List Int} (hv : St.NR w' w.heap.size v O') : PL X Q B W (w'.setCell ⟨pb, 3, none⟩ v) pb rb tv v s now O' := by
  have hp := lt_of_block h.ob
  have hob := heap_setCell_same w' pb 3 _ _ v ((q.block pb hp).trans h.ob)
  have hvb := own_ge hv
  have hsz := h.rm.szw
  have ht := own_ge h.tk
  have hn : ∀ k, k ≠ pb → (w'.setCell ⟨pb, 3, none⟩ v).heap[k]? = w'.heap[k]? := fun k hk => Below.heap_setCell _ _ _ _ hk
  refine ⟨hob, row_keep h.tk (fun k hk => (hn k (h.d2 k hk)).trans (q.block k (ht k hk).2)), ?_, ?_, fun k hk e => ?_, h.d2, fun k hk e => ?_, h.pbB, fun k o hk => ?_, fun k hk => ?_⟩
  · exact St.own_base (row_keep hv (fun k hk => hn k (fun e => by have := (hvb k hk).1; omega))) h.rm.szw
  · refine (h.rm.less (F' := fun k => k = pb ∨ tv.ownBlock = some k ∨ (X k).isSome = true) (fun k hk => by rcases hk with e | e | e; exact Or.inl e; exact Or.inr (Or.inl e); exact Or.inr (Or.inr (Or.inr e)))).to (F' := PF X pb tv v) ?_ ?_ ?_
    · exact (Only.of_below q).trans (Only.set w' 3 v (Or.inl rfl))
    · rintro k (rfl | hk | hk)
      · exact h.pbB
      · exact (ht k hk).1
      · exact (h.x1 k hk).1
    · rintro k (hk | hk | hk | hk)
      · exact Or.inl (Or.inl hk)
      · exact Or.inl (Or.inr (Or.inl hk))
      · refine Or.inr ⟨(hvb k hk).1, ?_⟩
        have := (hvb k hk).2
        simpa [World.setCell] using this
      · exact Or.inl (Or.inr (Or.inr hk))
  · have := (hvb k hk).1; omega
  · have := (hvb k hk).1; have := (ht k e).2; omega
  · have h1 := h.xk k o hk
    exact (hn k (h.x1 k (by rw [hk]; rfl)).2.1).trans ((q.block k (lt_of_block h1)).trans h1)
  · obtain ⟨x1, x2, x3, _⟩ := h.x1 k hk
    refine ⟨x1, x2, x3, fun e => ?_⟩
    obtain ⟨o, ho⟩ := Option.isSome_iff_exists.1 hk
    have h1 := lt_of_block (h.xk k o ho)
    have := (hvb k e).1
    omega
set_option maxHeartbeats 2000000 in
theorem gone_any (h : PL X Q B W w pb rb tv ov s now O) (hO : O.length ≤ 1000) (t : Int) : Calls Tryz.prog 67 #[.pointer (some ⟨pb, 0, none⟩), .int .i64 t] w (PLP X Q (.tuple #[]) B W pb rb tv s now (gone O t)) := by
  obtain ⟨a, cap, rfl, hn1, hn2⟩ := (od_is h).slice
  have HP := Lib.hid h
  have HO := Lib.hid (St.NR.nil w w.heap.size)
  obtain ⟨m, hm⟩ : ∃ m, m = O.length := ⟨_, rfl⟩
  have HM := Lib.hid hm
  rw [← hm] at hO hn1 HP
  clear h hm
  go_enter Tryz.func67, Tryz.ntmps67
  go_wp2_with fail
  go_loopw [4, 5] (fun o i wr => ∃ k : Nat, k ≤ m ∧ i = .int .i64 k ∧ Hid (St.NR wr w.heap.size o (gone (O.take k) t)) ∧ Hid (Below w.heap.size w wr)) (fun _ i _ => m - (intOf i).toNat)
  case atStart => exact ⟨0, Nat.zero_le _, rfl, HO.out, Below.refl _ _⟩
  case round =>
    clear HO
    rename_i o _
    obtain ⟨k, hk, rfl, HO, HB⟩ := hrel
    have HPw := Lib.hid (HP.out.below HB.out)
    obtain ⟨c0, c1, c2, c3⟩ := HPw.out.cells
    by_cases hlt : k < m
    · obtain ⟨b, off, rfl, d0⟩ := (od_is HPw.out).at hlt
      have HT := Lib.hid (gone_take O t k (by rw [← HM.out]; exact hlt))
      by_cases hx : O.getD k 0 = t
      · have HT2 : Hid (gone (O.take (k + 1)) t = gone (O.take k) t) := HT.out.trans (if_pos hx)
        have hx2 : (O.getD k 0 == t) = true := by simpa using hx
        have hx4 : (O.getD k 0 != t) = false := by simpa using hx
        generalize O.getD k 0 = x at *
        clear HT hx
        go_wp2_with fail
        go_roundw
        case rel => exact ⟨k + 1, by omega, by go_num, by rw [HT2.out]; exact HO.out, HB.out⟩
        case measure => simp [intOf]; omega
      · have HT2 : Hid (gone (O.take (k + 1)) t = gone (O.take k) t ++ [O.getD k 0]) := HT.out.trans (if_neg hx)
        have hx2 : (O.getD k 0 == t) = false := by simpa using hx
        have hx4 : (O.getD k 0 != t) = true := by simpa using hx
        have HL : (gone (O.take k) t).length ≤ 1000 := Nat.le_trans (gone_len _ _) (by rw [List.length_take]; omega)
        generalize O.getD k 0 = x at *
        obtain ⟨v', w1x, hrun, hown2, hb2⟩ := St.app_num (w := wr.alloc (.cells #[.int .i64 x] 3)) (World.ownsRow.alloc HO.out _) x (g := wr.heap.size) (heap_alloc_new wr _) (Nat.le_trans HB.out.size (by simp)) HL 41
        have HRUN := Lib.hid hrun
        have HO2 := Lib.hid hown2
        have HB2 : Hid (Below w.heap.size w w1x) := (HB.out.alloc HB.out.size _).trans hb2
        clear hrun hown2 hb2 hx HT HL
        go_wp2_with (at_builtin; refine St.wpList_append_eq rfl _ _ 41 41 rfl _ _ _ _ rfl rfl HRUN.out ?_)
        go_roundw
        case rel => exact ⟨k + 1, by omega, by go_num, by rw [HT2.out]; exact HO2.out, HB2.out⟩
        case measure => simp [intOf]; omega
    · obtain rfl : k = m := by omega
      have HE : Hid (gone (O.take k) t = gone O t) := by rw [HM.out, List.take_length]; rfl
      have f3 : wr.frozen? ⟨pb, 0 + 3, none⟩ = false := frozen_of_row _ _ 3 _ _ HPw.out.ob
      obtain ⟨oa, oc, ho⟩ := HO.out.is_form
      subst ho
      have HF := Lib.hid (HP.out.order HB.out HO.out)
      generalize (gone (O.take k) t).length = ol at *
      go_wp2_with fail
      go_returns
      exact ⟨rfl, _, by rw [← HE.out]; exact HF.out⟩
/-- the least of the first k tasks that has a resource -/
def ownr (s : Rm) (r : Int) : Nat → Option Nat
  | 0 => none
  | k + 1 => match ownr s r k with
    | some i => some i
    | none => if r ∈ heldV s k then some k else none
def ownV (s : Rm) (r : Int) : Value := match ownr s r s.n with | some i => .tuple #[.int .i64 i, .bool true] | none => .tuple #[.int .i64 0, .bool false]
theorem ownr_at {s : Rm} {r : Int} {k : Nat} (h : ownr s r k = none) (hr : r ∈ heldV s k) : ∀ {m : Nat}, k < m → ownr s r m = some k
  | m + 1, hm => by
    unfold ownr
    by_cases e : k = m
    · subst e; rw [h]; simp only; rw [if_pos hr]
    · rw [ownr_at h hr (m := m) (by omega)]
theorem held_at {w w' : World} {rb : Nat} {s : Rm} {F : Nat → Prop} (h : OF Q B W w rb s F) (t : Int) : Calls Tryz.prog 18 #[.pointer (some ⟨rb, 0, none⟩), .int .i64 t] w (NumP w (heldV s t)) := by
  obtain ⟨S, h1⟩ := h.at
  exact Q.held h1 h.iv t
theorem heldV_len {s : Rm} (h : Rinv s) (t : Int) : (heldV s t).length ≤ 4 := by
  unfold heldV
  split
  · exact h.h4 t
  · exact Nat.zero_le _
set_option maxHeartbeats 4000000 in
theorem pheld_any (h : PL X Q B W w pb rb tv ov s now O) (r : Int) : Calls Tryz.prog 66 #[.pointer (some ⟨pb, 0, none⟩), .int .i64 r] w (VB (ownV s r) w) := by
  obtain ⟨ta, tcap, rfl, ht1, ht2⟩ := (St.NT.tk h.tk).slice
  have HP := Lib.hid h
  have hn4 := h.rm.iv.n4
  obtain ⟨n, hn⟩ : ∃ n, n = s.n := ⟨_, rfl⟩
  have HN := Lib.hid hn
  rw [← hn] at ht1 HP hn4
  clear h hn
  go_enter Tryz.func66, Tryz.ntmps66
  go_wp2_with fail
  go_loopw [6] (fun i wr => ∃ k : Nat, k ≤ n ∧ i = .int .i64 k ∧ Hid (ownr s r k = none) ∧ Hid (Below w.heap.size w wr)) (fun i _ => n - (intOf i).toNat)
  case atStart => exact ⟨0, Nat.zero_le _, rfl, rfl, Below.refl _ _⟩
  case round =>
    obtain ⟨k, hk, rfl, HO, HB⟩ := hrel
    have HPw := Lib.hid (HP.out.below HB.out)
    obtain ⟨c0, c1, c2, c3⟩ := HPw.out.cells
    by_cases hlt : k < n
    · go_wp2_with fail
      clear c0 c1 c2 c3
      refine (held_at (w' := wr) HPw.out.rm k).mono ?_
      rintro e w1 ⟨hv, rfl, hnr, hb⟩
      obtain ⟨xa, xc, hform⟩ := hnr.is_form
      subst hform
      have HL := heldV_len HPw.out.rm.iv k
      have HX := Lib.hid (St.NR.is hnr)
      have HB1 := Lib.hid (HB.out.trans (hb.mono HB.out.size))
      obtain ⟨xs, hxs⟩ : ∃ xs, xs = heldV s k := ⟨_, rfl⟩
      have HXS := Lib.hid hxs
      rw [← hxs] at HX HL ⊢
      clear hnr hb hxs HPw
      obtain ⟨m, hm⟩ : ∃ m, m = xs.length := ⟨_, rfl⟩
      have HM := Lib.hid hm
      rw [← hm] at HX HL ⊢
      clear hm
      go_wp2_with fail
      go_loopw [8] (fun i wi => ∃ j : Nat, j ≤ m ∧ i = .int .i64 j ∧ wi = w1 ∧ Hid (∀ y ∈ xs.take j, y ≠ r)) (fun i _ => m - (intOf i).toNat)
      case atStart => exact ⟨0, Nat.zero_le _, rfl, rfl, Lib.hid (fun y hy => by simp at hy)⟩
      case round =>
        obtain ⟨j, hj, rfl, rfl, HY⟩ := hrel
        by_cases hjl : j < m
        · obtain ⟨b, off, rfl, d0⟩ := HX.out.at hjl
          have HT := Lib.hid (show xs.take (j + 1) = xs.take j ++ [xs.getD j 0] by rw [List.take_add_one, List.getElem?_eq_getElem (show j < xs.length by rw [← HM.out]; exact hjl), List.getD_eq_getElem?_getD, List.getElem?_eq_getElem (show j < xs.length by rw [← HM.out]; exact hjl)]; rfl)
          have HMem := Lib.hid (show xs.getD j 0 ∈ xs by rw [List.getD_eq_getElem?_getD, List.getElem?_eq_getElem (show j < xs.length by rw [← HM.out]; exact hjl)]; exact List.getElem_mem _)
          generalize xs.getD j 0 = x at *
          by_cases hx : x = r
          · subst hx
            have HE : Hid (ownV s x = .tuple #[.int .i64 k, .bool true]) := by
              unfold Hid ownV
              rw [ownr_at HO.out (by rw [← HXS.out]; exact HMem.out) (m := s.n) (by rw [← HN.out]; exact hlt)]
            go_wp2_with fail
            go_ret2
            exact ⟨by rw [HE.out]; rfl, HB1.out⟩
          · have hx2 : (x == r) = false := by simpa using hx
            have HY2 : Hid (∀ y ∈ xs.take (j + 1), y ≠ r) := fun y hy => by
              rw [HT.out] at hy
              rcases List.mem_append.1 hy with q | q
              · exact HY.out y q
              · rw [List.mem_singleton.1 q]; exact hx
            clear hx HT HMem HY
            go_wp2_with fail
            go_roundw
            case rel => exact ⟨j + 1, by omega, by go_num, trivial, HY2⟩
            case measure => simp [intOf]; omega
        · obtain rfl : j = m := by omega
          have HO2 : Hid (ownr s r (k + 1) = none) := by
            unfold Hid ownr
            rw [HO.out]
            simp only
            rw [if_neg (fun q => by
              have := HY.out
              rw [HM.out, List.take_length] at this
              exact this r (by rw [HXS.out]; exact q) rfl)]
          go_wp2_with fail
          go_roundw
          case rel => exact ⟨k + 1, by omega, by go_num, HO2, HB1⟩
          case measure => simp [intOf]; omega
    · obtain rfl : k = n := by omega
      have HE : Hid (ownV s r = .tuple #[.int .i64 0, .bool false]) := by
        unfold Hid ownV
        rw [← HN.out, HO.out]
      go_wp2_with fail
      go_ret2
      exact ⟨by rw [HE.out]; rfl, HB.out⟩
end
end Go.Proofs.YtkkmfpllgjoceaaGreat.Ro
