/- The program's stack, read: Held, Len, Top, Ceiling. -/
import Derived.Test.YtmheggedlepdlaaStaG
namespace Go.Proofs.Ytmheggedlepdlaa
open Go.RowKit Lv Sk Go.Sort
set_option linter.unusedVariables false

theorem NR.base {w : World} {C B : Nat} {v : Value} {xs : List Int} (h : NR w B v xs) (q : C ≤ B) : NR w C v xs := own_base h q
theorem NR.kept {w w' : World} {C : Nat} {v : Value} {xs : List Int} (h : NR w C v xs) (q : Below w.heap.size w w') : NR w' C v xs :=
  World.ownsRow.kept (row := none) h ⟨q.os, q.tape, q.output, q.size, fun k hk _ => q.block k hk⟩ (by cases v.ownBlock <;> simp)
theorem nums_at (xs : List Int) (i : Nat) (h : i < xs.length) : (nums xs)[i]? = some (.int .i64 (xs.getD i 0)) := by
  unfold nums
  rw [List.getElem?_map, List.getElem?_eq_getElem h, List.getD_eq_getElem?_getD, List.getElem?_eq_getElem h]
  rfl
theorem NR.is {w : World} {C : Nat} {v : Value} {xs : List Int} (h : NR w C v xs) : IS w v xs := by
  have hc := fun g => World.ownsRow.cells h (g := g)
  rcases h.2 with ⟨rfl, h0⟩ | ⟨g, cap, cur, rfl, hb, hh, hnc, hcm, _⟩
  · rw [List.eq_nil_of_length_eq_zero h0]; exact IS.nil w
  · refine ⟨_, cap, rfl, hnc, hcm, (fun e => by cases e), fun _ => ⟨g, 0, rfl, fun i hi => ?_⟩⟩
    have q1 := hc g rfl _ _ (nums_at xs i hi)
    rw [Addr.add_lit] at q1
    exact q1
set_option maxHeartbeats 2000000 in
theorem held_any {w : World} {sb n : Nat} {z : Nat → Nat → Int} {l : List En} {tv lv : Value} (h : SO w sb n z l tv lv) (hl : l.length ≤ 1000) (t : Int) : Calls Try.prog 19 #[.pointer (some ⟨sb, 0, none⟩), .int .i64 t] w (HeldP w (held l t)) := by
  obtain ⟨a, cap, rfl, hn1, hn2⟩ := h.pe.es.slice
  obtain ⟨c0, c1⟩ := h.cells
  have HN := Lib.hid (none_any h)
  have HP := Lib.hid h
  have HL := Lib.hid hl
  have HE := Lib.hid h.pe.es
  obtain ⟨m, hm⟩ : ∃ m, m = l.length := ⟨_, rfl⟩
  rw [← hm] at hl hn1 HP c1 HE
  clear h hm
  have mixed : Try.prog.follows .mixedOrders = true := by kernel_rfl
  go_enter Try.func19, Try.ntmps19
  go_wp2_with fail
  refine HN.out.mono ?_
  rintro e w1 ⟨rfl, rfl⟩
  clear HN
  go_wp2_with fail
  have HS0 := Lib.hid (And.intro c1 (Below.refl w.heap.size w))
  go_region_held3 (fun w' => w'.cell? ⟨sb, 0 + 1, none⟩ = some (.slice a m cap) ∧ Below w.heap.size w w')
    (first | assumption | exact HS0.out | exact ⟨HS0.out.1, HS0.out.2.drew⟩ | go_keep)
    (first | (go_at_call 39; refine (isby_any _ t).mono ?_; rintro e w2 ⟨B, rfl, hcb, hb2⟩; have HCB := Lib.hid hcb; have HB2 := Lib.hid (show Below w.heap.size w w2 from chn (Below.drew (Below.refl _ _)) hb2); have hS2 : w2.cell? ⟨sb, 0 + 1, none⟩ = some (.slice a m cap) ∧ Below w.heap.size w w2 := ⟨(HB2.out.cell (lt_of_cell c1)).trans c1, HB2.out⟩)
           | (go_at_call 41; refine (resby_any (HE.out.below HB2.out) HCB.out HL.out).mono ?_; rintro e w3 ⟨r, rfl, hr, hb3⟩; have HR := Lib.hid hr; have HB3 := Lib.hid (chn HB2.out hb3); have hS3 : w3.cell? ⟨sb, 0 + 1, none⟩ = some (.slice a m cap) ∧ Below w.heap.size w w3 := ⟨(HB3.out.cell (lt_of_cell c1)).trans c1, HB3.out⟩))
  all_goals
    go_wp2_with fail
    go_ret
    exact ⟨r, rfl, HR.out.base HB2.out.size, HB3.out⟩
theorem len_any {w : World} {sb n : Nat} {z : Nat → Nat → Int} {l : List En} {tv lv : Value} (h : SO w sb n z l tv lv) : Calls Try.prog 20 #[.pointer (some ⟨sb, 0, none⟩)] w (YI l.length w) := by
  obtain ⟨a, cap, rfl, hn1, hn2⟩ := h.pe.es.slice
  obtain ⟨c0, c1⟩ := h.cells
  have HN := Lib.hid (none_any h)
  clear h
  go_enter Try.func20, Try.ntmps20
  go_wp2_with fail
  refine HN.out.mono ?_
  rintro e w1 ⟨rfl, rfl⟩
  clear HN
  go_wp2_with fail
  go_ret
  exact ⟨rfl, Below.refl _ _⟩
set_option maxHeartbeats 1000000 in
theorem top_any {w : World} {sb n : Nat} {z : Nat → Nat → Int} {l : List En} {tv lv : Value} (h : SO w sb n z l tv lv) (hl : l.length ≤ 1000) : Calls Try.prog 23 #[.pointer (some ⟨sb, 0, none⟩)] w (TopP (topT l) (topB l) w) := by
  obtain ⟨a, cap, rfl, hn1, hn2⟩ := h.pe.es.slice
  obtain ⟨c0, c1⟩ := h.cells
  have HN := Lib.hid (none_any h)
  have HP := Lib.hid h
  have HX := Lib.hid (lastany_any h.pe.es hl)
  obtain ⟨m, hm⟩ : ∃ m, m = l.length := ⟨_, rfl⟩
  have HA : Hid (topT l = (if m = 0 then 0 else (l.getD (m - 1) e0).1) ∧ topB l = decide (0 < m)) := by rw [hm]; exact ⟨rfl, rfl⟩
  rw [← hm] at hl hn1 HP c1 HX
  clear h hm
  cases m with
  | zero =>
    go_enter Try.func23, Try.ntmps23
    go_wp2_with fail
    refine HN.out.mono ?_
    rintro e w1 ⟨rfl, rfl⟩
    go_wp2_with fail
    refine HX.out.mono ?_
    rintro e w2 ⟨rfl, hb⟩
    rw [show oN (lst 0) = 0 from rfl, show (lst 0).isSome = false from rfl]
    have HB := Lib.hid hb
    clear hb HX HN
    go_wp2_with fail
    go_ret2
    exact ⟨by rw [HA.out.1, HA.out.2]; rfl, HB.out⟩
  | succ k =>
    have HA2 : Hid (topT l = (l.getD k e0).1 ∧ topB l = true) := ⟨by rw [HA.out.1, if_neg (Nat.succ_ne_zero k)]; rfl, by rw [HA.out.2]; simp⟩
    clear HA
    go_enter Try.func23, Try.ntmps23
    go_wp2_with fail
    refine HN.out.mono ?_
    rintro e w1 ⟨rfl, rfl⟩
    go_wp2_with fail
    refine HX.out.mono ?_
    rintro e w2 ⟨rfl, hb⟩
    rw [show oN (lst (k + 1)) = (k : Int) from rfl, show (lst (k + 1)).isSome = true from rfl]
    have HB := Lib.hid hb
    obtain ⟨c2, c3⟩ := (HP.out.below hb).cells
    obtain ⟨b, off, rfl, d0, d1⟩ := (HP.out.below hb).pe.es.at (Nat.lt_succ_self k)
    have hk1 : k < k + 1 := Nat.lt_succ_self k
    generalize (l.getD k e0).1 = x at *
    generalize (l.getD k e0).2 = y at *
    obtain ⟨j, hj⟩ : ∃ j, j = k + 1 := ⟨_, rfl⟩
    rw [← hj] at *
    clear hb HX HN HP
    go_wp2_with fail
    go_ret2
    exact ⟨by rw [HA2.out.1, HA2.out.2]; rfl, HB.out⟩
theorem hi_map (c : Int → Int) (l : List En) : ∀ k, k ≤ l.length → hi c (l.map (·.2)) k = cls c l k
  | 0, _ => rfl
  | k + 1, h => by
    unfold hi cls
    rw [hi_map c l k (by omega)]
    have e : (l.map (·.2)).getD k 0 = (l.getD k e0).2 := by
      rw [List.getD_eq_getElem?_getD, List.getD_eq_getElem?_getD, List.getElem?_map, List.getElem?_eq_getElem (by omega)]
      rfl
    rw [e]
set_option maxHeartbeats 2000000 in
theorem cls_any {w : World} {sb n : Nat} {z : Nat → Nat → Int} {l : List En} {tv lv : Value} (h : SO w sb n z l tv lv) (hl : l.length ≤ 1000) (hnm : n ≤ 1000000) : Calls Try.prog 22 #[.pointer (some ⟨sb, 0, none⟩)] w (YI (cls (ceil n (dl z) (lo z)) l l.length) w) := by
  obtain ⟨a, cap, rfl, hn1, hn2⟩ := h.pe.es.slice
  obtain ⟨ta, tcap, rfl, ht1, ht2⟩ := h.tk.slice
  obtain ⟨c0, c1⟩ := h.cells
  have HN := Lib.hid (none_any h)
  have HL := Lib.hid hl
  have HE := Lib.hid h.pe.es
  have HT := Lib.hid h.tk
  have HH : Hid (hi (ceil n (dl z) (lo z)) (l.map (·.2)) l.length = cls (ceil n (dl z) (lo z)) l l.length) := hi_map _ l _ (Nat.le_refl _)
  obtain ⟨q, hq⟩ : ∃ q, q = cls (ceil n (dl z) (lo z)) l l.length := ⟨_, rfl⟩
  rw [← hq] at HH ⊢
  clear hq
  obtain ⟨m, hm⟩ : ∃ m, m = l.length := ⟨_, rfl⟩
  rw [← hm] at hl hn1 c1 HE
  clear h hm
  have mixed : Try.prog.follows .mixedOrders = true := by kernel_rfl
  go_enter Try.func22, Try.ntmps22
  go_wp2_with fail
  refine HN.out.mono ?_
  rintro e w1 ⟨rfl, rfl⟩
  clear HN
  go_wp2_with fail
  have HS0 := Lib.hid (And.intro c0 (And.intro c1 (Below.refl w.heap.size w)))
  go_region_held3 (fun w' => w'.cell? ⟨sb, 0, none⟩ = some (.slice ta n tcap) ∧ w'.cell? ⟨sb, 0 + 1, none⟩ = some (.slice a m cap) ∧ Below w.heap.size w w')
    (first | assumption | exact HS0.out | exact ⟨HS0.out.1, HS0.out.2.1, HS0.out.2.2.drew⟩ | go_keep)
    (first | (go_at_call 41; refine (resany_any (HE.out.below (Below.drew (Below.refl _ _))) HL.out).mono ?_; rintro e w3 ⟨r, rfl, hr, hb3⟩; have HR := Lib.hid hr; have HB3 := Lib.hid (show Below w.heap.size w w3 from chn (Below.drew (Below.refl _ _)) hb3); have hS3 : w3.cell? ⟨sb, 0, none⟩ = some (.slice ta n tcap) ∧ w3.cell? ⟨sb, 0 + 1, none⟩ = some (.slice a m cap) ∧ Below w.heap.size w w3 := ⟨(HB3.out.cell (lt_of_cell c0)).trans c0, (HB3.out.cell (lt_of_cell c1)).trans c1, HB3.out⟩)
           | (go_at_call 24; refine (high_any (HT.out.below HB3.out) HR.out.is hnm).mono ?_; rintro e w4 ⟨rfl, hb4⟩; have HB4 := Lib.hid (chn HB3.out hb4); have hS4 : w4.cell? ⟨sb, 0, none⟩ = some (.slice ta n tcap) ∧ w4.cell? ⟨sb, 0 + 1, none⟩ = some (.slice a m cap) ∧ Below w.heap.size w w4 := ⟨(HB4.out.cell (lt_of_cell c0)).trans c0, (HB4.out.cell (lt_of_cell c1)).trans c1, HB4.out⟩))
  all_goals
    go_wp2_with fail
    go_ret
    exact ⟨by rw [← HH.out]; rfl, HB4.out⟩
end Go.Proofs.Ytmheggedlepdlaa
