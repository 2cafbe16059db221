/- Ceiling, the program's and the document's. -/
import Derived.Test.YtmheggedlepdlaaLevA
namespace Go.Proofs.Ytmheggedlepdlaa
open Go.RowKit Lv
set_option linter.unusedVariables false

set_option maxHeartbeats 2000000 in
theorem ceil_any {w : World} {v : Value} {n : Nat} {z : Nat → Nat → Int} (h : TK w v n z) (hnm : n ≤ 1000000) (r : Int) : Calls Try.prog 45 #[v, .int .i64 r] w (YI (ceil n (dl z) (lo z) r) w) := by
  obtain ⟨a, cap, rfl, hn1, hn2⟩ := h.slice
  have HP := Lib.hid h
  clear h
  have HE := Lib.hid (ceil_eq n (dl z) (fun i : Nat => us n (lo z) r (i : Int)))
  obtain ⟨u, hu⟩ : ∃ u : Nat → Bool, u = fun i : Nat => us n (lo z) r (i : Int) := ⟨_, rfl⟩
  rw [← hu] at HE
  have HU : Hid (∀ i : Nat, us n (lo z) r i = u i) := fun i => by rw [hu]
  have HC : Hid (ceil n (dl z) (lo z) r = ce n (dl z) u n) := by unfold Hid ceil; rw [hu]
  clear hu
  go_enter Try.func45, Try.ntmps45
  go_wp2_with fail
  go_loopw [5, 10] (fun s i wr => ∃ (k : Nat) (q : Int), k ≤ n ∧ i = .int .i64 k ∧ s = .int .i64 q ∧ Hid (q = fs (dl z) u k) ∧ Hid (Below w.heap.size w wr)) (fun _ i _ => n - (intOf i).toNat)
  case atStart => exact ⟨0, -1, by omega, rfl, rfl, rfl, Below.refl _ _⟩
  case round =>
    obtain ⟨k, q, hk, rfl, rfl, HQ, HB⟩ := hrel
    by_cases hlt : k < n
    · have HT := Lib.hid (HP.out.below HB.out)
      obtain ⟨b, off, rfl, c⟩ := HT.out.at hlt
      obtain ⟨c0, c1, c2, c3, c4, c5, c6, c7⟩ := c
      have hA := (Below.refl _ wr).alloc (Nat.le_refl _) (tko (z k))
      have e0 := tko_new wr (z k)
      have HA := Lib.hid (HB.out.trans (hA.mono HB.out.size))
      have HT2 := Lib.hid (HT.out.below hA)
      have HO : Hid (∀ p x, wr.cell? p = some x → (wr.alloc (tko (z k))).cell? p = some x) := fun p x hp => tko_old (z k) hp
      unfold tko at hA e0 HA HT2 HO
      have hs : fs (dl z) u (k + 1) = if u k && (decide (q < 0) || decide (dl z k < dl z q.toNat)) then (k : Int) else q := by rw [HQ.out]; rfl
      have HS := Lib.hid hs
      have hr := fs_range (n := n) (D := dl z) (u := u) (k := k) (by omega)
      rw [← HQ.out] at hr
      have HR := Lib.hid hr
      clear hs hr hA
      cases hu : u k with
      | false =>
        have HX : Hid (us n (lo z) r k = false) := (HU.out k).trans hu
        have HN : Hid (q = fs (dl z) u (k + 1)) := by rw [HS.out, hu]; rfl
        clear HS hu
        go_wp2_with fail
        generalize wr.alloc (.cells #[.int .i64 (z k 0), .int .i64 (z k 1), .int .i64 (z k 2), .int .i64 (z k 3), .int .i64 (z k 4), .int .i64 (z k 5), .int .i64 (z k 6), .int .i64 (z k 7)] 32) = w2 at *
        go_quiet ((go_at_call 14; exact Calls.quiet_of_same (uses_fit (HT2.out.drewN _) HX.out)))
        go_wp2_with fail
        go_roundw
        case rel => exact ⟨k + 1, q, by omega, by go_num, rfl, HN, below_drewN HA.out _⟩
        case measure => simp [intOf]; omega
      | true =>
        have HX : Hid (us n (lo z) r k = true) := (HU.out k).trans hu
        cases hq : decide (q < 0) with
        | true =>
          have HN : Hid ((k : Int) = fs (dl z) u (k + 1)) := by rw [HS.out, hu, hq]; rfl
          clear HS hu
          go_wp2_with fail
          generalize wr.alloc (.cells #[.int .i64 (z k 0), .int .i64 (z k 1), .int .i64 (z k 2), .int .i64 (z k 3), .int .i64 (z k 4), .int .i64 (z k 5), .int .i64 (z k 6), .int .i64 (z k 7)] 32) = w2 at *
          go_quiet ((go_at_call 14; exact Calls.quiet_of_same (uses_fit (HT2.out.drewN _) HX.out)))
          go_wp2_with fail
          go_roundw
          case rel => exact ⟨k + 1, k, by omega, by go_num, rfl, HN, below_drewN HA.out _⟩
          case measure => simp [intOf]; omega
        | false =>
          obtain ⟨f, rfl⟩ : ∃ f : Nat, q = f := ⟨q.toNat, by have := of_decide_eq_false hq; omega⟩
          have hf : f < n := by have := HR.out.2.2 (by omega); simp at this; omega
          obtain ⟨b', off', eb, d⟩ := HT.out.at hf
          obtain ⟨_, d1, _⟩ := d
          injection eb with eb
          injection eb with eb1 eb2 _
          subst eb1; subst eb2
          have d1 := HO.out _ _ d1
          have HS2 : Hid (fs (dl z) u (k + 1) = if z k 1 < z f 1 then (k : Int) else f) := by
            unfold Hid; rw [HS.out, hu, hq]; by_cases e : z k 1 < z f 1 <;> simp [dl, e]
          clear HS
          cases ht : decide (z k 1 < z f 1) with
          | true =>
            have HN : Hid ((k : Int) = fs (dl z) u (k + 1)) := by rw [HS2.out, if_pos (of_decide_eq_true ht)]; rfl
            clear HS2 hu
            go_wp2_with fail
            generalize wr.alloc (.cells #[.int .i64 (z k 0), .int .i64 (z k 1), .int .i64 (z k 2), .int .i64 (z k 3), .int .i64 (z k 4), .int .i64 (z k 5), .int .i64 (z k 6), .int .i64 (z k 7)] 32) = w2 at *
            go_quiet ((go_at_call 14; exact Calls.quiet_of_same (uses_fit (HT2.out.drewN _) HX.out)))
            go_wp2_with fail
            go_roundw
            case rel => exact ⟨k + 1, k, by omega, by go_num, rfl, HN, below_drewN HA.out _⟩
            case measure => simp [intOf]; omega
          | false =>
            have HN : Hid ((f : Int) = fs (dl z) u (k + 1)) := by rw [HS2.out, if_neg (of_decide_eq_false ht)]; rfl
            clear HS2 hu
            go_wp2_with fail
            generalize wr.alloc (.cells #[.int .i64 (z k 0), .int .i64 (z k 1), .int .i64 (z k 2), .int .i64 (z k 3), .int .i64 (z k 4), .int .i64 (z k 5), .int .i64 (z k 6), .int .i64 (z k 7)] 32) = w2 at *
            go_quiet ((go_at_call 14; exact Calls.quiet_of_same (uses_fit (HT2.out.drewN _) HX.out)))
            go_wp2_with fail
            go_roundw
            case rel => exact ⟨k + 1, f, by omega, by go_num, rfl, HN, below_drewN HA.out _⟩
            case measure => simp [intOf]; omega
    · obtain rfl : k = n := by omega
      have HL := Lib.hid (level_any (HP.out.below HB.out) hnm q)
      go_wp2_with fail
      refine HL.out.mono ?_
      rintro e w2 ⟨rfl, hb⟩
      go_wp2_with fail
      go_ret
      exact ⟨by rw [HC.out, HQ.out, HE.out]; rfl, chn HB.out hb⟩

set_option maxHeartbeats 1000000 in
theorem rceil_any {w : World} {v : Value} {n : Nat} {z : Nat → Nat → Int} (h : TK w v n z) (hnm : n ≤ 1000000) (r : Int) : Calls Try.prog 47 #[v, .int .i64 r] w (YI (ceil n (dl z) (lo z) r) w) := by
  obtain ⟨a, cap, rfl, hn1, hn2⟩ := h.slice
  have HP := Lib.hid h
  clear h
  obtain ⟨u, hu⟩ : ∃ u : Nat → Bool, u = fun i : Nat => us n (lo z) r (i : Int) := ⟨_, rfl⟩
  have HU : Hid (∀ i : Nat, us n (lo z) r i = u i) := fun i => by rw [hu]
  have HC : Hid (ceil n (dl z) (lo z) r = ce n (dl z) u n) := by unfold Hid ceil; rw [hu]
  clear hu
  go_enter Try.func47, Try.ntmps47
  go_wp2_with fail
  go_loopw [5, 6] (fun s i wr => ∃ (k : Nat) (q : Int), k ≤ n ∧ i = .int .i64 k ∧ s = .int .i64 q ∧ Hid (q = ce n (dl z) u k) ∧ Hid (Below w.heap.size w wr)) (fun _ i _ => n - (intOf i).toNat)
  case atStart => exact ⟨0, 0, by omega, rfl, rfl, rfl, Below.refl _ _⟩
  case round =>
    obtain ⟨k, q, hk, rfl, rfl, HQ, HB⟩ := hrel
    by_cases hlt : k < n
    · have HT := Lib.hid (HP.out.below HB.out)
      have HS : Hid (ce n (dl z) u (k + 1) = if u k then max q (lev n (dl z) k) else q) := by unfold Hid; rw [HQ.out]; rfl
      have HX := Lib.hid (ruses_any HT.out k r)
      rw [HU.out k] at HX
      cases hu : u k with
      | false =>
        rw [hu] at HX
        have HN : Hid (q = ce n (dl z) u (k + 1)) := by rw [HS.out, hu]; rfl
        clear HS hu
        go_wp2_with fail
        refine HX.out.mono ?_
        rintro e w1 ⟨rfl, rfl⟩
        go_wp2_with fail
        go_roundw
        case rel => exact ⟨k + 1, q, by omega, by go_num, rfl, HN, HB⟩
        case measure => simp [intOf]; omega
      | true =>
        rw [hu] at HX
        have HN : Hid ((if q < lev n (dl z) k then lev n (dl z) k else q) = ce n (dl z) u (k + 1)) := by rw [HS.out, hu, ← max_if]; rfl
        have HL := Lib.hid (rlevel_any HT.out hnm k)
        generalize lev n (dl z) k = l at *
        clear HS hu
        go_wp2_with fail
        refine HX.out.mono ?_
        rintro e w1 ⟨rfl, rfl⟩
        go_wp2_with fail
        refine HL.out.mono ?_
        rintro e w2 ⟨rfl, hb⟩
        go_wp2_with fail
        go_roundw
        case rel => exact ⟨k + 1, _, by omega, by go_num, rfl, HN, chn HB.out hb⟩
        case measure => simp [intOf]; omega
    · obtain rfl : k = n := by omega
      go_wp2_with fail
      go_ret
      exact ⟨by rw [HC.out, HQ.out]; rfl, HB.out⟩
/-- numbers that can be read -/
def IS (w : World) (v : Value) (xs : List Int) : Prop :=
  ∃ a cap, v = .slice a xs.length cap ∧ xs.length ≤ cap ∧ cap ≤ maxLen ∧ (a = none → cap = 0) ∧ (0 < xs.length → ∃ b off, a = some ⟨b, off, none⟩ ∧ ∀ i, i < xs.length → w.cell? ⟨b, off + i, none⟩ = some (.int .i64 (xs.getD i 0)))
theorem IS.nil (w : World) : IS w (.slice none 0 0) [] := ⟨none, 0, rfl, Nat.le_refl _, Nat.zero_le _, fun _ => rfl, fun h => by cases h⟩
theorem IS.slice {w : World} {v : Value} {xs : List Int} (h : IS w v xs) : ∃ a cap, v = .slice a xs.length cap ∧ xs.length ≤ cap ∧ cap ≤ maxLen := by obtain ⟨a, cap, h1, h2, h3, _⟩ := h; exact ⟨a, cap, h1, h2, h3⟩
theorem IS.below {w w' : World} {v : Value} {xs : List Int} (h : IS w v xs) (q : Below w.heap.size w w') : IS w' v xs := by
  obtain ⟨a, cap, h1, h2, h3, h4, h5⟩ := h
  exact ⟨a, cap, h1, h2, h3, h4, fun hn => by obtain ⟨b, off, e, hc⟩ := h5 hn; exact ⟨b, off, e, fun i hi => (q.cell (lt_of_cell (hc i hi))).trans (hc i hi)⟩⟩
theorem IS.at {w : World} {n cap : Nat} {a : Option Addr} {xs : List Int} (h : IS w (.slice a n cap) xs) {i : Nat} (hi : i < n) : ∃ b off, a = some ⟨b, off, none⟩ ∧ w.cell? ⟨b, off + i, none⟩ = some (.int .i64 (xs.getD i 0)) := by
  obtain ⟨a', cap', e, h1, h2, h3, h4⟩ := h
  obtain ⟨rfl, rfl, rfl⟩ : a = a' ∧ n = xs.length ∧ cap = cap' := by simpa using e
  obtain ⟨b, off, rfl, hc⟩ := h4 (by omega)
  exact ⟨b, off, rfl, hc i hi⟩
theorem IS.take {w : World} {a : Option Addr} {n cap : Nat} {xs : List Int} (h : IS w (.slice a n cap) xs) {j : Nat} (hj : j ≤ n) : IS w (.slice a j cap) (xs.take j) := by
  obtain ⟨a', cap', e, h1, h2, h3, h4⟩ := h
  obtain ⟨rfl, rfl, rfl⟩ : a = a' ∧ n = xs.length ∧ cap = cap' := by simpa using e
  have hl : (xs.take j).length = j := by simp; omega
  refine ⟨_, _, by rw [hl], by omega, h2, h3, fun hp => ?_⟩
  rw [hl] at hp
  obtain ⟨b, off, rfl, hc⟩ := h4 (by omega)
  refine ⟨b, off, rfl, fun i hi => ?_⟩
  rw [hl] at hi
  rw [hc i (by omega)]
  simp only [List.getD, List.getElem?_take]
  rw [if_pos hi]
/-- a closure's cell: the tasks -/
def TB (w : World) (B n : Nat) (z : Nat → Nat → Int) : Prop := ∃ v, w.heap[B]? = some (.cells #[v] 22 (0, 0)) ∧ TK w v n z
theorem TB.below {w w' : World} {B n : Nat} {z : Nat → Nat → Int} (h : TB w B n z) (q : Below w.heap.size w w') : TB w' B n z := by
  obtain ⟨v, h1, h2⟩ := h
  exact ⟨v, (q.block B (Array.getElem?_eq_some_iff.1 h1).1).trans h1, h2.below q⟩
theorem clo_any {w : World} {B n : Nat} {z : Nat → Nat → Int} (h : TB w B n z) (hnm : n ≤ 1000000) (r : Int) : Calls Try.prog 44 #[.int .i64 r, .pointer (some ⟨B, 0, none⟩)] w (YI (ceil n (dl z) (lo z) r) w) := by
  obtain ⟨v, h1, h2⟩ := h
  have c0 := cell_of_row _ _ 0 _ _ _ h1
  have HL := Lib.hid (ceil_any h2 hnm r)
  obtain ⟨a, cap, rfl, hn1, hn2⟩ := h2.slice
  clear h1 h2
  go_enter Try.func44, Try.ntmps44
  go_wp2_with fail
  refine HL.out.mono ?_
  rintro e w2 ⟨rfl, hb⟩
  go_wp2_with fail
  go_ret
  exact ⟨rfl, hb⟩
set_option maxHeartbeats 1000000 in
theorem highest_any {w : World} {x : Value} {rs : List Int} {B n : Nat} {z : Nat → Nat → Int} (hx : IS w x rs) (h : TB w B n z) (hnm : n ≤ 1000000) :
    Calls Try.prog 43 #[x, .func (.func 44) #[] #[.pointer (some ⟨B, 0, none⟩)]] w (YI (hi (ceil n (dl z) (lo z)) rs rs.length) w) := by
  obtain ⟨a, cap, rfl, hn1, hn2⟩ := hx.slice
  have HP := Lib.hid h; have HX := Lib.hid hx
  clear h hx
  obtain ⟨m, hm⟩ : ∃ m, m = rs.length := ⟨_, rfl⟩
  rw [← hm] at hn1 HX ⊢
  have hmx : m ≤ 9223372036854775807 := by unfold maxLen at hn2; omega
  clear hm
  obtain ⟨c, hc⟩ : ∃ c, c = ceil n (dl z) (lo z) := ⟨_, rfl⟩
  have HC := Lib.hid hc
  rw [← hc]
  clear hc
  go_enter Try.func43, Try.ntmps43
  go_wp2_with fail
  go_loopw [5, 7, 10] (fun s _ i wr => ∃ (k : Nat) (q : Int), k ≤ m ∧ i = .int .i64 k ∧ s = .int .i64 q ∧ Hid (q = hi c rs k) ∧ Hid (Below w.heap.size w wr)) (fun _ _ i _ => m - (intOf i).toNat)
  case atStart => exact ⟨0, 0, by omega, rfl, rfl, rfl, Below.refl _ _⟩
  case round =>
    obtain ⟨k, q, hk, rfl, rfl, HQ, HB⟩ := hrel
    by_cases hlt : k < m
    · obtain ⟨b, off, rfl, c0⟩ := (HX.out.below HB.out).at hlt
      have HL := Lib.hid (clo_any (HP.out.below HB.out) hnm (rs.getD k 0))
      rw [← HC.out] at HL
      have HN : Hid ((if q < c (rs.getD k 0) then c (rs.getD k 0) else q) = hi c rs (k + 1)) := by unfold Hid; rw [← max_if, HQ.out]; rfl
      generalize c (rs.getD k 0) = l at *
      generalize rs.getD k 0 = r at *
      go_wp2_with fail
      refine HL.out.mono ?_
      rintro e w2 ⟨rfl, hb⟩
      go_wp2_with fail
      go_roundw
      case rel => exact ⟨k + 1, _, by omega, by go_num, rfl, HN, chn HB.out hb⟩
      case measure => simp [intOf]; omega
    · obtain rfl : k = m := by omega
      go_wp2_with fail
      go_ret
      exact ⟨by rw [HQ.out]; rfl, HB.out⟩
theorem high_any {w : World} {v x : Value} {rs : List Int} {n : Nat} {z : Nat → Nat → Int} (h : TK w v n z) (hx : IS w x rs) (hnm : n ≤ 1000000) : Calls Try.prog 24 #[v, x] w (YI (hi (ceil n (dl z) (lo z)) rs rs.length) w) := by
  obtain ⟨a, cap, rfl, hn1, hn2⟩ := h.slice
  have hA := (Below.refl _ w).alloc (Nat.le_refl _) (.cells #[.slice a n cap] 22)
  have HL := Lib.hid (highest_any (hx.below hA) (B := w.heap.size) ⟨_, heap_alloc_new w (.cells #[.slice a n cap] 22), h.below hA⟩ hnm)
  have HA := Lib.hid hA
  clear h hA hx
  go_enter Try.func24, Try.ntmps24
  go_wp2_with fail
  refine HL.out.mono ?_
  rintro e w2 ⟨rfl, hb⟩
  go_wp2_with fail
  go_ret
  exact ⟨rfl, HA.out.trans (hb.mono (by simp))⟩
end Go.Proofs.Ytmheggedlepdlaa
