/- LevelCeilings. -/
import Derived.Test.YtcanghpimfdedaaLevE
namespace Go.Proofs.Ytcanghpimfdedaa
open Go.RowKit Lv
set_option linter.unusedVariables false

/-- has one of the first k that u tells the level c? -/
def mt (n : Nat) (D : Nat → Int) (u : Nat → Bool) (c : Int) : Nat → Bool
  | 0 => c == 0
  | k + 1 => if u k then mt n D u c k || (lev n D k == c) else mt n D u c k
theorem mt_up {n : Nat} {D : Nat → Int} {u : Nat → Bool} {c : Int} {j : Nat} (h : mt n D u c j = true) : ∀ {k : Nat}, j ≤ k → mt n D u c k = true
  | 0, hk => by obtain rfl : j = 0 := by omega
                exact h
  | k + 1, hk => by
    by_cases e : j = k + 1
    · subst e; exact h
    · have := mt_up h (k := k) (by omega)
      unfold mt
      rw [this]
      split <;> rfl
theorem mt_all (n : Nat) (D : Nat → Int) (u : Nat → Bool) : mt n D u (ce n D u n) n = true := by
  rcases fs_ce (n := n) (D := D) (u := u) (Nat.le_refl n) with ⟨_, h2, _⟩ | ⟨f, _, h2, h3, _, h5⟩
  · exact mt_up (j := 0) (by rw [h2]; rfl) (by omega)
  · refine mt_up (j := f + 1) ?_ (by omega)
    unfold mt
    rw [h3, if_pos rfl, lev_at h2, h5]
    simp
theorem ce_ge {n : Nat} {D : Nat → Int} {u : Nat → Bool} {j : Nat} (hu : u j = true) : ∀ {k : Nat}, j < k → lev n D j ≤ ce n D u k
  | k + 1, hk => by
    unfold ce
    by_cases e : j = k
    · subst e; rw [if_pos hu]; omega
    · have := ce_ge (n := n) (D := D) hu (k := k) (by omega)
      split <;> omega
theorem hi_one {c : Int → Int} {r : Int} (h : 0 ≤ c r) : hi c [r] ([r] : List Int).length = c r := by
  show max 0 (c r) = c r
  omega
theorem hi_two {c : Int → Int} {r : Int} (h : 0 ≤ c r) : hi c [r, r] ([r, r] : List Int).length = c r := by
  show max (max 0 (c r)) (c r) = c r
  omega
set_option maxHeartbeats 2000000 in
theorem ceils_any {w : World} {v : Value} {n : Nat} {z : Nat → Nat → Int} (h : TK w v n z) (resource : Int) : Calls Try.prog 6 #[v, .int .i64 resource] w (TrueB w) := by
  obtain ⟨a, cap, rfl, hn1, hn2⟩ := h.slice
  obtain ⟨m, hm⟩ : ∃ m : Nat, m = min n 50 := ⟨_, rfl⟩
  have hmin : (if (50 : Int) < (n : Int) then 50 else (n : Int)) = (m : Int) := by split <;> omega
  have HT := Lib.hid (TK.take h (j := m) (by omega))
  have hmc : m ≤ cap := by omega
  have hm5 : m ≤ 1000000 := by omega
  clear hm h
  obtain ⟨r, hr, hr8⟩ := bring_nat resource (n := 8) (by decide)
  have HR : Hid (bring resource 8 = (r : Int)) := hr
  obtain ⟨u, hu⟩ : ∃ u : Nat → Bool, u = fun i : Nat => us m (lo z) r (i : Int) := ⟨_, rfl⟩
  have HU : Hid (∀ i : Nat, us m (lo z) r i = u i) := fun i => by rw [hu]
  obtain ⟨c, hc⟩ : ∃ c, ceil m (dl z) (lo z) r = c := ⟨_, rfl⟩
  have hce : c = ce m (dl z) u m := by rw [← hc, hu]; rfl
  have hc0 := (ceil_range m (dl z) (lo z) r).1
  have HC := Lib.hid hc
  have HGE : Hid (∀ k : Nat, k < m → u k = true → lev m (dl z) k ≤ c) := fun k hk hk2 => by rw [hce]; exact ce_ge hk2 hk
  have HMT : Hid (mt m (dl z) u c m = true) := by rw [hce]; exact mt_all _ _ _
  have HH1 := Lib.hid (hi_one (c := ceil m (dl z) (lo z)) (r := r) hc0)
  have HH2 := Lib.hid (hi_two (c := ceil m (dl z) (lo z)) (r := r) hc0)
  rw [hc] at HH1 HH2
  clear hu hc hce hr hc0
  go_enter Try.func6, Try.ntmps6
  go_wp2_with fail
  refine (bring_any resource 8 _ (by decide) (by decide)).mono ?_
  rintro e w0 ⟨rfl, rfl⟩
  rw [HR.out]
  go_wp2_with fail
  refine (ceil_fit HC.out HT.out hm5).mono ?_
  rintro e w1 ⟨rfl, hb⟩
  have HT1 := Lib.hid (HT.out.below hb); have HB1 := Lib.hid hb
  clear hb HT
  go_wp2_with fail
  go_loopw [7, 8, 9] (fun s i _ wr => ∃ (k : Nat) (q : Bool), k ≤ m ∧ i = .int .i64 k ∧ s = .bool q ∧ Hid (q = mt m (dl z) u c k) ∧ Hid (Below w1.heap.size w1 wr)) (fun _ i _ _ => m - (intOf i).toNat)
  case atStart => exact ⟨0, _, by omega, rfl, rfl, rfl, Below.refl _ _⟩
  case round =>
    obtain ⟨k, q, hk, rfl, rfl, HQ, HB⟩ := hrel
    by_cases hlt : k < m
    · have HTr := Lib.hid (HT1.out.below HB.out)
      have HS : Hid (mt m (dl z) u c (k + 1) = if u k then q || (lev m (dl z) k == c) else q) := by unfold Hid; rw [HQ.out]; rfl
      have HX := Lib.hid (uses_any HTr.out k r)
      rw [HU.out k] at HX
      cases hu : u k with
      | false =>
        rw [hu] at HX
        have HN : Hid (q = mt m (dl z) u c (k + 1)) := by rw [HS.out, hu]; rfl
        clear HS hu
        go_wp2_with fail
        refine HX.out.mono ?_
        rintro e w2 ⟨rfl, rfl⟩
        go_wp2_with fail
        go_roundw
        case rel => exact ⟨k + 1, q, by omega, by go_num, rfl, HN, HB⟩
        case measure => simp [intOf]; omega
      | true =>
        rw [hu] at HX
        have hle := HGE.out k hlt hu
        have HL := Lib.hid (level_any HTr.out hm5 k)
        rw [hu, if_pos rfl] at HS
        generalize lev m (dl z) k = l at *
        have hd : decide (c < l) = false := by simp; omega
        clear hu hle
        cases q with
        | true =>
          have HN : Hid (true = mt m (dl z) u c (k + 1)) := by rw [HS.out]; rfl
          clear HS
          go_wp2_with fail
          refine HX.out.mono ?_
          rintro e w2 ⟨rfl, rfl⟩
          go_wp2_with fail
          refine HL.out.mono ?_
          rintro e w2 ⟨rfl, hb⟩
          go_wp2_with fail
          go_roundw
          case rel => exact ⟨k + 1, true, by omega, by go_num, rfl, HN, chn HB.out hb⟩
          case measure => simp [intOf]; omega
        | false =>
          obtain ⟨t, ht⟩ : ∃ t, (l == c) = t := ⟨_, rfl⟩
          have HN : Hid (t = mt m (dl z) u c (k + 1)) := by rw [HS.out, ht]; rfl
          clear HS
          go_wp2_with fail
          refine HX.out.mono ?_
          rintro e w2 ⟨rfl, rfl⟩
          go_wp2_with fail
          refine HL.out.mono ?_
          rintro e w2 ⟨rfl, hb⟩
          go_wp2_with fail
          go_roundw
          case rel => exact ⟨k + 1, t, by omega, by go_num, rfl, HN, chn HB.out hb⟩
          case measure => simp [intOf]; omega
    · obtain rfl : k = m := by omega
      obtain rfl : q = true := HQ.out.trans HMT.out
      have HTr := Lib.hid (HT1.out.below HB.out)
      have HI := Lib.hid (lit_is wr [(r : Int)] (by unfold maxLen; simp only [List.length_cons, List.length_nil]; decide))
      have hA := (Below.refl _ wr).alloc (Nat.le_refl _) (.cells #[.int .i64 r] 3)
      have HTA := Lib.hid (HTr.out.below hA)
      have HH := Lib.hid (high_any HTA.out HI.out hm5)
      rw [HH1.out] at HH
      have HBA := Lib.hid (chn HB.out hA)
      clear hA HTr HQ
      go_wp2_with fail
      refine HH.out.mono ?_
      rintro e w3 ⟨rfl, hb⟩
      have HT3 := Lib.hid (HTA.out.below hb); have HB3 := Lib.hid (chn HBA.out hb)
      clear hb HTA HBA HI HH
      have HI := Lib.hid (lit_is w3 [(r : Int), (r : Int)] (by unfold maxLen; simp only [List.length_cons, List.length_nil]; decide))
      have hA := (Below.refl _ w3).alloc (Nat.le_refl _) (.cells #[.int .i64 r, .int .i64 r] 3)
      have HTA := Lib.hid (HT3.out.below hA)
      have HH := Lib.hid (high_any HTA.out HI.out hm5)
      rw [HH2.out] at HH
      have HBA := Lib.hid (chn HB3.out hA)
      clear hA HT3 HB3
      go_wp2_with fail
      refine HH.out.mono ?_
      rintro e w4 ⟨rfl, hb⟩
      have HT4 := Lib.hid (HTA.out.below hb); have HB4 := Lib.hid (chn HBA.out hb)
      clear hb HTA HBA HI HH
      have HH := Lib.hid (high_any HT4.out (IS.nil w4) hm5)
      rw [show hi (ceil k (dl z) (lo z)) [] ([] : List Int).length = 0 from rfl] at HH
      go_wp2_with fail
      refine HH.out.mono ?_
      rintro e w5 ⟨rfl, hb⟩
      have HB5 := Lib.hid (chn HB1.out (chn HB4.out hb))
      clear hb HH HB4
      go_wp2_with fail
      refine (works_any w5).mono ?_
      rintro e w6 ⟨rfl, hb⟩
      have HB6 := Lib.hid (chn HB5.out hb)
      clear hb HB5
      go_wp2_with fail
      go_ret
      exact ⟨rfl, HB6.out⟩
end Go.Proofs.Ytcanghpimfdedaa
