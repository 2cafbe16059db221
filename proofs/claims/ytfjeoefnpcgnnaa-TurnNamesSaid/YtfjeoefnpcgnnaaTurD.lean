/- Rows of the document's purses; who runs, of them. -/
import Derived.Test.YtfjeoefnpcgnnaaTurN
import Derived.Test.YtfjeoefnpcgnnaaTurP
namespace Go.Proofs.Ytfjeoefnpcgnnaa.Pw
open Go.RowKit Go.Sort Pu
set_option linter.unusedVariables false
set_option maxRecDepth 100000

/-- what a purse that may be none has left, and when its period ends -/
def lf (s : Nat → Option St) (i : Nat) : Nat := match s i with | none => 0 | some x => if x.ov = true then 0 else x.n.toNat
def ef (s : Nat → Option St) (i : Nat) : Nat := match s i with | none => 0 | some x => x.e.toNat
theorem lf_none {s : Nat → Option St} {i : Nat} (h : s i = none) : lf s i = 0 := by unfold lf; rw [h]
theorem lf_some {s : Nat → Option St} {i : Nat} {x : St} (h : s i = some x) : lf s i = if x.ov = true then 0 else x.n.toNat := by unfold lf; rw [h]
theorem ef_some {s : Nat → Option St} {i : Nat} {x : St} (h : s i = some x) : ef s i = x.e.toNat := by unfold ef; rw [h]
/-- who runs, of the first j -/
def who (s : Nat → Option St) (j : Nat) : Int := Tu.near (lf s) (ef s) j
/-- numbers that purses may have -/
def OkS (m : Nat) (s : Nat → Option St) : Prop := ∀ i x, i < m → s i = some x → 0 ≤ x.n ∧ 0 ≤ x.e ∧ (x.ov = true → x.n = 0)
theorem who_succ (s : Nat → Option St) (j : Nat) : who s (j + 1) = if 0 < lf s j ∧ (who s j < 0 ∨ ef s j < ef s (who s j).toNat) then (j : Int) else who s j := rfl
theorem who_keep {s : Nat → Option St} {j : Nat} (h : lf s j = 0) : who s (j + 1) = who s j := by rw [who_succ, if_neg (by rintro ⟨x, _⟩; omega)]
theorem who_first {s : Nat → Option St} {j : Nat} (h : 0 < lf s j) (h2 : who s j < 0) : who s (j + 1) = j := by rw [who_succ, if_pos ⟨h, Or.inl h2⟩]
theorem who_ahead {s : Nat → Option St} {j k : Nat} (h : 0 < lf s j) (hk : who s j = k) (h2 : ef s j < ef s k) : who s (j + 1) = j := by rw [who_succ, if_pos ⟨h, Or.inr (by rw [hk]; exact h2)⟩]
theorem who_behind {s : Nat → Option St} {j k : Nat} (hk : who s j = k) (h2 : ef s k ≤ ef s j) : who s (j + 1) = who s j := by
  rw [who_succ, if_neg]
  rintro ⟨_, y | y⟩
  · omega
  · rw [hk, Int.toNat_natCast] at y; omega
theorem who_cases (s : Nat → Option St) (j : Nat) : who s j = -1 ∨ ∃ (k : Nat) (x : St), who s j = k ∧ k < j ∧ s k = some x ∧ x.ov = false := by
  rcases Tu.near_cases (lf s) (ef s) j with ⟨h, _⟩ | ⟨k, h, h1, h2, _⟩
  · exact Or.inl h
  · refine Or.inr ⟨k, ?_⟩
    cases hs : s k with
    | none => rw [lf_none hs] at h2; omega
    | some x =>
      refine ⟨x, h, h1, rfl, ?_⟩
      rw [lf_some hs] at h2
      cases hx : x.ov with
      | false => rfl
      | true => rw [if_pos hx] at h2; omega
/-- what may be asked of a kind of purses in memory: PD; T: the type of pointers to them -/
structure PK (PD : World → Nat → St → Prop) (T : TypeId) : Prop where
  lt : ∀ {w b s}, PD w b s → b < w.heap.size
  below : ∀ {w w' b s}, PD w b s → Below w.heap.size w w' → PD w' b s
  other : ∀ {w w' b c s s2}, PD w b s → PD w c s2 → b ≠ c → Only c w w' → PD w' b s
  ne : ∀ {w b s g cur T' fr}, PD w b s → w.heap[g]? = some (.cells cur T' fr) → T' = T ∨ T' = 3 → b ≠ g
  off : ∀ {w w' b s g cur T' fr}, PD w b s → w.heap[g]? = some (.cells cur T' fr) → T' = T ∨ T' = 3 → Only g w w' → PD w' b s
theorem pk_doc : PK DP 39 where
  lt h := h.lt
  below h q := h.keep (q.block _ h.lt)
  other h _ hne o := (o.block _ h.lt hne).trans h
  ne h hg ht := by rintro rfl; have := h.symm.trans hg; simp at this; rcases ht with e | e <;> rw [e] at this <;> exact absurd this.2.1 (by decide)
  off h hg ht o := (o.block _ h.lt (by rintro rfl; have := h.symm.trans hg; simp at this; rcases ht with e | e <;> rw [e] at this <;> exact absurd this.2.1 (by decide))).trans h
/-- one place of a row of purses -/
def DC (PD : World → Nat → St → Prop) (w : World) (g o : Nat) (s : Option St) : Prop := match s with
  | none => w.cell? ⟨g, o, none⟩ = some (.pointer none)
  | some x => ∃ c, w.cell? ⟨g, o, none⟩ = some (.pointer (some ⟨c, 0, none⟩)) ∧ PD w c x
section
variable {PD : World → Nat → St → Prop} {T : TypeId}
theorem DC.below (K : PK PD T) {w w' : World} {g o : Nat} {s : Option St} (h : DC PD w g o s) (q : Below w.heap.size w w') : DC PD w' g o s := by
  cases s with
  | none => exact (q.cell (lt_of_cell (p := ⟨g, o, none⟩) h)).trans h
  | some x => obtain ⟨c, h1, h2⟩ := h; exact ⟨c, (q.cell (lt_of_cell h1)).trans h1, K.below h2 q⟩
/-- a row of purses that can be read -/
def DW (PD : World → Nat → St → Prop) (w : World) (v : Value) (m : Nat) (s : Nat → Option St) : Prop :=
  ∃ a cap, v = .slice a m cap ∧ m ≤ cap ∧ cap ≤ maxLen ∧ (0 < m → ∃ g off, a = some ⟨g, off, none⟩ ∧ ∀ i, i < m → DC PD w g (off + i) (s i))
theorem DW.slice {w : World} {v : Value} {m : Nat} {s : Nat → Option St} (h : DW PD w v m s) : ∃ a cap, v = .slice a m cap ∧ m ≤ cap ∧ cap ≤ maxLen := by obtain ⟨a, cap, h1, h2, h3, _⟩ := h; exact ⟨a, cap, h1, h2, h3⟩
theorem DW.below (K : PK PD T) {w w' : World} {v : Value} {m : Nat} {s : Nat → Option St} (h : DW PD w v m s) (q : Below w.heap.size w w') : DW PD w' v m s := by
  obtain ⟨a, cap, h1, h2, h3, h4⟩ := h
  exact ⟨a, cap, h1, h2, h3, fun hm => by obtain ⟨g, off, e, hc⟩ := h4 hm; exact ⟨g, off, e, fun i hi => (hc i hi).below K q⟩⟩
theorem DW.at {w : World} {n cap m : Nat} {a : Option Addr} {s : Nat → Option St} (h : DW PD w (.slice a n cap) m s) : n = m ∧ (0 < m → ∃ g off, a = some ⟨g, off, none⟩ ∧ ∀ i, i < m → DC PD w g (off + i) (s i)) := by
  obtain ⟨a', cap', e, h1, h2, h4⟩ := h
  obtain ⟨rfl, rfl, rfl⟩ : a = a' ∧ n = m ∧ cap = cap' := by simpa using e
  exact ⟨rfl, h4⟩
theorem DC.no {w : World} {g o : Nat} {s : Nat → Option St} {i : Nat} (h : DC PD w g o (s i)) (e : s i = none) : w.cell? ⟨g, o, none⟩ = some (.pointer none) := by rw [e] at h; exact h
theorem DC.yes {w : World} {g o : Nat} {s : Nat → Option St} {i : Nat} {x : St} (h : DC PD w g o (s i)) (e : s i = some x) : ∃ c, w.cell? ⟨g, o, none⟩ = some (.pointer (some ⟨c, 0, none⟩)) ∧ PD w c x := by rw [e] at h; exact h
end
/-- who runs is answered -/
def WhoP (k : Int) (w : World) (E : Ending) (w' : World) : Prop := E = .returned (.tuple #[.int .i64 (if k < 0 then 0 else k), .bool (decide (0 ≤ k))]) ∧ Below w.heap.size w w'
set_option maxHeartbeats 4000000 in
theorem rwho_any {w : World} {v : Value} {m : Nat} {s : Nat → Option St} (h : DW DP w v m s) (ok : OkS m s) : Calls Try.prog 19 #[v] w (WhoP (who s (min m 4)) w) := by
  obtain ⟨a, cap, rfl, hn1, hn2⟩ := h.slice
  have hmx : m ≤ 9223372036854775807 := by unfold maxLen at hn2; omega
  have HD := Lib.hid h
  clear h hn1 hn2
  go_enter Try.func19, Try.ntmps19
  go_wp2_with fail
  go_loopw [4, 5] (fun f i wr => ∃ (j : Nat) (K : Int), j ≤ m ∧ j ≤ 4 ∧ i = .int .i64 j ∧ f = .int .i64 K ∧ Hid (K = who s j) ∧ Hid (Below w.heap.size w wr)) (fun _ i _ => 4 - (intOf i).toNat)
  case atStart => exact ⟨0, -1, Nat.zero_le _, by decide, rfl, rfl, rfl, Below.refl _ _⟩
  case round =>
    obtain ⟨j, K, hjm, hj4, rfl, rfl, HK, HB⟩ := hrel
    by_cases hj : j < m
    · by_cases hj2 : j < 4
      · have hd : decide ((j : Int) < 4) = true := by simp; omega
        have hjI : (j : Int) < (m : Int) := by omega
        have hj0 : (0 : Int) ≤ j := by omega
        obtain ⟨_, hat⟩ := (HD.out.below pk_doc HB.out).at
        obtain ⟨g, off, rfl, hc⟩ := hat (by omega)
        have hcj := hc j hj
        cases hs : s j with
        | none =>
          have c0 := hcj.no hs
          have HN := Lib.hid (who_keep (lf_none hs))
          clear hs hcj hc
          go_wp2_with fail
          go_quiet (fail)
          go_wp2_with fail
          go_roundw
          case rel => exact ⟨j + 1, K, by omega, by omega, by go_num, rfl, HK.out.trans HN.out.symm, below_drewN HB.out _⟩
          case measure => simp [intOf]; omega
        | some x =>
          obtain ⟨c, c0, hp⟩ := hcj.yes hs
          obtain ⟨ok1, ok2, _⟩ := ok j x hj hs
          have p7 := hp.c7
          have p2 := hp.c2
          have p3 := hp.c3
          cases hov : x.ov with
          | true =>
            rw [hov] at p7
            have HN := Lib.hid (who_keep (s := s) (j := j) (by rw [lf_some hs, if_pos hov]))
            clear hs hcj hc hp
            go_wp2_with fail
            go_quiet (fail)
            go_wp2_with fail
            go_roundw
            case rel => exact ⟨j + 1, K, by omega, by omega, by go_num, rfl, HK.out.trans HN.out.symm, below_drewN HB.out _⟩
            case measure => simp [intOf]; omega
          | false =>
            rw [hov] at p7
            have hlf : lf s j = x.n.toNat := by rw [lf_some hs, if_neg (by rw [hov]; decide)]
            by_cases hn : x.n = 0
            · have HN := Lib.hid (who_keep (s := s) (j := j) (by omega))
              have dn : decide (0 < x.n) = false := by simp; omega
              clear hs hcj hc hp hn
              go_wp2_with fail
              go_quiet (fail)
              go_wp2_with fail
              go_roundw
              case rel => exact ⟨j + 1, K, by omega, by omega, by go_num, rfl, HK.out.trans HN.out.symm, below_drewN HB.out _⟩
              case measure => simp [intOf]; omega
            · have dn : decide (0 < x.n) = true := by simp; omega
              have hlp : 0 < lf s j := by omega
              rcases who_cases s j with hw | ⟨k, y, hw, hkj, hsk, _⟩
              · obtain rfl : K = -1 := HK.out.trans hw
                have HN := Lib.hid (who_first hlp (by omega))
                clear hs hcj hc hp hn hw
                go_wp2_with fail
                go_quiet (fail)
                go_wp2_with fail
                go_roundw
                case rel => exact ⟨j + 1, j, by omega, by omega, by go_num, rfl, HN.out.symm, below_drewN HB.out _⟩
                case measure => simp [intOf]; omega
              · obtain rfl : K = k := HK.out.trans hw
                obtain ⟨c', c0', hp'⟩ := (hc k (by omega)).yes hsk
                obtain ⟨ok3, ok4, _⟩ := ok k y (by omega) hsk
                have p3' := hp'.c3
                have dk : decide ((k : Int) < 0) = false := decide_eq_false (by omega)
                have hkI : (k : Int) < (m : Int) := by omega
                have hk0 : (0 : Int) ≤ k := by omega
                by_cases he : x.e < y.e
                · have de : decide (x.e < y.e) = true := by simpa using he
                  have HN := Lib.hid (who_ahead hlp hw (by rw [ef_some hs, ef_some hsk]; omega))
                  clear hs hcj hc hp hn hw hp' hsk
                  go_wp2_with fail
                  go_quiet (fail)
                  go_wp2_with fail
                  go_roundw
                  case rel => exact ⟨j + 1, j, by omega, by omega, by go_num, rfl, HN.out.symm, below_drewN HB.out _⟩
                  case measure => simp [intOf]; omega
                · have de : decide (x.e < y.e) = false := by simp; omega
                  have HN := Lib.hid (who_behind (s := s) (j := j) hw (by rw [ef_some hs, ef_some hsk]; omega))
                  clear hs hcj hc hp hn hw hp' hsk
                  go_wp2_with fail
                  go_quiet (fail)
                  go_wp2_with fail
                  go_roundw
                  case rel => exact ⟨j + 1, k, by omega, by omega, by go_num, rfl, HK.out.trans HN.out.symm, below_drewN HB.out _⟩
                  case measure => simp [intOf]; omega
      · have hd : decide ((j : Int) < 4) = false := by simp; omega
        have hjI : (j : Int) < (m : Int) := by omega
        have HW : Hid (who s (min m 4) = K) := by rw [Hid, HK.out, show min m 4 = j by omega]
        clear HK
        by_cases hK : K < 0
        · have hK2 : decide (0 ≤ K) = false := by simp; omega
          have hF : Hid (WhoP (who s (min m 4)) w (.returned (.tuple #[.int .i64 0, .bool false])) wr) := ⟨by rw [HW.out, if_pos hK, hK2], HB.out⟩
          clear HW HB
          go_wp2_with fail
          all_goals first | omega | (go_ret2; exact hF.out)
        · have hK2 : decide (0 ≤ K) = true := by simp; omega
          have hF : Hid (WhoP (who s (min m 4)) w (.returned (.tuple #[.int .i64 K, .bool true])) wr) := ⟨by rw [HW.out, if_neg hK, hK2], HB.out⟩
          clear HW HB
          go_wp2_with fail
          all_goals first | omega | (go_ret2; exact hF.out)
    · obtain rfl : j = m := by omega
      have HW : Hid (who s (min j 4) = K) := by rw [Hid, HK.out, show min j 4 = j by omega]
      clear HK
      by_cases hK : K < 0
      · have hK2 : decide (0 ≤ K) = false := by simp; omega
        have hF : Hid (WhoP (who s (min j 4)) w (.returned (.tuple #[.int .i64 0, .bool false])) wr) := ⟨by rw [HW.out, if_pos hK, hK2], HB.out⟩
        clear HW HB
        go_wp2_with fail
        all_goals first | omega | (go_ret2; first | exact hF.out | (have hf := hF.out; rw [show min j 4 = j by omega] at hf; exact hf))
      · have hK2 : decide (0 ≤ K) = true := by simp; omega
        have hF : Hid (WhoP (who s (min j 4)) w (.returned (.tuple #[.int .i64 K, .bool true])) wr) := ⟨by rw [HW.out, if_neg hK, hK2], HB.out⟩
        clear HW HB
        go_wp2_with fail
        all_goals first | omega | (go_ret2; first | exact hF.out | (have hf := hF.out; rw [show min j 4 = j by omega] at hf; exact hf))
end Go.Proofs.Ytfjeoefnpcgnnaa.Pw
