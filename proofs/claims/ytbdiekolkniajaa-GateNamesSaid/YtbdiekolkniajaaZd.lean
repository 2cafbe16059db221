/- Tasks and numbers in memory; whether they may be asked, the program's and the document's. -/
import Derived.Test.YtbdiekolkniajaaZp
import Derived.Test.YtbdiekolkniajaaZw
import Derived.WalkLawsBesides
import Derived.Lib.Hide
import Derived.Deep.QuietTactic
import Derived.BigQuiet
import Derived.Below
import Derived.OneCell
import Derived.RegionTactic
import Derived.StillTailTactics
import Derived.WalkMore
namespace Go.Proofs.Ytbdiekolkniajaa
open Go.RowKit Tk De
set_option linter.unusedVariables false

/-- tasks that can be read -/
def TK (w : World) (v : Value) (n : Nat) (z : Nat → Nat → Int) : Prop :=
  ∃ a cap, v = .slice a n cap ∧ n ≤ cap ∧ cap ≤ maxLen ∧ (a = none → cap = 0) ∧
    (0 < n → ∃ b off, a = some ⟨b, off, none⟩ ∧ ∀ i, i < n → ∀ j, j < 8 → w.cell? ⟨b, off + i * 8 + j, none⟩ = some (.int .i64 (z i j)))
/-- the eight cells of a task -/
structure TC (w : World) (b o : Nat) (t : Nat → Int) : Prop where
  c0 : w.cell? ⟨b, o, none⟩ = some (.int .i64 (t 0))
  c1 : w.cell? ⟨b, o + 1, none⟩ = some (.int .i64 (t 1))
  c2 : w.cell? ⟨b, o + 2, none⟩ = some (.int .i64 (t 2))
  c3 : w.cell? ⟨b, o + 3, none⟩ = some (.int .i64 (t 3))
  c4 : w.cell? ⟨b, o + 4, none⟩ = some (.int .i64 (t 4))
  c5 : w.cell? ⟨b, o + 5, none⟩ = some (.int .i64 (t 5))
  c6 : w.cell? ⟨b, o + 6, none⟩ = some (.int .i64 (t 6))
  c7 : w.cell? ⟨b, o + 7, none⟩ = some (.int .i64 (t 7))
theorem TK.at {w : World} {n cap : Nat} {a : Option Addr} {m : Nat} {z : Nat → Nat → Int} (h : TK w (.slice a n cap) m z) {i : Nat} (hi : i < n) : ∃ b off, a = some ⟨b, off, none⟩ ∧ TC w b (off + i * 8) (z i) := by
  obtain ⟨a', cap', e, h1, h2, h3, h4⟩ := h
  obtain ⟨rfl, rfl, rfl⟩ : a = a' ∧ n = m ∧ cap = cap' := by simpa using e
  obtain ⟨b, off, rfl, hc⟩ := h4 (by omega)
  exact ⟨b, off, rfl, hc i hi 0 (by decide), hc i hi 1 (by decide), hc i hi 2 (by decide), hc i hi 3 (by decide), hc i hi 4 (by decide), hc i hi 5 (by decide), hc i hi 6 (by decide), hc i hi 7 (by decide)⟩
/-- two of them lie in one block -/
theorem TK.at2 {w : World} {n cap : Nat} {a : Option Addr} {m : Nat} {z : Nat → Nat → Int} (h : TK w (.slice a n cap) m z) {i j : Nat} (hi : i < n) (hj : j < n) : ∃ b off, a = some ⟨b, off, none⟩ ∧ TC w b (off + i * 8) (z i) ∧ TC w b (off + j * 8) (z j) := by
  obtain ⟨b, off, rfl, h1⟩ := h.at hi
  obtain ⟨b', off', e, h2⟩ := h.at hj
  injection e with e
  injection e with e1 e2 _
  subst e1; subst e2
  exact ⟨b, off, rfl, h1, h2⟩
theorem TK.slice {w : World} {v : Value} {n : Nat} {z : Nat → Nat → Int} (h : TK w v n z) : ∃ a cap, v = .slice a n cap ∧ n ≤ cap ∧ cap ≤ maxLen := by obtain ⟨a, cap, h1, h2, h3, _⟩ := h; exact ⟨a, cap, h1, h2, h3⟩
theorem TK.below {w w' : World} {v : Value} {n : Nat} {z : Nat → Nat → Int} (h : TK w v n z) (q : Below w.heap.size w w') : TK w' v n z := by
  obtain ⟨a, cap, h1, h2, h3, h4, h5⟩ := h
  exact ⟨a, cap, h1, h2, h3, h4, fun hn => by obtain ⟨b, off, e, hc⟩ := h5 hn; exact ⟨b, off, e, fun i hi j hj => (q.cell (World.block_lt_of_cell? _ _ (hc i hi j hj))).trans (hc i hi j hj)⟩⟩
theorem TK.nil (w : World) (z : Nat → Nat → Int) : TK w (.slice none 0 0) 0 z := ⟨none, 0, rfl, Nat.le_refl _, Nat.zero_le _, fun _ => rfl, fun h => by cases h⟩
theorem TK.take {w : World} {a : Option Addr} {n cap m : Nat} {z : Nat → Nat → Int} (h : TK w (.slice a n cap) m z) {j : Nat} (hj : j ≤ n) : TK w (.slice a j cap) j z := by
  obtain ⟨a', cap', e, h1, h2, h3, h4⟩ := h
  obtain ⟨rfl, rfl, rfl⟩ : a = a' ∧ n = m ∧ cap = cap' := by simpa using e
  refine ⟨_, _, rfl, by omega, h2, h3, fun hp => ?_⟩
  obtain ⟨b, off, rfl, hc⟩ := h4 (by omega)
  exact ⟨b, off, rfl, fun i hi k hk => hc i (by omega) k hk⟩
/-- a task that the call has copied -/
def tko (t : Nat → Int) : Obj := .cells #[.int .i64 (t 0), .int .i64 (t 1), .int .i64 (t 2), .int .i64 (t 3), .int .i64 (t 4), .int .i64 (t 5), .int .i64 (t 6), .int .i64 (t 7)] 40
theorem tko_new (w : World) (t : Nat → Int) : (w.alloc (tko t)).cell? ⟨w.heap.size, 1, none⟩ = some (.int .i64 (t 1)) := cell_of_row _ _ 1 _ _ _ (heap_alloc_new w (tko t))
theorem tko_old {w : World} {p : Addr} {x : Value} (t : Nat → Int) (h : w.cell? p = some x) : (w.alloc (tko t)).cell? p = some x := (((Below.refl _ w).alloc (Nat.le_refl _) _).cell (World.block_lt_of_cell? _ _ h)).trans h
theorem below_drewN {B : Nat} {a b : World} (h : Below B a b) (n : Nat) : Below B a (b.drewN n) := ⟨h.os, h.tape, h.output, h.size, h.block⟩
/-- a bool, a number is answered; what was there is as it was -/
def YB (b : Bool) (w : World) (e : Ending) (w' : World) : Prop := e = .returned (.bool b) ∧ Below w.heap.size w w'
def YI (n : Int) (w : World) (e : Ending) (w' : World) : Prop := e = .returned (.int .i64 n) ∧ Below w.heap.size w w'
theorem chn {w w1 w2 : World} (h : Below w.heap.size w w1) (k : Below w1.heap.size w1 w2) : Below w.heap.size w w2 := h.trans (k.mono h.size)
/-- numbers that can be read -/
def IS (w : World) (v : Value) (xs : List Int) : Prop :=
  ∃ a cap, v = .slice a xs.length cap ∧ xs.length ≤ cap ∧ cap ≤ maxLen ∧ (a = none → cap = 0) ∧ (0 < xs.length → ∃ b off, a = some ⟨b, off, none⟩ ∧ ∀ i, i < xs.length → w.cell? ⟨b, off + i, none⟩ = some (.int .i64 (xs.getD i 0)))
theorem IS.nil (w : World) : IS w (.slice none 0 0) [] := ⟨none, 0, rfl, Nat.le_refl _, Nat.zero_le _, fun _ => rfl, fun h => by cases h⟩
theorem IS.slice {w : World} {v : Value} {xs : List Int} (h : IS w v xs) : ∃ a cap, v = .slice a xs.length cap ∧ xs.length ≤ cap ∧ cap ≤ maxLen := by obtain ⟨a, cap, h1, h2, h3, _⟩ := h; exact ⟨a, cap, h1, h2, h3⟩
theorem IS.below {w w' : World} {v : Value} {xs : List Int} (h : IS w v xs) (q : Below w.heap.size w w') : IS w' v xs := by
  obtain ⟨a, cap, h1, h2, h3, h4, h5⟩ := h
  exact ⟨a, cap, h1, h2, h3, h4, fun hn => by obtain ⟨b, off, e, hc⟩ := h5 hn; exact ⟨b, off, e, fun i hi => (q.cell (World.block_lt_of_cell? _ _ (hc i hi))).trans (hc i hi)⟩⟩
theorem IS.at {w : World} {n cap : Nat} {a : Option Addr} {xs : List Int} (h : IS w (.slice a n cap) xs) {i : Nat} (hi : i < n) : ∃ b off, a = some ⟨b, off, none⟩ ∧ w.cell? ⟨b, off + i, none⟩ = some (.int .i64 (xs.getD i 0)) := by
  obtain ⟨a', cap', e, h1, h2, h3, h4⟩ := h
  obtain ⟨rfl, rfl, rfl⟩ : a = a' ∧ n = xs.length ∧ cap = cap' := by simpa using e
  obtain ⟨b, off, rfl, hc⟩ := h4 (by omega)
  exact ⟨b, off, rfl, hc i hi⟩
theorem IS.take {w : World} {a : Option Addr} {n cap : Nat} {xs : List Int} (h : IS w (.slice a n cap) xs) {j : Nat} (hj : j ≤ n) : IS w (.slice a j cap) (xs.take j) := by
  obtain ⟨a', cap', e, h1, h2, h3, h4⟩ := h
  obtain ⟨rfl, rfl, rfl⟩ : a = a' ∧ n = xs.length ∧ cap = cap' := by simpa using e
  have hl : (xs.take j).length = j := by simp; omega
  refine ⟨_, _, by rw [hl], by omega, h2, h3, fun hp => ?_⟩
  rw [hl] at hp
  obtain ⟨b, off, rfl, hc⟩ := h4 (by omega)
  refine ⟨b, off, rfl, fun i hi => ?_⟩
  rw [hl] at hi
  rw [hc i (by omega)]
  simp only [List.getD, List.getElem?_take]
  rw [if_pos hi]
theorem bel_of_alloc {w w1 : World} {o : Obj} (h : Below (w.alloc o).heap.size (w.alloc o) w1) : Below w.heap.size w w1 := ((Below.refl _ w).alloc (Nat.le_refl _) o).trans (h.mono (by simp))
theorem tOK_in (t : Nat → Int) : tOK t = (inn 1 64 (t 0) && inn 1 (t 0) (t 1) && inn 1 (t 1) (t 2)) := by
  rw [Bool.eq_iff_iff]
  simp only [tOK_iff, Bool.and_eq_true, inn_iff]
  omega
theorem within_any (n a b : Int) (w : World) : Calls Try.prog 51 #[.int .i64 n, .int .i64 a, .int .i64 b] w (IsB (inn a b n) w) := by
  unfold inn
  cases h0 : decide (a ≤ n) with
  | false =>
    go_enter Try.func51, Try.ntmps51
    go_wp2
    go_ret
    exact ⟨by simp, rfl⟩
  | true =>
    go_enter Try.func51, Try.ntmps51
    go_wp2
    go_ret
    exact ⟨by simp, rfl⟩
theorem within_fit {n a b : Int} {t : Bool} (h : inn a b n = t) (w : World) : Calls Try.prog 51 #[.int .i64 n, .int .i64 a, .int .i64 b] w (IsB t w) := by subst h; exact within_any n a b w
set_option maxHeartbeats 1000000 in
theorem tasksMayBe_any {w : World} {v : Value} {n : Nat} {z : Nat → Nat → Int} (h : TK w v n z) : Calls Try.prog 50 #[v] w (YB (tasksOK n z) w) := by
  obtain ⟨a, cap, rfl, hn1, hn2⟩ := h.slice
  have HP := Lib.hid h
  clear h
  cases hx : decide (n ≤ 4) with
  | false =>
    have hn : decide ((4 : Int) < (n : Int)) = true := by have := of_decide_eq_false hx; simp; omega
    have HF : Hid (tasksOK n z = false) := by unfold Hid tasksOK; rw [hx]; rfl
    clear hx
    go_enter Try.func50, Try.ntmps50
    go_wp2_with fail
    go_ret
    exact ⟨by rw [HF.out]; rfl, Below.refl _ _⟩
  | true =>
    have hn4 : n ≤ 4 := of_decide_eq_true hx
    have hn : decide ((4 : Int) < (n : Int)) = false := by simp; omega
    obtain ⟨R, hR⟩ : ∃ R, R = tasksOK n z := ⟨_, rfl⟩
    have HR := Lib.hid hR
    have HT : Hid (tasksOK n z = allT z n) := by unfold Hid tasksOK; rw [hx]; rfl
    rw [← hR]
    clear hx hR
    go_enter Try.func50, Try.ntmps50
    go_wp2_with fail
    go_loopw [10] (fun i wr => ∃ k : Nat, k ≤ n ∧ i = .int .i64 k ∧ Hid (allT z k = true) ∧ Hid (Below w.heap.size w wr)) (fun i _ => n - (intOf i).toNat)
    case atStart => exact ⟨0, by omega, rfl, rfl, Below.refl _ _⟩
    case round =>
      obtain ⟨k, hk, rfl, HA, HB⟩ := hrel
      by_cases hlt : k < n
      · obtain ⟨b, off, rfl, c⟩ := (HP.out.below HB.out).at hlt
        obtain ⟨c0, c1, c2, c3, c4, c5, c6, c7⟩ := c
        have HB2 := Lib.hid (HB.out.alloc HB.out.size (tko (z k)))
        unfold tko at HB2
        have HNo : Hid (tOK (z k) = false → R = false) := fun h => by rw [HR.out, HT.out, allT_no hlt h]
        have HYes : Hid (tOK (z k) = true → allT z (k + 1) = true) := fun h => by unfold allT; rw [HA.out, h]; rfl
        have HI := Lib.hid (tOK_in (z k))
        cases g0 : inn 1 64 (z k 0) with
        | false =>
          have HE : Hid (R = false) := HNo.out (by rw [HI.out, g0]; rfl)
          have G0 := Lib.hid (within_fit g0)
          clear g0 HI HNo HYes
          go_wp2_with fail
          refine (G0.out _).mono ?_
          rintro e w1 ⟨rfl, rfl⟩
          go_wp2_with fail
          go_ret
          exact ⟨by rw [HE.out]; rfl, HB2.out⟩
        | true =>
          cases g1 : inn 1 (z k 0) (z k 1) with
          | false =>
            have HE : Hid (R = false) := HNo.out (by rw [HI.out, g0, g1]; rfl)
            have G0 := Lib.hid (within_fit g0); have G1 := Lib.hid (within_fit g1)
            clear g0 g1 HI HNo HYes
            go_wp2_with fail
            refine (G0.out _).mono ?_
            rintro e w1 ⟨rfl, rfl⟩
            go_wp2_with fail
            refine (G1.out _).mono ?_
            rintro e w1 ⟨rfl, rfl⟩
            go_wp2_with fail
            go_ret
            exact ⟨by rw [HE.out]; rfl, HB2.out⟩
          | true =>
            cases g2 : inn 1 (z k 1) (z k 2) with
            | false =>
              have HE : Hid (R = false) := HNo.out (by rw [HI.out, g0, g1, g2]; rfl)
              have G0 := Lib.hid (within_fit g0); have G1 := Lib.hid (within_fit g1); have G2 := Lib.hid (within_fit g2)
              clear g0 g1 g2 HI HNo HYes
              go_wp2_with fail
              refine (G0.out _).mono ?_
              rintro e w1 ⟨rfl, rfl⟩
              go_wp2_with fail
              refine (G1.out _).mono ?_
              rintro e w1 ⟨rfl, rfl⟩
              go_wp2_with fail
              refine (G2.out _).mono ?_
              rintro e w1 ⟨rfl, rfl⟩
              go_wp2_with fail
              go_ret
              exact ⟨by rw [HE.out]; rfl, HB2.out⟩
            | true =>
              have HE : Hid (allT z (k + 1) = true) := HYes.out (by rw [HI.out, g0, g1, g2]; rfl)
              have G0 := Lib.hid (within_fit g0); have G1 := Lib.hid (within_fit g1); have G2 := Lib.hid (within_fit g2)
              clear g0 g1 g2 HI HNo HYes HA
              go_wp2_with fail
              refine (G0.out _).mono ?_
              rintro e w1 ⟨rfl, rfl⟩
              go_wp2_with fail
              refine (G1.out _).mono ?_
              rintro e w1 ⟨rfl, rfl⟩
              go_wp2_with fail
              refine (G2.out _).mono ?_
              rintro e w1 ⟨rfl, rfl⟩
              go_wp2_with fail
              go_roundw
              case rel => exact ⟨k + 1, by omega, by go_num, HE, HB2.out⟩
              case measure => simp [intOf]; omega
      · obtain rfl : k = n := by omega
        have HE : Hid (R = true) := by rw [Hid, HR.out, HT.out, HA.out]
        go_wp2_with fail
        go_ret
        exact ⟨by rw [HE.out]; rfl, HB.out⟩
theorem areMore_any {w : World} {v : Value} {xs : List Int} (h : IS w v xs) : Calls Try.prog 69 #[v] w (IsB (moreOK xs) w) := by
  obtain ⟨a, cap, rfl, hn1, hn2⟩ := h.slice
  have HP := Lib.hid h
  clear h
  obtain ⟨n, hn⟩ : ∃ n, n = xs.length := ⟨_, rfl⟩
  have HN := Lib.hid hn
  rw [← hn] at hn1 HP ⊢
  have hmx : n ≤ 9223372036854775807 := by unfold maxLen at hn2; omega
  clear hn
  obtain ⟨R, hR⟩ : ∃ R, R = moreOK xs := ⟨_, rfl⟩
  have HR := Lib.hid hR
  rw [← hR]
  clear hR
  go_enter Try.func69, Try.ntmps69
  go_wp2_with fail
  go_loop [7] (fun i => ∃ k : Nat, k ≤ n ∧ i = .int .i64 k ∧ Hid (∀ j, j < k → inMore (xs.getD j 0) = true)) (fun i => n - (intOf i).toNat)
  case atStart => exact ⟨0, by omega, rfl, fun j hj => by omega⟩
  case round =>
    obtain ⟨k, hk, rfl, HA⟩ := hrel
    by_cases hlt : k < n
    · obtain ⟨b, off, rfl, c⟩ := HP.out.at hlt
      cases g : inMore (xs.getD k 0) with
      | false =>
        have HE : Hid (R = false) := HR.out.trans (more_no (by rw [← HN.out]; exact hlt) g)
        have G0 := Lib.hid (within_fit (n := xs.getD k 0) (a := 0) (b := 4096) g)
        clear g
        generalize xs.getD k 0 = x at *
        go_wp2_with fail
        refine (G0.out _).mono ?_
        rintro e w1 ⟨rfl, rfl⟩
        go_wp2_with fail
        go_ret
        exact ⟨by rw [HE.out]; rfl, rfl⟩
      | true =>
        have HE : Hid (∀ j, j < k + 1 → inMore (xs.getD j 0) = true) := fun j hj => by
          by_cases e : j = k
          · rw [e]; exact g
          · exact HA.out j (by omega)
        have G0 := Lib.hid (within_fit (n := xs.getD k 0) (a := 0) (b := 4096) g)
        clear g HA
        obtain ⟨x, hx⟩ : ∃ x, x = xs.getD k 0 := ⟨_, rfl⟩
        rw [← hx] at c G0
        clear hx
        go_wp2_with fail
        refine (G0.out _).mono ?_
        rintro e w1 ⟨rfl, rfl⟩
        go_wp2_with fail
        go_round
        case rel => exact ⟨k + 1, by omega, by go_num, HE⟩
        case measure => simp [intOf]; omega
    · obtain rfl : k = n := by omega
      have HE : Hid (R = true) := HR.out.trans (more_all (by rw [← HN.out]; exact HA.out))
      go_wp2_with fail
      go_ret
      exact ⟨by rw [HE.out]; rfl, rfl⟩
theorem check_any {w : World} {v u : Value} {n : Nat} {z : Nat → Nat → Int} {xs : List Int} (h : TK w v n z) (hx : IS w u xs) : Calls Try.prog 54 #[v, u] w (YI (chkE n z xs) w) := by
  have H1 := Lib.hid (tasksMayBe_any h)
  obtain ⟨a, cap, rfl, hn1, hn2⟩ := h.slice
  have HX := Lib.hid hx
  obtain ⟨b, cap2, rfl, hm1, hm2⟩ := hx.slice
  obtain ⟨m, hm⟩ : ∃ m, m = xs.length := ⟨_, rfl⟩
  have HC : Hid (chkE n z xs = if tasksOK n z && decide (m = n) && moreOK xs then 0 else 2) := by rw [hm]; rfl
  rw [← hm] at hm1 HX ⊢
  clear hm h hx
  cases g0 : tasksOK n z with
  | false =>
    rw [g0] at H1 HC
    clear g0
    go_enter Try.func54, Try.ntmps54
    go_wp2_with fail
    refine H1.out.mono ?_
    rintro e w1 ⟨rfl, hb⟩
    have HB := Lib.hid hb
    clear hb
    go_wp2_with fail
    go_ret
    exact ⟨by rw [HC.out]; rfl, HB.out⟩
  | true =>
    rw [g0] at H1 HC
    clear g0
    cases g1 : decide (m = n) with
    | false =>
      have g2 : ((m : Int) != (n : Int)) = true := by have := of_decide_eq_false g1; simp; omega
      rw [g1] at HC
      clear g1
      go_enter Try.func54, Try.ntmps54
      go_wp2_with fail
      refine H1.out.mono ?_
      rintro e w1 ⟨rfl, hb⟩
      have HB := Lib.hid hb
      clear hb
      go_wp2_with fail
      go_ret
      exact ⟨by rw [HC.out]; rfl, HB.out⟩
    | true =>
      obtain rfl := of_decide_eq_true g1
      rw [g1] at HC
      clear g1
      cases g2 : moreOK xs with
      | false =>
        rw [g2] at HC
        go_enter Try.func54, Try.ntmps54
        go_wp2_with fail
        refine H1.out.mono ?_
        rintro e w1 ⟨rfl, hb⟩
        have HB := Lib.hid hb
        have H2 := Lib.hid (areMore_any (HX.out.below hb))
        rw [g2] at H2
        clear hb
        go_wp2_with fail
        refine H2.out.mono ?_
        rintro e w2 ⟨rfl, rfl⟩
        go_wp2_with fail
        go_ret
        exact ⟨by rw [HC.out]; rfl, HB.out⟩
      | true =>
        rw [g2] at HC
        go_enter Try.func54, Try.ntmps54
        go_wp2_with fail
        refine H1.out.mono ?_
        rintro e w1 ⟨rfl, hb⟩
        have HB := Lib.hid hb
        have H2 := Lib.hid (areMore_any (HX.out.below hb))
        rw [g2] at H2
        clear hb
        go_wp2_with fail
        refine H2.out.mono ?_
        rintro e w2 ⟨rfl, rfl⟩
        go_wp2_with fail
        go_ret
        exact ⟨by rw [HC.out]; rfl, HB.out⟩
end Go.Proofs.Ytbdiekolkniajaa

namespace Go.Proofs.Ytbdiekolkniajaa
open Go.RowKit Tk De
set_option linter.unusedVariables false

/-- a task, by value -/
abbrev tv (t : Nat → Int) : Value := .agg #[.int .i64 (t 0), .int .i64 (t 1), .int .i64 (t 2), .int .i64 (t 3), .int .i64 (t 4), .int .i64 (t 5), .int .i64 (t 6), .int .i64 (t 7)]
theorem tOK_six (t : Nat → Int) : tOK t = (decide (1 ≤ t 0) && (decide (t 0 ≤ 64) && (decide (1 ≤ t 1) && (decide (t 1 ≤ t 0) && (decide (1 ≤ t 2) && decide (t 2 ≤ t 1)))))) := by
  unfold tOK
  simp only [Bool.and_assoc]
/-- the first k of them are such -/
def mo (xs : List Int) : Nat → Bool
  | 0 => true
  | k + 1 => mo xs k && inMore (xs.getD k 0)
theorem mo_at {xs : List Int} : ∀ {k : Nat}, mo xs k = true ↔ ∀ j, j < k → inMore (xs.getD j 0) = true
  | 0 => by simp [mo]
  | k + 1 => by
    unfold mo
    rw [Bool.and_eq_true, mo_at]
    exact ⟨fun h j hj => by
      by_cases e : j = k
      · subst e; exact h.2
      · exact h.1 j (by omega), fun h => ⟨fun j hj => h j (by omega), h k (by omega)⟩⟩
theorem mo_all (xs : List Int) : mo xs xs.length = moreOK xs := by
  rw [Bool.eq_iff_iff, mo_at]
  exact ⟨more_all, fun h j hj => all_at (p := inMore) h hj⟩
theorem mo_no {xs : List Int} {k : Nat} (hk : k < xs.length) (h : mo xs (k + 1) = false) : moreOK xs = false := by
  cases e : moreOK xs with
  | false => rfl
  | true =>
    rw [← mo_all, mo_at] at e
    rw [mo_at.2 (fun j hj => e j (by omega))] at h
    cases h
end Go.Proofs.Ytbdiekolkniajaa
