/- Calls that can be read; ReadyPlays. -/
import Derived.Test.YtmdckfekjbhcfaaRdyG
namespace Go.Proofs.Ytmdckfekjbhcfaa
open Go.RowKit Rk Rd Go.Sort
set_option linter.unusedVariables false

/-- calls that can be read -/
def DS (w : World) (v : Value) (n : Nat) (d : Nat → Nat → Int) : Prop :=
  ∃ a cap, v = .slice a n cap ∧ n ≤ cap ∧ cap ≤ maxLen ∧
    (0 < n → ∃ b off, a = some ⟨b, off, none⟩ ∧ ∀ i, i < n → ∀ j, j < 3 → w.cell? ⟨b, off + i * 3 + j, none⟩ = some (.int .i64 (d i j)))
theorem DS.nil (w : World) (d : Nat → Nat → Int) : DS w (.slice none 0 0) 0 d := ⟨none, 0, rfl, Nat.le_refl _, Nat.zero_le _, fun h => by cases h⟩
theorem DS.slice {w : World} {v : Value} {n : Nat} {d : Nat → Nat → Int} (h : DS w v n d) : ∃ a cap, v = .slice a n cap ∧ n ≤ cap ∧ cap ≤ maxLen := by obtain ⟨a, cap, h1, h2, h3, _⟩ := h; exact ⟨a, cap, h1, h2, h3⟩
theorem DS.below {w w' : World} {v : Value} {n : Nat} {d : Nat → Nat → Int} (h : DS w v n d) (q : Below w.heap.size w w') : DS w' v n d := by
  obtain ⟨a, cap, h1, h2, h3, h5⟩ := h
  exact ⟨a, cap, h1, h2, h3, fun hn => by obtain ⟨b, off, e, hc⟩ := h5 hn; exact ⟨b, off, e, fun i hi j hj => (q.cell (World.block_lt_of_cell? _ _ (hc i hi j hj))).trans (hc i hi j hj)⟩⟩
theorem DS.at {w : World} {n cap : Nat} {a : Option Addr} {m : Nat} {d : Nat → Nat → Int} (h : DS w (.slice a n cap) m d) {i : Nat} (hi : i < n) : ∃ b off, a = some ⟨b, off, none⟩ ∧ w.cell? ⟨b, off + i * 3, none⟩ = some (.int .i64 (d i 0)) ∧ w.cell? ⟨b, off + i * 3 + 1, none⟩ = some (.int .i64 (d i 1)) ∧ w.cell? ⟨b, off + i * 3 + 2, none⟩ = some (.int .i64 (d i 2)) := by
  obtain ⟨a', cap', e, h1, h2, h4⟩ := h
  obtain ⟨rfl, rfl, rfl⟩ : a = a' ∧ n = m ∧ cap = cap' := by simpa using e
  obtain ⟨b, off, rfl, hc⟩ := h4 (by omega)
  exact ⟨b, off, rfl, hc i hi 0 (by decide), hc i hi 1 (by decide), hc i hi 2 (by decide)⟩
theorem bring3 (a : Int) : bring a 3 = 0 ∨ bring a 3 = 1 ∨ bring a 3 = 2 := by
  have := bring_range a (n := 3) (by decide)
  omega
theorem TX.start {W w2 w3 : World} {qb rb hb g mb n : Nat} {lv : Value} (q : QS w2 qb rb hb g (noL n)) (b2 : Below W.heap.size W w2) (hq : W.heap.size ≤ qb ∧ W.heap.size ≤ rb ∧ W.heap.size ≤ hb ∧ W.heap.size ≤ g) (d : DQ w3 mb w2.heap.size (noL n) lv) (b3 : Below w2.heap.size w2 w3) (hm : w2.heap.size ≤ mb) : TX W.heap.size W w3 qb mb (noL n) (noL n) lv rb hb g := by
  have s1 := q.lt
  have s2 := q.k.lt0
  have s3 := q.k.lt1
  have s4 := q.k.lt2
  have s5 := b2.size
  refine ⟨q.below b3, ⟨d.ob, own_base d.ow s5, d.ne⟩, q.ok, by omega, b2.trans (b3.mono s5), by omega, fun k hk => ?_⟩
  have := (World.ownsRow.lt d.ow k hk).1
  omega
/-- the box of a call -/
def bx (w : World) (kd t d : Int) : World := w.alloc (.cells #[.int .i64 kd, .int .i64 t, .int .i64 d] 31)
set_option maxRecDepth 100000 in
set_option maxHeartbeats 8000000 in
theorem plays_any {w : World} {u : Value} {m : Nat} {d : Nat → Nat → Int} (hd : DS w u m d) (x : Int) : Calls Try.prog 3 #[.int .i64 x, u] w (TrueB w) := by
  obtain ⟨a, cap, rfl, hn1, hn2⟩ := hd.slice
  have hmx : m ≤ 9223372036854775807 := by unfold maxLen at hn2; omega
  have HD := Lib.hid hd
  clear hd
  by_cases hx : 0 ≤ x ∧ x ≤ 4
  · obtain ⟨n, rfl⟩ : ∃ n : Nat, x = n := ⟨x.toNat, by omega⟩
    have HN := Lib.hid (qnew_yes w (n := n) (by omega))
    have HR := Lib.hid (fun w => rnew_yes w (n := n) (by omega))
    clear hx
    go_enter Try.func3, Try.ntmps3
    go_wp2_with fail
    refine HN.out.mono ?_
    rintro e w2 ⟨qb, rb, hb, g, rfl, hq, hqb, hb2⟩
    have HQ := Lib.hid (And.intro hq (And.intro hqb hb2))
    clear hq hqb hb2 HN
    go_wp2_with fail
    refine (HR.out w2).mono ?_
    rintro e w3 ⟨mb, lv, rfl, hdq, hm, hb3⟩
    have HT : Hid (TW w.heap.size w w3 qb mb (noL n) (noL n)) := ⟨_, _, _, _, TX.start HQ.out.1 HQ.out.2.2 HQ.out.2.1 hdq hb3 hm⟩
    clear hdq hm hb3 HQ HR
    go_wp2_with fail
    go_loopw [9] (fun i wr => ∃ (k : Nat) (L : List Int), k ≤ m ∧ k ≤ 200 ∧ i = .int .i64 k ∧ Hid (TW w.heap.size w wr qb mb L L)) (fun i _ => m - (intOf i).toNat)
    case atStart => exact ⟨0, _, Nat.zero_le _, by omega, rfl, HT.out⟩
    case round =>
      clear HT
      obtain ⟨k, L, hk, hk200, rfl, HT⟩ := hrel
      by_cases hgo : k < m ∧ k < 200
      · obtain ⟨hkm, hk2⟩ := hgo
        obtain ⟨db, off, rfl, c0, c1, c2⟩ := (HD.out.below HT.out.bel).at hkm
        have hk1 : decide ((k : Int) < 200) = true := by simp; omega
        have hkI : (k : Int) < (m : Int) := by omega
        have hk0 : (0 : Int) ≤ k := by omega
        obtain ⟨lv, rb, hb, g, hT⟩ := HT.out
        generalize d k 0 = kd at *
        generalize d k 1 = t at *
        generalize d k 2 = dd at *
        obtain ⟨X, hX⟩ : ∃ X, wr.heap.size = X := ⟨_, rfl⟩
        have HXN := Lib.hid hT.new
        have hal : Below wr.heap.size wr (bx wr kd t dd) := bel_alloc _ _
        have H1 := Lib.hid (hT.below hal)
        have hbx : (bx wr kd t dd).heap[X]? = some (.cells #[.int .i64 kd, .int .i64 t, .int .i64 dd] 31 (0, 0)) := by rw [← hX]; exact heap_alloc_new _ _
        have HBX := Lib.hid hbx
        have HXL : Hid (X < (bx wr kd t dd).heap.size) := lt_of_heap hbx
        rw [hX] at HXN
        obtain ⟨qd, hqd⟩ : ∃ qd, bring kd 3 = qd := ⟨_, rfl⟩
        have hqc : qd = 0 ∨ qd = 1 ∨ qd = 2 := by have := bring3 kd; omega
        have HQD := Lib.hid hqd
        have d0 := cell_of_row _ _ 0 _ _ _ hbx
        unfold bx at d0
        clear hal hbx hT HT hqd
        go_wp2_with fail
        clear d0 c0 c1 c2
        change Calls _ _ _ (bx wr kd t dd) _
        generalize bx wr kd t dd = w1 at *
        refine (bring_any kd 3 w1 (by decide) (by decide)).mono ?_
        rintro e w0 ⟨rfl, rfl⟩
        rw [HQD.out]
        clear hX
        have e1 : w0.cell? ⟨X, 1, none⟩ = some (.int .i64 t) := cell_of_row _ _ 1 _ _ _ HBX.out
        have e2 : w0.cell? ⟨X, 2, none⟩ = some (.int .i64 dd) := cell_of_row _ _ 2 _ _ _ HBX.out
        have HS0 := Lib.hid (And.intro e1 e2)
        rcases hqc with rfl | rfl | rfl
        · obtain ⟨E, hE⟩ : ∃ E, qE L t dd = E := ⟨_, rfl⟩
          obtain ⟨l2, hl2⟩ : ∃ l2, qL L t dd = l2 := ⟨_, rfl⟩
          have HE := Lib.hid hE
          have HL2 := Lib.hid hl2
          clear hE hl2
          go_wp2_with fail
          go_region_held3 (fun w' => w'.cell? ⟨X, 1, none⟩ = some (.int .i64 t) ∧ w'.cell? ⟨X, 2, none⟩ = some (.int .i64 dd))
            (first | assumption | exact HS0.out | go_keep)
            (first | (go_at_call 10; refine (tx_put (H1.out.below (Below.drew (Below.refl _ _))) t dd HE.out HL2.out).mono ?_; rintro e w4 ⟨rfl, ⟨g4, hx4⟩, on4⟩; have HX4 := Lib.hid hx4; have hbx4 := (on4.block X HXL.out HXN.out.1).trans HBX.out; have HBX4 := Lib.hid hbx4; have hS4 : w4.cell? ⟨X, 1, none⟩ = some (.int .i64 t) ∧ w4.cell? ⟨X, 2, none⟩ = some (.int .i64 dd) := ⟨cell_of_row _ _ 1 _ _ _ hbx4, cell_of_row _ _ 2 _ _ _ hbx4⟩)
                   | (go_at_call 11; refine (tx_rput HX4.out t dd HE.out HL2.out).mono ?_; rintro e w5 ⟨rfl, hx5, on5⟩; have HX5 := Lib.hid hx5; have hbx5 := (on5.block X (lt_of_heap HBX4.out) HXN.out.2).trans HBX4.out; have hS5 : w5.cell? ⟨X, 1, none⟩ = some (.int .i64 t) ∧ w5.cell? ⟨X, 2, none⟩ = some (.int .i64 dd) := ⟨cell_of_row _ _ 1 _ _ _ hbx5, cell_of_row _ _ 2 _ _ _ hbx5⟩))
          all_goals
            have HF : Hid (TW w.heap.size w w5 qb mb l2 l2) := ⟨_, _, _, _, HX5.out⟩
            clear hx4 hx5 on4 on5 hbx4 hbx5 hS4 hS5 HX4 HX5 HBX4 HS0 e1 e2
            go_wp2_with fail
            refine (same_any HF.out).mono ?_
            rintro e w6 ⟨rfl, hb6⟩
            have HF6 := Lib.hid (HF.out.below hb6)
            clear hb6 HF
            go_wp2_with fail
            go_roundw
            case rel => exact ⟨k + 1, l2, by omega, by omega, by go_num, HF6.out⟩
            case measure => simp [intOf]; omega
        · obtain ⟨E, hE⟩ : ∃ E, decide (0 ≤ dl L t) = E := ⟨_, rfl⟩
          obtain ⟨l2, hl2⟩ : ∃ l2, rmL L t = l2 := ⟨_, rfl⟩
          have HE := Lib.hid hE
          have HL2 := Lib.hid hl2
          clear hE hl2
          go_wp2_with fail
          go_region_held3 (fun w' => w'.cell? ⟨X, 1, none⟩ = some (.int .i64 t))
            (first | assumption | exact HS0.out.1 | go_keep)
            (first | (go_at_call 12; refine (tx_rem (H1.out.below (Below.drew (Below.refl _ _))) t HE.out HL2.out).mono ?_; rintro e w4 ⟨rfl, ⟨g4, hx4⟩, on4⟩; have HX4 := Lib.hid hx4; have hbx4 := (on4.block X HXL.out HXN.out.1).trans HBX.out; have HBX4 := Lib.hid hbx4; have hS4 : w4.cell? ⟨X, 1, none⟩ = some (.int .i64 t) := cell_of_row _ _ 1 _ _ _ hbx4)
                   | (go_at_call 13; refine (tx_rrem HX4.out t HE.out HL2.out).mono ?_; rintro e w5 ⟨rfl, hx5, on5⟩; have HX5 := Lib.hid hx5; have hbx5 := (on5.block X (lt_of_heap HBX4.out) HXN.out.2).trans HBX4.out; have hS5 : w5.cell? ⟨X, 1, none⟩ = some (.int .i64 t) := cell_of_row _ _ 1 _ _ _ hbx5))
          all_goals
            have HF : Hid (TW w.heap.size w w5 qb mb l2 l2) := ⟨_, _, _, _, HX5.out⟩
            clear hx4 hx5 on4 on5 hbx4 hbx5 hS4 hS5 HX4 HX5 HBX4 HS0 e1 e2
            go_wp2_with fail
            refine (same_any HF.out).mono ?_
            rintro e w6 ⟨rfl, hb6⟩
            have HF6 := Lib.hid (HF.out.below hb6)
            clear hb6 HF
            go_wp2_with fail
            go_roundw
            case rel => exact ⟨k + 1, l2, by omega, by omega, by go_num, HF6.out⟩
            case measure => simp [intOf]; omega
        · obtain ⟨xs, hxs⟩ : ∃ xs, ids (lateL L dd) = xs := ⟨_, rfl⟩
          have HXS := Lib.hid hxs
          have HXL4 : Hid (xs.length ≤ 100000) := by
            unfold Hid
            have h1 := late_le L dd
            have h2 := srt_len L
            have h3 := H1.out.okm.len
            rw [← hxs, ids_len]
            omega
          clear hxs
          go_wp2_with fail
          go_region_held3 (fun w' => w'.cell? ⟨X, 2, none⟩ = some (.int .i64 dd))
            (first | assumption | exact HS0.out.2 | go_keep)
            (first | (go_at_call 15; refine (tx_late (H1.out.below (Below.drew (Below.refl _ _))) dd HXS.out).mono ?_; rintro e w4 ⟨g4, c4, rfl, his4, hb4⟩; have HI4 := Lib.hid his4; have HX4 := Lib.hid ((H1.out.below (Below.drew (Below.refl _ _))).below hb4); have hbx4 := (hb4.block X HXL.out).trans HBX.out; have HBX4 := Lib.hid hbx4; have hS4 : w4.cell? ⟨X, 2, none⟩ = some (.int .i64 dd) := cell_of_row _ _ 2 _ _ _ hbx4)
                   | (go_at_call 16; refine (tx_rlate HX4.out dd HXS.out).mono ?_; rintro e w5 ⟨rv, rfl, hn5, hb5⟩; have HI5 := Lib.hid hn5.is; have HI4b := Lib.hid (HI4.out.below hb5); have HX5 := Lib.hid (HX4.out.below hb5); have hbx5 := (hb5.block X (lt_of_heap HBX4.out)).trans HBX4.out; have HBX5 := Lib.hid hbx5; have hS5 : w5.cell? ⟨X, 2, none⟩ = some (.int .i64 dd) := cell_of_row _ _ 2 _ _ _ hbx5)
                   | (go_at_call 14; refine (eqs_any HI4b.out HI5.out HXL4.out).mono ?_; rintro e w6 ⟨rfl, hb6⟩; have HB6 := Lib.hid hb6; have hS6 : w6.cell? ⟨X, 2, none⟩ = some (.int .i64 dd) := cell_of_row _ _ 2 _ _ _ ((hb6.block X (lt_of_heap HBX5.out)).trans HBX5.out)))
          all_goals
            have HF : Hid (TW w.heap.size w w6 qb mb L L) := ⟨_, _, _, _, HX5.out.below HB6.out⟩
            clear his4 hb4 hbx4 hS4 hn5 hb5 hbx5 hS5 hb6 hS6 HI4 HI5 HI4b HX4 HX5 HBX4 HBX5 HB6 HS0 e1 e2
            go_wp2_with fail
            refine (same_any HF.out).mono ?_
            rintro e w7 ⟨rfl, hb7⟩
            have HF7 := Lib.hid (HF.out.below hb7)
            clear hb7 HF
            go_wp2_with fail
            go_roundw
            case rel => exact ⟨k + 1, L, by omega, by omega, by go_num, HF7.out⟩
            case measure => simp [intOf]; omega
      · have hstop : k = m ∨ k < m ∧ k = 200 := by omega
        rcases hstop with rfl | ⟨hkm, rfl⟩
        all_goals
          go_wp2_with fail
          refine (works_any _).mono ?_
          rintro e w5 ⟨rfl, hb5⟩
          have HB5 := Lib.hid (HT.out.bel.trans (hb5.mono HT.out.bel.size))
          clear hb5
          go_wp2_with fail
          go_ret
          exact ⟨rfl, HB5.out⟩
  · have H0 := Lib.hid (qnew_no w (n := x) (by omega))
    have H1 := Lib.hid (rnew_no w (n := x) (by omega))
    clear hx
    go_enter Try.func3, Try.ntmps3
    go_wp2_with fail
    refine H0.out.mono ?_
    rintro E w1 ⟨rfl, rfl⟩
    go_wp2_with fail
    refine H1.out.mono ?_
    rintro E w2 ⟨rfl, rfl⟩
    clear H0 H1
    go_wp2_with fail
    go_loopw [9] (fun i wr => i = .int .i64 0 ∧ wr = w) (fun i _ => 0)
    case atStart => exact ⟨rfl, rfl⟩
    case round =>
      obtain ⟨rfl, rfl⟩ := hrel
      by_cases hm : 0 < m
      · have hm1 : decide ((0 : Int) < (m : Int)) = true := by simp; omega
        go_wp2_with fail
        refine (works_any _).mono ?_
        rintro E w5 ⟨rfl, hb5⟩
        have HB5 := Lib.hid hb5
        clear hb5
        go_wp2_with fail
        go_ret
        exact ⟨rfl, HB5.out⟩
      · obtain rfl : m = 0 := by omega
        go_wp2_with fail
        refine (works_any _).mono ?_
        rintro E w5 ⟨rfl, hb5⟩
        have HB5 := Lib.hid hb5
        clear hb5
        go_wp2_with fail
        go_ret
        exact ⟨rfl, HB5.out⟩
end Go.Proofs.Ytmdckfekjbhcfaa
