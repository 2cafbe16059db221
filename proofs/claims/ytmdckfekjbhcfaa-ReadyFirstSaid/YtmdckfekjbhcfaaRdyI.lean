/- ReadyFirst: a queue beside an array of what is due. -/
import Derived.Test.YtmdckfekjbhcfaaRdyH
namespace Go.Proofs.Ytmdckfekjbhcfaa
open Go.RowKit Rk Rd Go.Sort
set_option linter.unusedVariables false

theorem bring_id {a n : Int} (h0 : 0 ≤ a) (h1 : a < n) : bring a n = a := by
  unfold bring
  rw [Int.tmod_eq_of_lt h0 h1, if_neg (by omega)]
/-- one more than each deadline -/
def du (M : List Int) : Array Value := (M.map fun x => Value.int .i64 (x + 1)).toArray
theorem du_set (M : List Int) (i : Nat) (x : Int) : (du M).setIfInBounds i (.int .i64 (x + 1)) = du (M.set i x) := by
  unfold du
  rw [List.setIfInBounds_toArray, List.map_set]
theorem du_at {M : List Int} {i : Nat} (h : i < M.length) : (du M)[i]? = some (.int .i64 (M.getD i (-1) + 1)) := by
  unfold du
  rw [List.getElem?_toArray, List.getElem?_map, List.getElem?_eq_getElem h, List.getD_eq_getElem?_getD, List.getElem?_eq_getElem h]
  rfl
/-- a queue, and an array beside it -/
structure FX (B : Nat) (W w : World) (qb ub : Nat) (L M : List Int) (rb hb g : Nat) : Prop where
  q : QS w qb rb hb g L
  u : w.heap[ub]? = some (.cells (du M) 41 (0, 0))
  l4 : L.length = 4 ∧ M.length = 4
  b : B ≤ qb ∧ B ≤ rb ∧ B ≤ hb ∧ B ≤ g ∧ B ≤ ub
  bel : Below B W w
  ap : ub ≠ hb ∧ ub ≠ g ∧ ub ≠ qb ∧ ub ≠ rb
def FW (B : Nat) (W w : World) (qb ub : Nat) (L M : List Int) : Prop := ∃ rb hb g, FX B W w qb ub L M rb hb g
section
variable {B : Nat} {W w w' : World} {qb ub : Nat} {L M L' : List Int} {rb hb g : Nat}
theorem FX.bsz (h : FX B W w qb ub L M rb hb g) : B ≤ w.heap.size := by have := h.q.lt; have := h.b; omega
theorem FX.p {v : Value} {e : Ending} (h : FX B W w qb ub L M rb hb g) (hl : L'.length = L.length) (o : QP v qb rb hb g L' w e w') : (∃ g', FX B W w' qb ub L' M rb hb g') ∧ w'.heap[ub]? = w.heap[ub]? := by
  obtain ⟨_, ⟨g', h1, h2⟩, h3⟩ := o
  have hs := h.bsz
  obtain ⟨b1, b2, b3, b4, b5⟩ := h.b
  obtain ⟨a1, a2, a3, a4⟩ := h.ap
  have hm := lt_of_heap h.u
  have hk : w'.heap[ub]? = w.heap[ub]? := h3.block ub hm (fun e => by rcases e with e | e; · exact a1 e
                                                                      · exact a2 e)
  refine ⟨⟨g', h1, hk.trans h.u, ⟨hl.trans h.l4.1, h.l4.2⟩, ⟨b1, b2, b3, by omega, b5⟩, h.bel.trans (h3.below hs fun k _ hk => ?_), ⟨a1, by omega, a3, a4⟩⟩, hk⟩
  rcases hk with rfl | rfl
  · exact b3
  · exact b4
theorem FX.below (h : FX B W w qb ub L M rb hb g) (q : Below w.heap.size w w') : FX B W w' qb ub L M rb hb g := ⟨h.q.below q, (q.block ub (lt_of_heap h.u)).trans h.u, h.l4, h.b, h.bel.trans (q.mono h.bsz), h.ap⟩
theorem FX.set (h : FX B W w qb ub L M rb hb g) (i : Nat) (x : Int) {y : Int} (hy : x + 1 = y) : FX B W (w.setCell ⟨ub, i, none⟩ (.int .i64 y)) qb ub L (M.set i x) rb hb g := by
  subst hy
  obtain ⟨a1, a2, a3, a4⟩ := h.ap
  refine ⟨h.q.keep (heap_set_other (Ne.symm a3)) (heap_set_other (Ne.symm a4)) (heap_set_other (Ne.symm a1)) (heap_set_other (Ne.symm a2)), ?_, ⟨h.l4.1, by rw [List.length_set]; exact h.l4.2⟩, h.b, h.bel.setCell h.b.2.2.2.2 _, h.ap⟩
  rw [← du_set]
  exact heap_set_same h.u
theorem FX.cell (h : FX B W w qb ub L M rb hb g) {i : Nat} (hi : i < 4) : w.cell? ⟨ub, i, none⟩ = some (.int .i64 (M.getD i (-1) + 1)) ∧ w.frozen? ⟨ub, i, none⟩ = false :=
  ⟨(cell_of_row _ _ _ _ _ _ h.u).trans (du_at (by rw [h.l4.2]; exact hi)), frozen_of_row _ _ _ _ _ h.u⟩
theorem FW.bel (h : FW B W w qb ub L M) : Below B W w := by obtain ⟨_, _, _, h⟩ := h; exact h.bel
theorem FW.below (h : FW B W w qb ub L M) (q : Below w.heap.size w w') : FW B W w' qb ub L M := by obtain ⟨_, _, _, h⟩ := h; exact ⟨_, _, _, h.below q⟩
theorem FW.ok (h : FW B W w qb ub L M) : Gd L ∧ L.length = 4 := by obtain ⟨_, _, _, h⟩ := h; exact ⟨h.q.ok, h.l4.1⟩
theorem FW.set (h : FW B W w qb ub L M) (i : Nat) (x : Int) {y : Int} (hy : x + 1 = y) : FW B W (w.setCell ⟨ub, i, none⟩ (.int .i64 y)) qb ub L (M.set i x) := by obtain ⟨_, _, _, h⟩ := h; exact ⟨_, _, _, h.set i x hy⟩
theorem FW.cell (h : FW B W w qb ub L M) {i : Nat} (hi : i < 4) : w.cell? ⟨ub, i, none⟩ = some (.int .i64 (M.getD i (-1) + 1)) ∧ w.frozen? ⟨ub, i, none⟩ = false := by obtain ⟨_, _, _, h⟩ := h; exact h.cell hi
theorem fw_rem (h : FW B W w qb ub L M) (t : Int) {x : Bool} (h1 : decide (0 ≤ dl L t) = x) (h2 : rmL L t = L') : Calls Try.prog 12 #[.pointer (some ⟨qb, 0, none⟩), .int .i64 t] w (fun e w' => e = .returned (.bool x) ∧ FW B W w' qb ub L' M ∧ w'.heap[ub]? = w.heap[ub]?) := by
  subst h1; subst h2
  obtain ⟨rb, hb, g, h⟩ := h
  refine (qrem_any h.q t).mono fun e w' o => ?_
  obtain ⟨⟨g', h1⟩, h2⟩ := h.p (rmL_len L t) o
  exact ⟨o.1, ⟨_, _, _, h1⟩, h2⟩
theorem fw_put (h : FW B W w qb ub L M) (t d : Int) {x : Int} (h1 : qE L t d = x) (h2 : qL L t d = L') : Calls Try.prog 10 #[.pointer (some ⟨qb, 0, none⟩), .int .i64 t, .int .i64 d] w (fun e w' => e = .returned (.int .i64 x) ∧ FW B W w' qb ub L' M ∧ w'.heap[ub]? = w.heap[ub]?) := by
  subst h1; subst h2
  obtain ⟨rb, hb, g, h⟩ := h
  refine (qput_any h.q t d).mono fun e w' o => ?_
  obtain ⟨⟨g', h1⟩, h2⟩ := h.p (qL_len L t d) o
  exact ⟨o.1, ⟨_, _, _, h1⟩, h2⟩
theorem fw_first (h : FW B W w qb ub L M) : Calls Try.prog 19 #[.pointer (some ⟨qb, 0, none⟩)] w (Fst (fs L).1 (fs L).2 (decide (0 < (srt L).length)) w) := by
  obtain ⟨rb, hb, g, h⟩ := h; exact qfirst_any h.q
theorem fw_late (h : FW B W w qb ub L M) (now : Int) : Calls Try.prog 15 #[.pointer (some ⟨qb, 0, none⟩), .int .i64 now] w (LateP (ids (lateL L now)) w) := by
  obtain ⟨rb, hb, g, h⟩ := h; exact qlate_any h.q now
theorem fw_jobs (h : FW B W w qb ub L M) : Calls Try.prog 20 #[.pointer (some ⟨qb, 0, none⟩)] w (JobsP L w) := by
  obtain ⟨rb, hb, g, h⟩ := h; exact qjobs_any h.q
end
/-- a cell of the array alone -/
theorem ub_cell {w : World} {ub : Nat} {M : List Int} (hl : M.length = 4) {i : Nat} (hi : i < 4) (h : w.heap[ub]? = some (.cells (du M) 41 (0, 0))) : w.cell? ⟨ub, i, none⟩ = some (.int .i64 (M.getD i (-1) + 1)) := (cell_of_row _ _ _ _ _ _ h).trans (du_at (by rw [hl]; exact hi))
theorem FW.u {B : Nat} {W w : World} {qb ub : Nat} {L M : List Int} (h : FW B W w qb ub L M) : w.heap[ub]? = some (.cells (du M) 41 (0, 0)) ∧ M.length = 4 := by obtain ⟨_, _, _, h⟩ := h; exact ⟨h.u, h.l4.2⟩
/-- no job: the task's number stays what it was -/
theorem set_rm {L : List Int} (ok : Gd L) {i : Nat} (hi : i < L.length) : rmL L i = L.set i (-1) := by
  unfold rmL
  rw [dl_nat]
  split
  · rfl
  · next h =>
    have hr := (getD_rng ok i).1
    have e : L.getD i (-1) = -1 := by omega
    rw [List.getD_eq_getElem?_getD, List.getElem?_eq_getElem hi] at e
    simp only [Option.getD_some] at e
    rw [← e, List.set_getElem_self]
/-- the start: a new queue, then the array -/
theorem FW.start {W w1 : World} {qb rb hb g : Nat} (q : QS w1 qb rb hb g (noL 4)) (hq : W.heap.size ≤ qb ∧ W.heap.size ≤ rb ∧ W.heap.size ≤ hb ∧ W.heap.size ≤ g) (bel : Below W.heap.size W w1) :
    FW W.heap.size W (w1.alloc (.cells #[.int .i64 0, .int .i64 0, .int .i64 0, .int .i64 0] 41)) qb w1.heap.size (noL 4) (noL 4) := by
  have s1 := q.lt
  have s2 := q.k.lt0
  have s3 := q.k.lt1
  have s4 := q.k.lt2
  have s5 := bel.size
  exact ⟨rb, hb, g, q.below (bel_alloc _ _), heap_alloc_new _ _, ⟨rfl, rfl⟩, ⟨hq.1, hq.2.1, hq.2.2.1, hq.2.2.2, s5⟩, bel.alloc s5 _, by omega⟩
/-- has one of the first k tasks a job? -/
def sm (L : List Int) : Nat → Bool
  | 0 => false
  | k + 1 => sm L k || decide (0 ≤ L.getD k (-1))
theorem sm_iff (L : List Int) : ∀ k, sm L k = true ↔ ∃ j, j < k ∧ 0 ≤ L.getD j (-1)
  | 0 => by simp [sm]
  | k + 1 => by
    unfold sm
    rw [Bool.or_eq_true, sm_iff L k, decide_eq_true_eq]
    constructor
    · rintro (⟨j, h1, h2⟩ | h)
      · exact ⟨j, by omega, h2⟩
      · exact ⟨k, by omega, h⟩
    · rintro ⟨j, h1, h2⟩
      by_cases e : j = k
      · exact Or.inr (e ▸ h2)
      · exact Or.inl ⟨j, by omega, h2⟩
theorem sm_all (L : List Int) : sm L L.length = decide (0 < (srt L).length) := by
  rw [Bool.eq_iff_iff, sm_iff, decide_eq_true_eq]
  constructor
  · rintro ⟨j, h1, h2⟩
    have := srt_in (L := L) (t := j) (by rw [dl_nat]; exact h2)
    exact List.length_pos_of_mem this
  · intro h
    obtain ⟨q, h1, h2⟩ := srt_at h
    have := srt_mem (Rd.getD_mem h)
    rw [h2] at this
    exact ⟨q, h1, this.2.1⟩
/-- the first one: its deadline is at most each other one's -/
theorem fs_le {L : List Int} {i : Nat} (h : 0 ≤ L.getD i (-1)) : 0 < (srt L).length ∧ (fs L).2 ≤ L.getD i (-1) ∧ (L.getD i (-1) = (fs L).2 → (fs L).1 ≤ i) := by
  have h0 := srt_in (L := L) (t := i) (by rw [dl_nat]; exact h)
  have hp : 0 < (srt L).length := List.length_pos_of_mem h0
  have h1 := (fs_is hp).2 i (L.getD i (-1)) (by rw [mp_some (by rw [dl_nat]; exact h), dl_nat])
  unfold le lt at h1
  exact ⟨hp, by omega, by omega⟩
theorem fs_at {L : List Int} (h : 0 < (srt L).length) : ∃ q : Nat, q < L.length ∧ (fs L).1 = q ∧ (fs L).2 = L.getD q (-1) ∧ 0 ≤ L.getD q (-1) := by
  obtain ⟨q, h1, h2⟩ := srt_at h
  have h3 := srt_mem (Rd.getD_mem h)
  rw [h2] at h3
  rw [fs_eq, h2]
  exact ⟨q, h1, rfl, rfl, h3.2.1⟩
set_option maxRecDepth 100000 in
set_option maxHeartbeats 16000000 in
theorem first_law {w : World} {u : Value} {m : Nat} {d : Nat → Nat → Int} (hd : DS w u m d) (now : Int) : Calls Try.prog 4 #[u, .int .i64 now] w (TrueB w) := by
  obtain ⟨a, cap, rfl, hn1, hn2⟩ := hd.slice
  have hmx : m ≤ 9223372036854775807 := by unfold maxLen at hn2; omega
  have HD := Lib.hid hd
  clear hd
  go_enter Try.func4, Try.ntmps4
  go_wp2_with fail
  refine (works_any _).mono ?_
  rintro e w0 ⟨rfl, hb0⟩
  have HB0 := Lib.hid hb0
  clear hb0
  go_wp2_with fail
  refine (qnew_yes w0 (n := 4) (by decide)).mono ?_
  rintro e w1 ⟨qb, rb, hb, g, rfl, hq, hqb, hb1⟩
  have hsz := HB0.out.size
  have HW := Lib.hid (FW.start (W := w0) hq hqb hb1)
  have HW1 : Hid (FW w.heap.size w (w1.alloc (.cells #[.int .i64 0, .int .i64 0, .int .i64 0, .int .i64 0] 41)) qb w1.heap.size (noL 4) (noL 4)) := by
    obtain ⟨_, _, _, h⟩ := HW.out
    have hbb := h.b
    exact ⟨_, _, _, h.q, h.u, h.l4, by omega, HB0.out.trans (h.bel.mono hsz), h.ap⟩
  clear hq hqb hb1 HW HB0 hsz
  go_wp2_with fail
  generalize w1.alloc (.cells #[.int .i64 0, .int .i64 0, .int .i64 0, .int .i64 0] 41) = w2 at *
  generalize w1.heap.size = ub at *
  go_loopw [8] (fun i wr => ∃ (k : Nat) (L : List Int), k ≤ m ∧ k ≤ 100 ∧ i = .int .i64 k ∧ Hid (FW w.heap.size w wr qb ub L L)) (fun i _ => m - (intOf i).toNat)
  case atStart => exact ⟨0, _, Nat.zero_le _, by omega, rfl, HW1.out⟩
  case round =>
    clear HW1
    obtain ⟨k, L, hk, hk100, rfl, HT⟩ := hrel
    by_cases hgo : k < m ∧ k < 100
    · obtain ⟨hkm, hk2⟩ := hgo
      obtain ⟨db, off, rfl, c0, c1, c2⟩ := (HD.out.below HT.out.bel).at hkm
      have hk1 : decide ((k : Int) < 100) = true := by simp; omega
      have hkI : (k : Int) < (m : Int) := by omega
      have hk0 : (0 : Int) ≤ k := by omega
      have hr1 := bring_range (d k 1) (n := 4) (by decide)
      have hr2 := bring_range (d k 2) (n := 200) (by decide)
      generalize d k 0 = kd at *
      generalize d k 1 = t0 at *
      generalize d k 2 = dd0 at *
      go_wp2_with fail
      go_quiet ((go_at_call 9; exact Calls.quiet_of_same (bring_q _ _ (by omega) (by omega) _)))
      rename_i nq _
      have HT2 : Hid (FW w.heap.size w (wr.drewN nq) qb ub L L) := HT.out.below (below_drewN (Below.refl _ _) _)
      have c0' : (wr.drewN nq).cell? ⟨db, off + k * 3, none⟩ = some (.int .i64 kd) := c0
      clear c0 c1 c2 HT
      generalize wr.drewN nq = w3 at *
      generalize bring t0 4 = t at *
      generalize bring dd0 200 = dd at *
      obtain ⟨i, rfl⟩ : ∃ i : Nat, t = i := ⟨t.toNat, by omega⟩
      have hi4 : i < 4 := by omega
      have hiI : (i : Int) < 4 := by omega
      have hi0 : (0 : Int) ≤ i := by omega
      obtain ⟨r1, r2⟩ := hr2
      clear hr1
      have HU := Lib.hid HT2.out.u
      obtain ⟨hc, hf⟩ := HT2.out.cell hi4
      have hgl := getD_rng HT2.out.ok.1 i
      have hlen := HT2.out.ok.2
      obtain ⟨X, hX⟩ : ∃ X, L.getD i (-1) = X := ⟨_, rfl⟩
      have HXX := Lib.hid hX
      rw [hX] at hc hgl
      have HBK := Lib.hid (fun w => bring_any kd 3 w (by decide) (by decide))
      by_cases hkd : bring kd 3 = 2
      · rw [hkd] at HBK
        have HRM : Hid (rmL L i = L.set i (-1)) := set_rm HT2.out.ok.1 (by rw [hlen]; exact hi4)
        obtain ⟨Ev, hEv⟩ : ∃ Ev, decide (0 ≤ dl L i) = Ev := ⟨_, rfl⟩
        have HE := Lib.hid hEv
        have hdu : decide (0 < X + 1) = Ev := by
          rw [← hEv, dl_nat, hX]
          by_cases q : 0 ≤ X
          · rw [decide_eq_true q, decide_eq_true (by omega)]
          · rw [decide_eq_false q, decide_eq_false (by omega)]
        have HS0 := Lib.hid hc
        clear hkd hX hEv hlen
        obtain ⟨Y, hY⟩ : ∃ Y, X + 1 = Y := ⟨_, rfl⟩
        rw [hY] at hc hdu HS0
        go_wp2_with fail
        refine (HBK.out _).mono ?_
        rintro e w4 ⟨rfl, rfl⟩
        clear c0' HBK
        go_wp2_with fail
        go_region_held3 (fun w' => w'.cell? ⟨ub, i, none⟩ = some (.int .i64 Y))
          (first | assumption | exact HS0.out | go_keep)
          (first | (go_at_call 12; refine (fw_rem (HT2.out.below (Below.drew (Below.refl _ _))) i HE.out HRM.out).mono ?_; rintro e w5 ⟨rfl, hx5, on5⟩; have HX5 := Lib.hid hx5; have hS5 : w5.cell? ⟨ub, i, none⟩ = some (.int .i64 Y) := (World.cell?_of_block (a := ⟨ub, i, none⟩) on5).trans HS0.out))
        all_goals
          have HF : Hid (FW w.heap.size w (w5.setCell ⟨ub, i, none⟩ (.int .i64 0)) qb ub (L.set i (-1)) (L.set i (-1))) := HX5.out.set i (-1) rfl
          obtain ⟨s1, s2⟩ := HX5.out.cell hi4
          generalize L.getD i (-1) + 1 = zz at *
          clear hx5 on5 hS5 HS0 HX5 hc hf HU
          go_wp2_with fail
          go_roundw
          case rel => exact ⟨k + 1, _, by omega, by omega, by go_num, HF.out⟩
          case measure => simp [intOf]; omega
      · have hk2b : (bring kd 3 == 2) = false := by simpa using hkd
        have hk2c : decide (bring kd 3 = 2) = false := by simpa using hkd
        generalize bring kd 3 = kk at *
        have HS0 := Lib.hid hc
        clear hkd
        by_cases hX0 : 0 ≤ X
        · have HE : Hid (qE L i dd = 141) := by
            rcases qE_cases L i dd with ⟨_, _⟩ | ⟨_, _, _, _⟩ | ⟨_, _, _, _, _, q⟩ | ⟨_, _, _, _, q, _⟩
            · omega
            · omega
            · exact q
            · rw [dl_nat, hX] at q; omega
          have HL2 : Hid (qL L i dd = L) := if_neg (by rw [HE.out]; decide)
          have hz : (X + 1 == 0) = false := by simp; omega
          have hz2 : decide (X + 1 = 0) = false := by simp; omega
          clear hX hlen
          obtain ⟨Y, hY⟩ : ∃ Y, X + 1 = Y := ⟨_, rfl⟩
          rw [hY] at hc hz hz2 HS0
          clear hX0 hgl hY
          go_wp2_with fail
          refine (HBK.out _).mono ?_
          rintro e w4 ⟨rfl, rfl⟩
          clear c0' HBK
          go_wp2_with fail
          go_region_held3 (fun w' => w'.cell? ⟨ub, i, none⟩ = some (.int .i64 Y))
            (first | assumption | exact HS0.out | go_keep)
            (first | (go_at_call 10; refine (fw_put (HT2.out.below (Below.drew (Below.refl _ _))) i dd HE.out HL2.out).mono ?_; rintro e w5 ⟨rfl, hx5, on5⟩; have HX5 := Lib.hid hx5; have hS5 : w5.cell? ⟨ub, i, none⟩ = some (.int .i64 Y) := (World.cell?_of_block (a := ⟨ub, i, none⟩) on5).trans HS0.out))
          all_goals
            clear hx5 on5 HS0 hc hf HU
            go_wp2_with fail
            go_roundw
            case rel => exact ⟨k + 1, _, by omega, by omega, by go_num, HX5.out⟩
            case measure => simp [intOf]; omega
        · obtain rfl : X = -1 := by omega
          have HE : Hid (qE L i dd = 0) := by
            rcases qE_cases L i dd with ⟨_, _⟩ | ⟨_, _, _, _⟩ | ⟨_, _, _, _, q, _⟩ | ⟨_, _, _, _, _, q⟩
            · omega
            · omega
            · rw [dl_nat, hX] at q; omega
            · exact q
          have HL2 : Hid (qL L i dd = L.set i dd) := if_pos HE.out
          clear hX hlen
          rw [show (-1 : Int) + 1 = 0 from rfl] at hc HS0
          clear hX0 hgl
          go_wp2_with fail
          refine (HBK.out _).mono ?_
          rintro e w4 ⟨rfl, rfl⟩
          clear c0' HBK
          go_wp2_with fail
          go_region_held3 (fun w' => w'.cell? ⟨ub, i, none⟩ = some (.int .i64 0))
            (first | assumption | exact HS0.out | go_keep)
            (first | (go_at_call 10; refine (fw_put (HT2.out.below (Below.drew (Below.refl _ _))) i dd HE.out HL2.out).mono ?_; rintro e w5 ⟨rfl, hx5, on5⟩; have HX5 := Lib.hid hx5; have hS5 : w5.cell? ⟨ub, i, none⟩ = some (.int .i64 0) := (World.cell?_of_block (a := ⟨ub, i, none⟩) on5).trans HS0.out))
          all_goals
            have HF : Hid (FW w.heap.size w (w5.setCell ⟨ub, i, none⟩ (.int .i64 (dd + 1))) qb ub (L.set i dd) (L.set i dd)) := HX5.out.set i dd rfl
            have s2 := (HX5.out.cell hi4).2
            clear hx5 on5 HS0 HX5 hc hf HU
            go_wp2_with fail
            go_roundw
            case rel => exact ⟨k + 1, _, by omega, by omega, by go_num, HF.out⟩
            case measure => simp [intOf]; omega
    · have hstop : k = m ∨ k < m ∧ k = 100 := by omega
      clear hgo
      have HN0 : ∃ N, N = (srt L).length := ⟨_, rfl⟩
      obtain ⟨N, hN⟩ := HN0
      have HN := Lib.hid hN
      have HF := Lib.hid (fw_first HT.out)
      have HSA : Hid (sm L 4 = decide (0 < N)) := by
        unfold Hid
        rw [hN, ← sm_all, HT.out.ok.2]
      rw [← hN] at HF
      have hN4 : N ≤ 4 := by rw [hN]; have := srt_len L; rw [HT.out.ok.2] at this; exact this
      clear hN
      obtain ⟨isb, hisb⟩ : ∃ isb, decide (0 < N) = isb := ⟨_, rfl⟩
      have HISB := Lib.hid hisb
      rw [hisb] at HF HSA
      obtain ⟨f1, hf1⟩ : ∃ f1, (fs L).1 = f1 := ⟨_, rfl⟩
      obtain ⟨f2, hf2⟩ : ∃ f2, (fs L).2 = f2 := ⟨_, rfl⟩
      have HF1 := Lib.hid hf1
      have HF2 := Lib.hid hf2
      rw [hf1, hf2] at HF
      clear hisb hf1 hf2
      have hkd : k = m ∨ ((k : Int) < (m : Int) ∧ decide ((k : Int) < 100) = false) := by
        rcases hstop with h | ⟨h1, h2⟩
        · exact Or.inl h
        · exact Or.inr ⟨by omega, by simp; omega⟩
      clear hstop
      rcases hkd with rfl | ⟨hkd, hkd2⟩
      all_goals
        go_wp2_with fail
        refine HF.out.mono ?_
        rintro e w3 ⟨rfl, hb3⟩
        have HT3 := Lib.hid (HT.out.below hb3)
        clear hb3 HF HT
        go_wp2_with fail
        go_loopw [14, 15] (fun s i wi => ∃ j : Nat, j ≤ 4 ∧ i = .int .i64 j ∧ s = .bool (sm L j) ∧ wi = w3) (fun _ i _ => 4 - (intOf i).toNat)
        case atStart => exact ⟨0, by omega, rfl, rfl, rfl⟩
        case round =>
          obtain ⟨j, hj, rfl, rfl, rfl⟩ := hrel
          by_cases hj4 : j < 4
          · have hjI : (j : Int) < 4 := by omega
            have hj0 : (0 : Int) ≤ j := by omega
            have d1 := (HT3.out.cell hj4).1
            have hgl := getD_rng HT3.out.ok.1 j
            have hsm : sm L (j + 1) = (sm L j || decide (0 ≤ L.getD j (-1))) := rfl
            obtain ⟨X, hX⟩ : ∃ X, L.getD j (-1) = X := ⟨_, rfl⟩
            have HXX := Lib.hid hX
            rw [hX] at d1 hgl hsm
            obtain ⟨Y, hY⟩ : ∃ Y, X + 1 = Y := ⟨_, rfl⟩
            rw [hY] at d1
            have hY1 : Y - 1 = X := by omega
            have hYr : 0 ≤ Y ∧ Y ≤ 1099511627841 := by omega
            clear hX
            by_cases hX0 : 0 ≤ X
            · obtain ⟨p1, p2, p3⟩ := fs_le (L := L) (i := j) (by rw [HXX.out]; exact hX0)
              rw [HXX.out, HF2.out] at p2
              rw [HXX.out, HF2.out, HF1.out] at p3
              obtain rfl : isb = true := by rw [← HISB.out, HN.out, decide_eq_true p1]
              rw [decide_eq_true hX0, Bool.or_true] at hsm
              have HSM := Lib.hid hsm
              have hY0 : decide (0 < Y) = true := by simp; omega
              have hd1 : decide (X < f2) = false := by simp; omega
              generalize sm L j = b at *
              by_cases he : X = f2
              · have p4 := p3 he
                have hd2 : (X == f2) = true := by simpa using he
                have hd2b : decide (X = f2) = true := by simpa using he
                have hd3 : decide ((j : Int) < f1) = false := by simp; omega
                clear p1 p2 p3 he hX0 hsm hY hgl
                cases b
                all_goals
                  go_wp2_with fail
                  go_roundw
                  case rel => exact ⟨j + 1, by omega, by go_num, by rw [HSM.out], trivial⟩
                  case measure => simp [intOf]; omega
              · have hd2 : (X == f2) = false := by simpa using he
                have hd2b : decide (X = f2) = false := by simpa using he
                clear p1 p2 p3 he hX0 hsm hY hgl
                cases b
                all_goals
                  go_wp2_with fail
                  go_roundw
                  case rel => exact ⟨j + 1, by omega, by go_num, by rw [HSM.out], trivial⟩
                  case measure => simp [intOf]; omega
            · rw [decide_eq_false hX0, Bool.or_false] at hsm
              have HSM := Lib.hid hsm
              have hY0 : decide (0 < Y) = false := by simp; omega
              obtain ⟨b, hb⟩ : ∃ b, sm L j = b := ⟨_, rfl⟩
              have HBB := Lib.hid hb
              rw [hb]
              clear hX0 hsm hY hgl hb
              cases isb
              all_goals
                cases b
                all_goals
                  go_wp2_with fail
                  go_roundw
                  case rel => exact ⟨j + 1, by omega, by go_num, by rw [HSM.out, HBB.out], trivial⟩
                  case measure => simp [intOf]; omega
          · have hjd : decide ((j : Int) < 4) = false := by simp; omega
            have ej : j = 4 := by omega
            have HSJ : Hid (sm L j = isb) := by rw [ej]; exact HSA.out
            rw [HSJ.out]
            clear hj4 hj ej HSJ
            have HT4 := HT3
            clear HSA HT3
            cases isb
            · have hfin : True := trivial
              clear hfin
              have HBN := Lib.hid (fun w => bring_any now 220 w (by decide) (by decide))
              have hnr := bring_range now (n := 220) (by decide)
              obtain ⟨nb, hnb⟩ : ∃ nb, bring now 220 = nb := ⟨_, rfl⟩
              rw [hnb] at HBN hnr
              obtain ⟨n1, n2⟩ := hnr
              obtain ⟨nw, hnw⟩ : ∃ nw, nb - 10 = nw := ⟨_, rfl⟩
              have HLT := Lib.hid (fw_late HT4.out nw)
              obtain ⟨ll, hll⟩ : ∃ ll, (ids (lateL L nw)).length = ll := ⟨_, rfl⟩
              have HLL := Lib.hid hll
              have hlN : ll ≤ N := by rw [← hll, ids_len, HN.out]; exact late_le L nw
              have HLA := Lib.hid (late_all (L := L) (n := nw))
              clear hnb hll
              go_wp2_with fail
              refine (HBN.out _).mono ?_
              rintro e w4 ⟨rfl, rfl⟩
              clear HBN
              go_wp2_with fail
              refine HLT.out.mono ?_
              rintro e w5 ⟨lg, lcap, rfl, his, hb5⟩
              rw [HLL.out] at his ⊢
              obtain ⟨_, _, eS, hlc1, hlc2⟩ := his.slice
              rw [HLL.out] at eS hlc1
              injection eS with eS1 _ eS2
              subst eS1; subst eS2
              have hlc3 : lcap ≤ 9223372036854775807 := by unfold maxLen at hlc2; omega
              have HIS := Lib.hid his
              have HT5 := Lib.hid (HT4.out.below hb5)
              clear his hb5 HLT HT4 hlc2
              go_wp2_with fail
              refine (fw_jobs HT5.out).mono ?_
              rintro e w6 ⟨jg, rfl, hnr, hb6⟩
              rw [← HN.out] at hnr ⊢
              have HNR := Lib.hid hnr
              have HIS6 := Lib.hid (HIS.out.below hb6)
              have HT6 := Lib.hid (HT5.out.below hb6)
              have HEN : Hid ((ids (srt L)).length = N) := by unfold Hid; rw [ids_len, HN.out]
              have hlNN : decide (N < ll) = false := by simp; omega
              have hlNI : decide ((N : Int) < (ll : Int)) = false := by simp; omega
              clear hnr hb6 HIS HT5
              go_wp2_with fail
              go_loopw [19] (fun i wi => ∃ p : Nat, p ≤ N ∧ i = .int .i64 p ∧ Hid (Below w6.heap.size w6 wi)) (fun i _ => N - (intOf i).toNat)
              case atStart => exact ⟨0, Nat.zero_le _, rfl, Below.refl _ _⟩
              case round =>
                obtain ⟨p, hp, rfl, HB⟩ := hrel
                by_cases hpN : p < N
                · obtain ⟨q, hq, eq⟩ := srt_at (L := L) (k := p) (by rw [← HN.out]; exact hpN)
                  obtain ⟨_, ej, d1'⟩ := HNR.out.at (j := p) (by rw [HEN.out]; exact hpN)
                  injection ej with ej
                  injection ej with ej _ _
                  subst ej
                  have d1 := (HB.out.cell (p := ⟨jg, p, none⟩) (World.block_lt_of_cell? w6 _ d1')).trans d1'
                  rw [ids_getD, eq] at d1
                  dsimp only at d1
                  have hq4 : q < 4 := by rw [HT6.out.ok.2] at hq; exact hq
                  have d2' := (HT6.out.cell hq4).1
                  have d2 := (HB.out.cell (p := ⟨ub, q, none⟩) (World.block_lt_of_cell? w6 _ d2')).trans d2'
                  have hgl := getD_rng HT6.out.ok.1 q
                  have hiff := HLA.out.2 p (by rw [← HN.out]; exact hpN)
                  rw [eq] at hiff
                  dsimp only at hiff
                  obtain ⟨X, hX⟩ : ∃ X, L.getD q (-1) = X := ⟨_, rfl⟩
                  rw [hX] at d2 hgl hiff
                  have hiff2 : X ≤ nw ↔ p < ll := by rw [hiff, ← HLL.out, ids_len]
                  obtain ⟨Y, hY⟩ : ∃ Y, X + 1 = Y := ⟨_, rfl⟩
                  rw [hY] at d2
                  have hY1 : Y - 1 = X := by omega
                  have HBQ := Lib.hid (fun w => bring_any q 4 w (by decide) (by decide))
                  rw [bring_id (show (0 : Int) ≤ (q : Int) by omega) (show (q : Int) < 4 by omega)] at HBQ
                  have hqI : (q : Int) < 4 := by omega
                  have hq0 : (0 : Int) ≤ q := by omega
                  have hpI : (p : Int) < (N : Int) := by omega
                  have hp0 : (0 : Int) ≤ p := by omega
                  have hlx := HLA.out.1
                  have HEQ := Lib.hid eq
                  have HLX := Lib.hid hlx
                  have hYr : -1 ≤ Y ∧ Y ≤ 1099511627841 := by omega
                  clear eq d1' d2' hX hiff hlx hY hgl
                  by_cases hle : X ≤ nw
                  · have hpl : p < ll := hiff2.1 hle
                    have hd1 : decide (X ≤ nw) = true := by simpa using hle
                    have hd2 : decide ((p : Int) < (ll : Int)) = true := by simp; omega
                    have hplI : (p : Int) < (ll : Int) := by omega
                    obtain ⟨_, _, el, d3'⟩ := HIS6.out.at (i := p) hpl
                    injection el with el
                    injection el with el1 el2 _
                    subst el1; subst el2
                    rw [Nat.zero_add] at d3'
                    have d3 := (HB.out.cell (p := ⟨lg, p, none⟩) (World.block_lt_of_cell? w6 _ d3')).trans d3'
                    have e3 : (ids (lateL L nw)).getD p 0 = q := by
                      rw [ids_getD, HLX.out, List.getD_eq_getElem?_getD, List.getElem?_take, if_pos (by rw [← ids_len, HLL.out]; exact hpl), ← List.getD_eq_getElem?_getD, HEQ.out]
                    rw [e3] at d3
                    clear d3' e3 hle hiff2
                    go_wp2_with fail
                    refine (HBQ.out _).mono ?_
                    rintro e w7 ⟨rfl, rfl⟩
                    clear HBQ
                    go_wp2_with fail
                    go_quiet (fail)
                    go_wp2_with fail
                    go_roundw
                    case rel => exact ⟨p + 1, by omega, by go_num, below_drewN HB.out _⟩
                    case measure => simp [intOf]; omega
                  · have hpl : ¬ p < ll := fun h => hle (hiff2.2 h)
                    have hd1 : decide (X ≤ nw) = false := by simpa using hle
                    have hd2 : decide ((p : Int) < (ll : Int)) = false := by simp; omega
                    clear hle hiff2
                    go_wp2_with fail
                    refine (HBQ.out _).mono ?_
                    rintro e w7 ⟨rfl, rfl⟩
                    clear HBQ
                    go_wp2_with fail
                    go_quiet (fail)
                    go_wp2_with fail
                    go_roundw
                    case rel => exact ⟨p + 1, by omega, by go_num, below_drewN HB.out _⟩
                    case measure => simp [intOf]; omega
                · obtain rfl : p = N := by omega
                  go_wp2_with fail
                  go_ret
                  exact ⟨rfl, (HT6.out.below HB.out).bel⟩
            · obtain ⟨q, q1, q2, q3, q4⟩ := fs_at (L := L) (by rw [← HN.out]; exact of_decide_eq_true HISB.out)
              rw [HF1.out] at q2
              rw [HF2.out] at q3
              have hq4 : q < 4 := by rw [HT4.out.ok.2] at q1; exact q1
              have d1 := (HT4.out.cell hq4).1
              have hgl := getD_rng HT4.out.ok.1 q
              rw [← q3] at d1 hgl
              subst q2
              have HBF := Lib.hid (fun w => bring_any q 4 w (by decide) (by decide))
              rw [bring_id (show (0 : Int) ≤ (q : Int) by omega) (show (q : Int) < 4 by omega)] at HBF
              have hqI : (q : Int) < 4 := by omega
              have hq0 : (0 : Int) ≤ q := by omega
              clear q1 q3 q4
              go_wp2_with fail
              refine (HBF.out _).mono ?_
              rintro e w4 ⟨rfl, rfl⟩
              clear HBF
              have HBN := Lib.hid (fun w => bring_any now 220 w (by decide) (by decide))
              have hnr := bring_range now (n := 220) (by decide)
              obtain ⟨nb, hnb⟩ : ∃ nb, bring now 220 = nb := ⟨_, rfl⟩
              rw [hnb] at HBN hnr
              obtain ⟨n1, n2⟩ := hnr
              obtain ⟨nw, hnw⟩ : ∃ nw, nb - 10 = nw := ⟨_, rfl⟩
              have HLT := Lib.hid (fw_late HT4.out nw)
              obtain ⟨ll, hll⟩ : ∃ ll, (ids (lateL L nw)).length = ll := ⟨_, rfl⟩
              have HLL := Lib.hid hll
              have hlN : ll ≤ N := by rw [← hll, ids_len, HN.out]; exact late_le L nw
              have HLA := Lib.hid (late_all (L := L) (n := nw))
              clear hnb hll
              go_wp2_with fail
              refine (HBN.out _).mono ?_
              rintro e w4 ⟨rfl, rfl⟩
              clear HBN
              go_wp2_with fail
              refine HLT.out.mono ?_
              rintro e w5 ⟨lg, lcap, rfl, his, hb5⟩
              rw [HLL.out] at his ⊢
              obtain ⟨_, _, eS, hlc1, hlc2⟩ := his.slice
              rw [HLL.out] at eS hlc1
              injection eS with eS1 _ eS2
              subst eS1; subst eS2
              have hlc3 : lcap ≤ 9223372036854775807 := by unfold maxLen at hlc2; omega
              have HIS := Lib.hid his
              have HT5 := Lib.hid (HT4.out.below hb5)
              clear his hb5 HLT HT4 hlc2
              go_wp2_with fail
              refine (fw_jobs HT5.out).mono ?_
              rintro e w6 ⟨jg, rfl, hnr, hb6⟩
              rw [← HN.out] at hnr ⊢
              have HNR := Lib.hid hnr
              have HIS6 := Lib.hid (HIS.out.below hb6)
              have HT6 := Lib.hid (HT5.out.below hb6)
              have HEN : Hid ((ids (srt L)).length = N) := by unfold Hid; rw [ids_len, HN.out]
              have hlNN : decide (N < ll) = false := by simp; omega
              have hlNI : decide ((N : Int) < (ll : Int)) = false := by simp; omega
              clear hnr hb6 HIS HT5
              go_wp2_with fail
              go_loopw [19] (fun i wi => ∃ p : Nat, p ≤ N ∧ i = .int .i64 p ∧ Hid (Below w6.heap.size w6 wi)) (fun i _ => N - (intOf i).toNat)
              case atStart => exact ⟨0, Nat.zero_le _, rfl, Below.refl _ _⟩
              case round =>
                obtain ⟨p, hp, rfl, HB⟩ := hrel
                by_cases hpN : p < N
                · obtain ⟨q, hq, eq⟩ := srt_at (L := L) (k := p) (by rw [← HN.out]; exact hpN)
                  obtain ⟨_, ej, d1'⟩ := HNR.out.at (j := p) (by rw [HEN.out]; exact hpN)
                  injection ej with ej
                  injection ej with ej _ _
                  subst ej
                  have d1 := (HB.out.cell (p := ⟨jg, p, none⟩) (World.block_lt_of_cell? w6 _ d1')).trans d1'
                  rw [ids_getD, eq] at d1
                  dsimp only at d1
                  have hq4 : q < 4 := by rw [HT6.out.ok.2] at hq; exact hq
                  have d2' := (HT6.out.cell hq4).1
                  have d2 := (HB.out.cell (p := ⟨ub, q, none⟩) (World.block_lt_of_cell? w6 _ d2')).trans d2'
                  have hgl := getD_rng HT6.out.ok.1 q
                  have hiff := HLA.out.2 p (by rw [← HN.out]; exact hpN)
                  rw [eq] at hiff
                  dsimp only at hiff
                  obtain ⟨X, hX⟩ : ∃ X, L.getD q (-1) = X := ⟨_, rfl⟩
                  rw [hX] at d2 hgl hiff
                  have hiff2 : X ≤ nw ↔ p < ll := by rw [hiff, ← HLL.out, ids_len]
                  obtain ⟨Y, hY⟩ : ∃ Y, X + 1 = Y := ⟨_, rfl⟩
                  rw [hY] at d2
                  have hY1 : Y - 1 = X := by omega
                  have HBQ := Lib.hid (fun w => bring_any q 4 w (by decide) (by decide))
                  rw [bring_id (show (0 : Int) ≤ (q : Int) by omega) (show (q : Int) < 4 by omega)] at HBQ
                  have hqI : (q : Int) < 4 := by omega
                  have hq0 : (0 : Int) ≤ q := by omega
                  have hpI : (p : Int) < (N : Int) := by omega
                  have hp0 : (0 : Int) ≤ p := by omega
                  have hlx := HLA.out.1
                  have HEQ := Lib.hid eq
                  have HLX := Lib.hid hlx
                  have hYr : -1 ≤ Y ∧ Y ≤ 1099511627841 := by omega
                  clear eq d1' d2' hX hiff hlx hY hgl
                  by_cases hle : X ≤ nw
                  · have hpl : p < ll := hiff2.1 hle
                    have hd1 : decide (X ≤ nw) = true := by simpa using hle
                    have hd2 : decide ((p : Int) < (ll : Int)) = true := by simp; omega
                    have hplI : (p : Int) < (ll : Int) := by omega
                    obtain ⟨_, _, el, d3'⟩ := HIS6.out.at (i := p) hpl
                    injection el with el
                    injection el with el1 el2 _
                    subst el1; subst el2
                    rw [Nat.zero_add] at d3'
                    have d3 := (HB.out.cell (p := ⟨lg, p, none⟩) (World.block_lt_of_cell? w6 _ d3')).trans d3'
                    have e3 : (ids (lateL L nw)).getD p 0 = q := by
                      rw [ids_getD, HLX.out, List.getD_eq_getElem?_getD, List.getElem?_take, if_pos (by rw [← ids_len, HLL.out]; exact hpl), ← List.getD_eq_getElem?_getD, HEQ.out]
                    rw [e3] at d3
                    clear d3' e3 hle hiff2
                    go_wp2_with fail
                    refine (HBQ.out _).mono ?_
                    rintro e w7 ⟨rfl, rfl⟩
                    clear HBQ
                    go_wp2_with fail
                    go_quiet (fail)
                    go_wp2_with fail
                    go_roundw
                    case rel => exact ⟨p + 1, by omega, by go_num, below_drewN HB.out _⟩
                    case measure => simp [intOf]; omega
                  · have hpl : ¬ p < ll := fun h => hle (hiff2.2 h)
                    have hd1 : decide (X ≤ nw) = false := by simpa using hle
                    have hd2 : decide ((p : Int) < (ll : Int)) = false := by simp; omega
                    clear hle hiff2
                    go_wp2_with fail
                    refine (HBQ.out _).mono ?_
                    rintro e w7 ⟨rfl, rfl⟩
                    clear HBQ
                    go_wp2_with fail
                    go_quiet (fail)
                    go_wp2_with fail
                    go_roundw
                    case rel => exact ⟨p + 1, by omega, by go_num, below_drewN HB.out _⟩
                    case measure => simp [intOf]; omega
                · obtain rfl : p = N := by omega
                  go_wp2_with fail
                  go_ret
                  exact ⟨rfl, (HT6.out.below HB.out).bel⟩
end Go.Proofs.Ytmdckfekjbhcfaa
