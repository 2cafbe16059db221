/- The document's bells: how they lie in memory; there, ahead, Cancel, At, Next, Count, New. -/
import Derived.Test.YtdfolbnnhglpeaaBellC
namespace Go.Proofs.Ytdfolbnnhglpeaa
open Go.RowKit Rk
set_option linter.unusedVariables false

/-- a row of bells that can be read -/
def RL (w : World) (mg : Nat) (v : Value) (l : List En) : Prop :=
  (l = [] ∧ v = .slice none 0 0) ∨ ∃ off cap, v = .slice (some ⟨mg, off, none⟩) l.length cap ∧ l.length ≤ cap ∧ cap ≤ maxLen ∧ mg < w.heap.size ∧
    ∀ i (hi : i < l.length), w.cell? ⟨mg, off + i * 3, none⟩ = some (.int .i64 (l[i]).2) ∧ w.cell? ⟨mg, off + i * 3 + 1, none⟩ = some (.int .i64 ((l[i]).1 / 16)) ∧ w.cell? ⟨mg, off + i * 3 + 2, none⟩ = some (.int .i64 ((l[i]).1 % 16))
section
variable {w w' : World} {B mb mg : Nat} {v : Value} {l : List En}
theorem RL.keep (h : RL w mg v l) (hs : w.heap.size ≤ w'.heap.size) (e : w'.heap[mg]? = w.heap[mg]?) : RL w' mg v l := by
  rcases h with h | ⟨off, cap, hv, h1, h2, h3, h4⟩
  · exact Or.inl h
  · refine Or.inr ⟨off, cap, hv, h1, h2, by omega, fun i hi => ?_⟩
    obtain ⟨a, b, c⟩ := h4 i hi
    exact ⟨(World.cell?_of_block e).trans a, (World.cell?_of_block e).trans b, (World.cell?_of_block e).trans c⟩
theorem RL.slice (h : RL w mg v l) : ∃ a cap, v = .slice a l.length cap := by
  rcases h with ⟨h1, h2⟩ | ⟨off, cap, hv, _⟩
  · exact ⟨none, 0, by rw [h1, h2]; rfl⟩
  · exact ⟨_, _, hv⟩
theorem RL.form (h : RL w mg v l) (hl : 0 < l.length) : ∃ off cap, v = .slice (some ⟨mg, off, none⟩) l.length cap ∧ l.length ≤ cap ∧ cap ≤ maxLen ∧ mg < w.heap.size ∧
    ∀ i (hi : i < l.length), w.cell? ⟨mg, off + i * 3, none⟩ = some (.int .i64 (l[i]).2) ∧ w.cell? ⟨mg, off + i * 3 + 1, none⟩ = some (.int .i64 ((l[i]).1 / 16)) ∧ w.cell? ⟨mg, off + i * 3 + 2, none⟩ = some (.int .i64 ((l[i]).1 % 16)) := by
  rcases h with ⟨h1, _⟩ | h
  · subst h1; simp at hl
  · exact h
theorem BR.rl (h : BR w B v l) (hm : mg < w.heap.size) : ∃ mg', RL w mg' v l ∧ mg' < w.heap.size ∧ (l ≠ [] → B ≤ mg') ∧ (mg' = mg ∨ B ≤ mg') := by
  rcases h.2 with ⟨h1, h2⟩ | ⟨g, cap, cur, hv, hb, hg, h3, h4, _⟩
  · exact ⟨mg, Or.inl ⟨List.eq_nil_of_length_eq_zero h2, h1⟩, hm, fun hne => (hne (List.eq_nil_of_length_eq_zero h2)).elim, Or.inl rfl⟩
  · refine ⟨g, Or.inr ⟨0, cap, hv, h3, h4, lt_of_heap hg, fun i hi => ?_⟩, lt_of_heap hg, fun _ => hb, Or.inr hb⟩
    simp only [Nat.zero_add]
    exact h.cells hv i hi
end
/-- the document's bells at block mb: their list lies at block mg -/
structure RB (w : World) (mb mg : Nat) (l : List En) : Prop where
  ne : l ≠ [] → mb ≠ mg
  lg : mg < w.heap.size
  S : ∃ v, w.heap[mb]? = some (.cells #[v] 53 (0, 0)) ∧ RL w mg v l
section
variable {w w' : World} {B mb mg : Nat} {v : Value} {l : List En}
theorem RB.lb (h : RB w mb mg l) : mb < w.heap.size := by obtain ⟨v, h1, _⟩ := h.S; exact lt_of_heap h1
theorem RB.keep (h : RB w mb mg l) (hs : w.heap.size ≤ w'.heap.size) (e1 : w'.heap[mb]? = w.heap[mb]?) (e2 : w'.heap[mg]? = w.heap[mg]?) : RB w' mb mg l := by
  obtain ⟨v, h1, h2⟩ := h.S
  exact ⟨h.ne, Nat.lt_of_lt_of_le h.lg hs, v, e1.trans h1, h2.keep hs e2⟩
theorem RB.below (h : RB w mb mg l) (b : Below w.heap.size w w') : RB w' mb mg l := h.keep b.size (b.block _ h.lb) (b.block _ h.lg)
theorem RB.only {S : Nat → Prop} (h : RB w mb mg l) (o : Only S w w') (h1 : ¬ S mb) (h2 : ¬ S mg) : RB w' mb mg l := h.keep o.size (o.block _ h.lb h1) (o.block _ h.lg h2)
/-- a row of the call's own becomes the document's list -/
theorem BR.rb (h : BR w B v l) (hB : mb < B) (h2 : mg < w.heap.size) (u : Value) (hu : w.heap[mb]? = some (.cells #[u] 53 (0, 0))) :
    ∃ mg', RB (w.setCell ⟨mb, 0, none⟩ v) mb mg' l ∧ (mg' = mg ∨ B ≤ mg') := by
  have e : (w.setCell ⟨mb, 0, none⟩ v).heap[mb]? = some (.cells #[v] 53 (0, 0)) := one_setCell hu
  have hsz : (w.setCell ⟨mb, 0, none⟩ v).heap.size = w.heap.size := by simp [World.setCell]
  obtain ⟨mg', h3, h4, h5, h6⟩ := h.rl h2
  refine ⟨mg', ⟨fun hne => by have := h5 hne; omega, by omega, v, e, ?_⟩, h6⟩
  rcases h3 with h3 | h3
  · exact Or.inl h3
  · by_cases hl : l = []
    · subst hl
      obtain ⟨off, cap, hv, a, b, c, d⟩ := h3
      exact Or.inr ⟨off, cap, hv, a, b, by omega, fun i hi => by simp at hi⟩
    · have h7 := h5 hl
      exact RL.keep (Or.inr h3) (by omega) (heap_set_other (by omega))
/-- a call of the document's bells -/
def RbP (v : Value) (mb mg : Nat) (l : List En) (w : World) (e : Ending) (w' : World) : Prop :=
  e = .returned v ∧ (∃ mg', RB w' mb mg' l ∧ (mg' = mg ∨ w.heap.size ≤ mg')) ∧ Only (fun k => k = mb) w w'
theorem RbP.same (h : RB w mb mg l) : RbP v mb mg l w (.returned v) w := ⟨rfl, ⟨mg, h, Or.inl rfl⟩, Only.refl _ _⟩
theorem RbP.of_below (h : RB w mb mg l) (b : Below w.heap.size w w') : RbP v mb mg l w (.returned v) w' := ⟨rfl, ⟨mg, h.below b, Or.inl rfl⟩, Only.of_below b⟩
theorem RbP.val {u : Value} {e : Ending} (h : RbP v mb mg l w e w') : RbP u mb mg l w (.returned u) w' := ⟨rfl, h.2.1, h.2.2⟩
theorem RbP.next {w1 : World} {mg1 : Nat} {e : Ending} (o : Only (fun k => k = mb) w w1) (hg : mg1 = mg ∨ w.heap.size ≤ mg1) (k : RbP v mb mg1 l w1 e w') : RbP v mb mg l w e w' := by
  obtain ⟨he, ⟨g2, h2, hg2⟩, o2⟩ := k
  have hs := o.size
  exact ⟨he, ⟨g2, h2, by omega⟩, o.trans o2⟩
end

theorem rbnew_any (w : World) : Calls Try.prog 8 #[] w (fun e w' => e = .returned (.pointer (some ⟨w.heap.size, 0, none⟩)) ∧ Hid (RB w' w.heap.size w.heap.size []) ∧ Hid (Below w.heap.size w w')) := by
  go_enter Try.func8, Try.ntmps8
  go_wp2_with fail
  go_ret
  exact ⟨rfl, ⟨fun h => (h rfl).elim, by simp, _, heap_alloc_new w _, Or.inl ⟨rfl, rfl⟩⟩, (Below.refl _ _).alloc (Nat.le_refl _) _⟩

theorem there_yes (kind id : Int) (w : World) (h : 0 ≤ kind ∧ kind ≤ 3 ∧ 0 ≤ id ∧ id ≤ 15) : Calls Try.prog 37 #[.int .i64 kind, .int .i64 id] w (IsB true w) := by
  have h1 : decide (0 ≤ kind) = true := by simp; omega
  have h2 : decide (kind ≤ 3) = true := by simp; omega
  have h3 : decide (0 ≤ id) = true := by simp; omega
  have h4 : decide (id < 16) = true := by simp; omega
  clear h
  go_enter Try.func37, Try.ntmps37
  go_wp2
  go_ret
  exact ⟨rfl, rfl⟩
theorem there_no (kind id : Int) (w : World) (h : ¬ (0 ≤ kind ∧ kind ≤ 3 ∧ 0 ≤ id ∧ id ≤ 15)) : Calls Try.prog 37 #[.int .i64 kind, .int .i64 id] w (IsB false w) := by
  by_cases a1 : 0 ≤ kind
  · have h1 : decide (0 ≤ kind) = true := by simp; omega
    by_cases a2 : kind ≤ 3
    · have h2 : decide (kind ≤ 3) = true := by simp; omega
      by_cases a3 : 0 ≤ id
      · have h3 : decide (0 ≤ id) = true := by simp; omega
        have h4 : decide (id < 16) = false := by simp; omega
        clear h a1 a2 a3
        go_enter Try.func37, Try.ntmps37
        go_wp2
        go_ret
        exact ⟨rfl, rfl⟩
      · have h3 : decide (0 ≤ id) = false := by simp; omega
        clear h a1 a2 a3
        go_enter Try.func37, Try.ntmps37
        go_wp2
        go_ret
        exact ⟨rfl, rfl⟩
    · have h2 : decide (kind ≤ 3) = false := by simp; omega
      clear h a1 a2
      go_enter Try.func37, Try.ntmps37
      go_wp2
      go_ret
      exact ⟨rfl, rfl⟩
  · have h1 : decide (0 ≤ kind) = false := by simp; omega
    clear h a1
    go_enter Try.func37, Try.ntmps37
    go_wp2
    go_ret
    exact ⟨rfl, rfl⟩

/-- does a bell come ahead of another one, field by field -/
def ahd (a0 a1 a2 b0 b1 b2 : Int) : Bool := if a0 = b0 then (if a1 = b1 then decide (a2 < b2) else decide (a1 < b1)) else decide (a0 < b0)
theorem ahd_lt {x y : En} : ahd x.2 (x.1 / 16) (x.1 % 16) y.2 (y.1 / 16) (y.1 % 16) = decide (lt x y) := by
  unfold ahd
  split
  · split
    · exact decide_eq_decide.2 (by unfold lt; omega)
    · exact decide_eq_decide.2 (by unfold lt; omega)
  · exact decide_eq_decide.2 (by unfold lt; omega)
def AhdP (r : Bool) (w : World) (e : Ending) (w' : World) : Prop := e = .returned (.bool r) ∧ Grw w w'
set_option maxHeartbeats 1000000 in
theorem rahead_any (a0 a1 a2 b0 b1 b2 : Int) (w : World) : Calls Try.prog 38 #[.agg #[.int .i64 a0, .int .i64 a1, .int .i64 a2], .agg #[.int .i64 b0, .int .i64 b1, .int .i64 b2]] w (AhdP (ahd a0 a1 a2 b0 b1 b2) w) := by
  unfold ahd
  by_cases h0 : a0 = b0
  · subst h0
    have e0 : (a0 != a0) = false := by simp
    have e0' : (a0 == a0) = true := by simp
    rw [if_pos rfl]
    by_cases h1 : a1 = b1
    · subst h1
      have e1 : (a1 != a1) = false := by simp
      have e1' : (a1 == a1) = true := by simp
      have e1'' : decide (a1 < a1) = false := by simp
      rw [if_pos rfl]
      go_enter Try.func38, Try.ntmps38
      go_wp2_with fail
      go_ret
      exact ⟨rfl, ((Grw.refl _).alloc _).alloc _⟩
    · rw [if_neg h1]
      have e1 : (a1 != b1) = true := by simpa using h1
      have e1' : (a1 == b1) = false := by simpa using h1
      clear h1
      go_enter Try.func38, Try.ntmps38
      go_wp2_with fail
      go_ret
      exact ⟨rfl, ((Grw.refl _).alloc _).alloc _⟩
  · rw [if_neg h0]
    have e0 : (a0 != b0) = true := by simpa using h0
    have e0' : (a0 == b0) = false := by simpa using h0
    clear h0
    go_enter Try.func38, Try.ntmps38
    go_wp2_with fail
    go_ret
    exact ⟨rfl, ((Grw.refl _).alloc _).alloc _⟩

set_option maxHeartbeats 1000000 in
theorem lahead_any (a0 a1 a2 b0 b1 b2 : Int) (w : World) : Calls Try.prog 21 #[.agg #[.int .i64 a0, .int .i64 a1, .int .i64 a2], .agg #[.int .i64 b0, .int .i64 b1, .int .i64 b2]] w (AhdP (ahd a0 a1 a2 b0 b1 b2) w) := by
  unfold ahd
  by_cases h0 : a0 = b0
  · subst h0
    have e0 : (a0 != a0) = false := by simp
    have e0' : (a0 == a0) = true := by simp
    rw [if_pos rfl]
    by_cases h1 : a1 = b1
    · subst h1
      have e1 : (a1 != a1) = false := by simp
      have e1' : (a1 == a1) = true := by simp
      have e1'' : decide (a1 < a1) = false := by simp
      rw [if_pos rfl]
      go_enter Try.func21, Try.ntmps21
      go_wp2_with fail
      go_ret
      exact ⟨rfl, ((Grw.refl _).alloc _).alloc _⟩
    · rw [if_neg h1]
      have e1 : (a1 != b1) = true := by simpa using h1
      have e1' : (a1 == b1) = false := by simpa using h1
      clear h1
      cases h2 : decide (a1 < b1)
      all_goals
        go_enter Try.func21, Try.ntmps21
        go_wp2_with fail
        go_ret
        exact ⟨rfl, ((Grw.refl _).alloc _).alloc _⟩
  · rw [if_neg h0]
    have e0 : (a0 != b0) = true := by simpa using h0
    have e0' : (a0 == b0) = false := by simpa using h0
    clear h0
    go_enter Try.func21, Try.ntmps21
    go_wp2_with fail
    go_ret
    exact ⟨rfl, ((Grw.refl _).alloc _).alloc _⟩


theorem three_new (w : World) (x y z : Value) (t : TypeId) : ∀ (j : Nat) (u : Value), [x, y, z][j]? = some u → (w.alloc (.cells #[x, y, z] t)).cell? ((⟨w.heap.size, 0, none⟩ : Addr).add j) = some u := by
  intro j u hj
  rw [Addr.add_lit, Nat.zero_add, cell_of_row _ _ _ _ _ _ (heap_alloc_new w _)]
  match j, hj with
  | 0, hj => exact hj
  | 1, hj => exact hj
  | 2, hj => exact hj
  | j + 3, hj => simp at hj
theorem del_append' (id : Int) (l k : List En) : del id (l ++ k) = del id l ++ del id k := by unfold del; exact List.filter_append ..
theorem take_snoc' {l : List En} {i : Nat} (hi : i < l.length) : l.take (i + 1) = l.take i ++ [l[i]] := by rw [List.take_succ_eq_append_getElem hi]
/-- is a bell of that kind and id: its number -/
theorem num_iff {x : En} (hd : 0 ≤ x.1 ∧ x.1 < 64) {kind id : Int} : x.1 = bk kind id ↔ (x.1 / 16 = kind ∧ x.1 % 16 = id) := by
  rw [← bk_iff hd]; exact eq_comm

set_option maxHeartbeats 4000000 in
theorem rcan_any (w : World) (mb mg : Nat) (l : List En) (kind id : Int) (h : RB w mb mg l) (hW : Wf l) :
    Calls Try.prog 25 #[.pointer (some ⟨mb, 0, none⟩), .int .i64 kind, .int .i64 id] w (RbP (.bool (mp l (bk kind id)).isSome) mb mg (del (bk kind id) l) w) := by
  obtain ⟨i0, hi, hz0, hz1, hz2⟩ := info_parts infoBell
  have HInfo := Lib.hid (⟨hi, hz0, hz1, hz2⟩ : _ ∧ _ ∧ _ ∧ _)
  clear hi hz0 hz1 hz2
  obtain ⟨v, h1, h2⟩ := h.S
  obtain ⟨a, cap, hv⟩ := h2.slice
  have hlb := h.lb
  have hlg := h.lg
  have HBlk := Lib.hid h1
  rw [hv] at HBlk
  have HW := Lib.hid hW
  obtain ⟨n, hn⟩ : ∃ n, l.length = n := ⟨_, rfl⟩
  have HN' := Lib.hid hn
  have hpos : Hid (∀ i (hi : i < l.length), ∃ off : Nat, a = some ⟨mg, off, none⟩ ∧ n ≤ cap ∧ cap ≤ 9223372036854775807 ∧ w.cell? ⟨mg, off + i * 3, none⟩ = some (.int .i64 (l[i]).2) ∧ w.cell? ⟨mg, off + i * 3 + 1, none⟩ = some (.int .i64 ((l[i]).1 / 16)) ∧ w.cell? ⟨mg, off + i * 3 + 2, none⟩ = some (.int .i64 ((l[i]).1 % 16))) := fun i hin => by
    obtain ⟨off, cap', hv', hle, hmx, _, hc⟩ := h2.form (by omega)
    rw [hv] at hv'
    injection hv' with e1 e2 e3
    unfold maxLen at hmx
    obtain ⟨c1, c2, c3⟩ := hc i hin
    exact ⟨off, e1, by omega, by omega, c1, c2, c3⟩
  rw [hn] at HBlk
  clear h h1 h2 hv hn hW
  have c0 := cell_of_one HBlk.out
  go_enter Try.func25, Try.ntmps25
  go_wp2_with fail
  go_loopw [7, 8] (fun o i wr => ∃ i' : Nat, i' ≤ n ∧ i = .int .i64 i' ∧ Hid (BR wr w.heap.size o (del (bk kind id) (l.take i'))) ∧ Hid (Below w.heap.size w wr)) (fun _ i _ => n - (intOf i).toNat)
  case atStart => exact ⟨0, Nat.zero_le _, rfl, by unfold Hid; simp only [List.take_zero]; exact BR.nil w _, Below.refl _ _⟩
  case round =>
    clear c0
    obtain ⟨i, hi, rfl, HE, HBl⟩ := hrel
    have c0 := cell_of_one ((HBl.out.block mb hlb).trans HBlk.out)
    by_cases hin : i < n
    · have hil : i < l.length := by rw [HN'.out]; exact hin
      obtain ⟨off, ha, hle, hmx, e1, e2, e3⟩ := hpos.out i hil
      have d1 := (HBl.out.cell (p := ⟨mg, off + i * 3, none⟩) hlg).trans e1
      have d2 := (HBl.out.cell (p := ⟨mg, off + i * 3 + 1, none⟩) hlg).trans e2
      have d3 := (HBl.out.cell (p := ⟨mg, off + i * 3 + 2, none⟩) hlg).trans e3
      have HS := Lib.hid (take_snoc' hil)
      have hnum := num_iff (HW.out.dom (l[i]) (List.getElem_mem _)) (kind := kind) (id := id)
      clear e1 e2 e3
      generalize hx : l[i] = x at d1 d2 d3 HS hnum
      clear hx
      obtain ⟨x1, x2⟩ := x
      dsimp only at d1 d2 d3 hnum
      obtain ⟨q, hq⟩ : ∃ q, x1 / 16 = q := ⟨_, rfl⟩
      obtain ⟨r, hr⟩ : ∃ r, x1 % 16 = r := ⟨_, rfl⟩
      rw [hq] at d2 hnum
      rw [hr] at d3 hnum
      have HQ := Lib.hid hq
      have HRm := Lib.hid hr
      rw [ha] at c0
      clear ha hq hr
      by_cases hk : q = kind
      · have t1 : (q != kind) = false := by simpa using hk
        by_cases hd : r = id
        · have t2 : (r != id) = false := by simpa using hd
          have HNe : Hid ((x1 != bk kind id) = false) := by unfold Hid; simpa using hnum.2 ⟨hk, hd⟩
          clear hnum hk hd
          have HE2 : Hid (BR wr w.heap.size u7 (del (bk kind id) (l.take (i + 1)))) := by
            unfold Hid
            rw [HS.out, del_append']
            have : del (bk kind id) [(x1, x2)] = [] := by unfold del; simp only [List.filter_cons, HNe.out]; rfl
            rw [this, List.append_nil]
            exact HE.out
          clear HE HNe
          go_wp2_with fail
          go_roundw
          case rel => exact ⟨i + 1, by omega, by go_num, HE2, HBl⟩
          case measure => simp [intOf]; omega
        · have t2 : (r != id) = true := by simpa using hd
          have HNe : Hid ((x1 != bk kind id) = true) := by unfold Hid; simp only [bne_iff_ne, ne_eq]; exact fun e => hd (hnum.1 e).2
          clear hnum hk hd
          have HL := Lib.hid (rfl : (del (bk kind id) (l.take i)).length = (del (bk kind id) (l.take i)).length)
          have HLn : (del (bk kind id) (l.take i)).length ≤ 64 := by
            have h1 := List.length_filter_le (fun x : En => x.1 != bk kind id) (l.take i)
            have h3 := List.length_take_le i l
            have h4 := HW.out.len
            have h5 := HN'.out
            unfold del; omega
          have Hm1 : Hid ((del (bk kind id) (l.take i)).length + 1 ≤ maxLen) := by unfold Hid maxLen; omega
          have Hm2 : Hid (((del (bk kind id) (l.take i)).length + 1) * 24 ≤ 140737488355328) := by unfold Hid; omega
          have Hm3 : ∀ o, Hid (w.heap.size ≤ (wr.alloc o).heap.size) := fun o => by have := HBl.out.size; unfold Hid; simp; omega
          have HD : Hid (del (bk kind id) (l.take (i + 1)) = del (bk kind id) (l.take i) ++ [(x1, x2)]) := by
            unfold Hid
            rw [HS.out, del_append']
            have : del (bk kind id) [(x1, x2)] = [(x1, x2)] := by unfold del; simp only [List.filter_cons, HNe.out]; rfl
            rw [this]
          clear HNe
          go_wp2_with (at_builtin; refine wpList_append_own _ rfl _ _ 34 rfl w.heap.size 44 i0 _ 3 24 Try.underlying34 HInfo.out.1 HInfo.out.2.1 HInfo.out.2.2.1 HInfo.out.2.2.2 rfl (by decide) _ _ _ rfl (World.ownsRow.alloc HE.out _) ⟨wr.heap.size, 0, none⟩ 1 1 [.int .i64 x2, .int .i64 q, .int .i64 r] rfl rfl (three_new _ _ _ _ _) (one3 _ _ _) Hm1.out Hm2.out (Hm3 _).out ?_)
          intro v' w1 hown hgrow _
          have HE2 : Hid (BR w1 w.heap.size v' (del (bk kind id) (l.take (i + 1)))) := by
            unfold Hid
            rw [HD.out]
            exact BR.more (k := [(x1, x2)]) hown rfl (by rw [← HQ.out, ← HRm.out]; rfl)
          have HB2 : Hid (Below w.heap.size w w1) := (HBl.out.alloc HBl.out.size _).grown hgrow (Hm3 _).out (fun k hk => HE.out.own k hk)
          clear hown hgrow Hm1 Hm2 Hm3 HE HBl HD
          go_wp2_with fail
          go_roundw
          case rel => exact ⟨i + 1, by omega, by go_num, HE2, HB2⟩
          case measure => simp [intOf]; omega
      · have t1 : (q != kind) = true := by simpa using hk
        have HNe : Hid ((x1 != bk kind id) = true) := by unfold Hid; simp only [bne_iff_ne, ne_eq]; exact fun e => hk (hnum.1 e).1
        clear hnum hk
        have HL := Lib.hid (rfl : (del (bk kind id) (l.take i)).length = (del (bk kind id) (l.take i)).length)
        have HLn : (del (bk kind id) (l.take i)).length ≤ 64 := by
          have h1 := List.length_filter_le (fun x : En => x.1 != bk kind id) (l.take i)
          have h3 := List.length_take_le i l
          have h4 := HW.out.len
          have h5 := HN'.out
          unfold del; omega
        have Hm1 : Hid ((del (bk kind id) (l.take i)).length + 1 ≤ maxLen) := by unfold Hid maxLen; omega
        have Hm2 : Hid (((del (bk kind id) (l.take i)).length + 1) * 24 ≤ 140737488355328) := by unfold Hid; omega
        have Hm3 : ∀ o, Hid (w.heap.size ≤ (wr.alloc o).heap.size) := fun o => by have := HBl.out.size; unfold Hid; simp; omega
        have HD : Hid (del (bk kind id) (l.take (i + 1)) = del (bk kind id) (l.take i) ++ [(x1, x2)]) := by
          unfold Hid
          rw [HS.out, del_append']
          have : del (bk kind id) [(x1, x2)] = [(x1, x2)] := by unfold del; simp only [List.filter_cons, HNe.out]; rfl
          rw [this]
        clear HNe
        go_wp2_with (at_builtin; refine wpList_append_own _ rfl _ _ 34 rfl w.heap.size 44 i0 _ 3 24 Try.underlying34 HInfo.out.1 HInfo.out.2.1 HInfo.out.2.2.1 HInfo.out.2.2.2 rfl (by decide) _ _ _ rfl (World.ownsRow.alloc HE.out _) ⟨wr.heap.size, 0, none⟩ 1 1 [.int .i64 x2, .int .i64 q, .int .i64 r] rfl rfl (three_new _ _ _ _ _) (one3 _ _ _) Hm1.out Hm2.out (Hm3 _).out ?_)
        intro v' w1 hown hgrow _
        have HE2 : Hid (BR w1 w.heap.size v' (del (bk kind id) (l.take (i + 1)))) := by
          unfold Hid
          rw [HD.out]
          exact BR.more (k := [(x1, x2)]) hown rfl (by rw [← HQ.out, ← HRm.out]; rfl)
        have HB2 : Hid (Below w.heap.size w w1) := (HBl.out.alloc HBl.out.size _).grown hgrow (Hm3 _).out (fun k hk => HE.out.own k hk)
        clear hown hgrow Hm1 Hm2 Hm3 HE HBl HD
        go_wp2_with fail
        go_roundw
        case rel => exact ⟨i + 1, by omega, by go_num, HE2, HB2⟩
        case measure => simp [intOf]; omega
    · obtain rfl : n = i := by omega
      have HE2 : Hid (BR wr w.heap.size u7 (del (bk kind id) l)) := by have := HE.out; rwa [List.take_of_length_le (by rw [HN'.out]; exact Nat.le_refl _)] at this
      clear HE
      obtain ⟨a', cap', hv5⟩ := HE2.out.slice
      have hu := (HBl.out.block mb hlb).trans HBlk.out
      have fr := free_of_one hu
      obtain ⟨k', hk'⟩ : ∃ k', (del (bk kind id) l).length = k' := ⟨_, rfl⟩
      rw [hk'] at hv5
      have hd : decide (k' < n) = (mp l (bk kind id)).isSome := by
        have := HW.out.len_del (id := bk kind id)
        rw [hk', HN'.out] at this
        cases hm : mp l (bk kind id) with
        | none => rw [hm] at this; simp at this; simp; omega
        | some k => rw [hm] at this; simp at this; have := HW.out.look.1 hm; have h3 : 0 < l.length := List.length_pos_of_mem this; rw [HN'.out] at h3; simp; omega
      have hsz : mg < wr.heap.size := Nat.lt_of_lt_of_le hlg HBl.out.size
      have HF := Lib.hid (HE2.out.rb (mg := mg) hlb hsz _ hu)
      have HOn : Hid (Only (fun k => k = mb) w (wr.setCell ⟨mb, 0, none⟩ u7)) := Only.setCell (S := fun k => k = mb) (p := ⟨mb, 0, none⟩) (Only.of_below HBl.out) (Or.inl rfl) _
      subst hv5
      generalize (mp l (bk kind id)).isSome = bb at *
      clear hk' hu hpos HE2
      go_wp2_with fail
      go_ret
      exact ⟨rfl, HF.out, HOn.out⟩

set_option maxHeartbeats 4000000 in
theorem rat_any (w : World) (mb mg : Nat) (l : List En) (kind id : Int) (h : RB w mb mg l) (hW : Wf l) :
    Calls Try.prog 13 #[.pointer (some ⟨mb, 0, none⟩), .int .i64 kind, .int .i64 id] w (NxP (keyN (mp l) (bk kind id)) (mp l (bk kind id)).isSome w) := by
  obtain ⟨v, h1, h2⟩ := h.S
  obtain ⟨a, cap, hv⟩ := h2.slice
  have HW := Lib.hid hW
  have c0 := cell_of_one h1
  rw [hv] at c0
  obtain ⟨n, hn⟩ : ∃ n, l.length = n := ⟨_, rfl⟩
  have HN' := Lib.hid hn
  have hpos : Hid (∀ i (hi : i < l.length), ∃ off : Nat, a = some ⟨mg, off, none⟩ ∧ n ≤ cap ∧ cap ≤ 9223372036854775807 ∧ w.cell? ⟨mg, off + i * 3, none⟩ = some (.int .i64 (l[i]).2) ∧ w.cell? ⟨mg, off + i * 3 + 1, none⟩ = some (.int .i64 ((l[i]).1 / 16)) ∧ w.cell? ⟨mg, off + i * 3 + 2, none⟩ = some (.int .i64 ((l[i]).1 % 16))) := fun i hin => by
    obtain ⟨off, cap', hv', hle, hmx, _, hc⟩ := h2.form (by omega)
    rw [hv] at hv'
    injection hv' with e1 e2 e3
    unfold maxLen at hmx
    obtain ⟨c1, c2, c3⟩ := hc i hin
    exact ⟨off, e1, by omega, by omega, c1, c2, c3⟩
  rw [hn] at c0
  have HC0 := Lib.hid c0
  clear h h1 h2 hv hn hW c0
  go_enter Try.func13, Try.ntmps13
  go_wp2_with fail
  go_loop [8] (fun i => ∃ i' : Nat, i' ≤ n ∧ i = .int .i64 i' ∧ Hid (∀ j (hj : j < l.length), j < i' → (l[j]).1 ≠ bk kind id)) (fun i => n - (intOf i).toNat)
  case atStart => exact ⟨0, Nat.zero_le _, rfl, fun j _ hj => by omega⟩
  case round =>
    obtain ⟨i, hi, rfl, HNot⟩ := hrel
    have c0 := HC0.out
    by_cases hin : i < n
    · have hil : i < l.length := by rw [HN'.out]; exact hin
      obtain ⟨off, ha, hle, hmx, d1, d2, d3⟩ := hpos.out i hil
      have hnum := num_iff (HW.out.dom (l[i]) (List.getElem_mem _)) (kind := kind) (id := id)
      have hmem : l[i] ∈ l := List.getElem_mem _
      have HNx : Hid ((l[i]).1 ≠ bk kind id → ∀ j (hj : j < l.length), j < i + 1 → (l[j]).1 ≠ bk kind id) := fun hne j hj hji => by
        by_cases e : j = i
        · subst e; exact hne
        · exact HNot.out j hj (by omega)
      generalize l[i] = x at d1 d2 d3 hnum hmem HNx
      obtain ⟨x1, x2⟩ := x
      dsimp only at d1 d2 d3 hnum HNx
      have HMem := Lib.hid hmem
      generalize x1 / 16 = q at d2 hnum
      generalize x1 % 16 = r at d3 hnum
      rw [ha] at c0
      clear ha hmem
      by_cases hk : q = kind
      · have t1 : (q == kind) = true := by simpa using hk
        by_cases hd : r = id
        · have t2 : (r == id) = true := by simpa using hd
          have hx1 : x1 = bk kind id := hnum.2 ⟨hk, hd⟩
          have HM : Hid (mp l (bk kind id) = some x2) := HW.out.look.2 (by rw [← hx1]; exact HMem.out)
          have HF : Hid (NxP (keyN (mp l) (bk kind id)) (mp l (bk kind id)).isSome w (.returned (.tuple #[.int .i64 x2, .bool true])) w) := by unfold Hid keyN; rw [HM.out]; exact ⟨rfl, Below.refl _ _⟩
          clear hnum hk hd hx1 HM HMem
          go_wp2_with fail
          go_ret2
          exact HF.out
        · have t2 : (r == id) = false := by simpa using hd
          have HNx2 := Lib.hid (HNx.out fun e => hd (hnum.1 e).2)
          clear hnum hk hd HNx
          go_wp2_with fail
          go_round
          case rel => exact ⟨i + 1, by omega, by go_num, HNx2.out⟩
          case measure => simp [intOf]; omega
      · have t1 : (q == kind) = false := by simpa using hk
        have HNx2 := Lib.hid (HNx.out fun e => hk (hnum.1 e).1)
        clear hnum hk HNx
        go_wp2_with fail
        go_round
        case rel => exact ⟨i + 1, by omega, by go_num, HNx2.out⟩
        case measure => simp [intOf]; omega
    · have HM : Hid (mp l (bk kind id) = none) := by
        unfold Hid
        cases hm : mp l (bk kind id) with
        | none => rfl
        | some k =>
          obtain ⟨j, hj, e⟩ := List.getElem_of_mem (HW.out.look.1 hm)
          exact (HNot.out j hj (by have := HN'.out; omega) (by rw [e])).elim
      have HF : Hid (NxP (keyN (mp l) (bk kind id)) (mp l (bk kind id)).isSome w (.returned (.tuple #[.int .i64 0, .bool false])) w) := by unfold Hid keyN; rw [HM.out]; exact ⟨rfl, Below.refl _ _⟩
      clear HM
      go_wp2_with fail
      go_ret2
      exact HF.out

set_option maxHeartbeats 400000 in
theorem rnext0_any (w : World) (mb mg : Nat) (h : RB w mb mg []) : Calls Try.prog 26 #[.pointer (some ⟨mb, 0, none⟩)] w (NxP 0 false w) := by
  obtain ⟨v, h1, h2⟩ := h.S
  obtain ⟨a, cap, hv⟩ := h2.slice
  have c0 := cell_of_one h1
  rw [hv] at c0
  simp only [List.length_nil] at c0
  clear h h1 h2 hv
  go_enter Try.func26, Try.ntmps26
  go_wp2_with fail
  go_ret2
  exact ⟨rfl, Below.refl _ _⟩
set_option maxHeartbeats 400000 in
theorem rnext_any (w : World) (mb mg : Nat) (x : En) (l : List En) (h : RB w mb mg (x :: l)) : Calls Try.prog 26 #[.pointer (some ⟨mb, 0, none⟩)] w (NxP x.2 true w) := by
  obtain ⟨v, h1, h2⟩ := h.S
  obtain ⟨off, cap, hv, hle, hmx, _, hc⟩ := h2.form (by simp)
  have c0 := cell_of_one h1
  rw [hv] at c0
  obtain ⟨d1, _⟩ := hc 0 (by simp)
  simp only [Nat.zero_mul, Nat.add_zero, List.getElem_cons_zero] at d1
  obtain ⟨n, hn⟩ : ∃ n, (x :: l).length = n := ⟨_, rfl⟩
  rw [hn] at c0 hle
  have hz : ((n : Int) == 0) = false := by simp at hn; simp; omega
  have hn0 : 0 < n := by simp at hn; omega
  obtain ⟨x1, x2⟩ := x
  dsimp only at d1
  unfold maxLen at hmx
  clear h h1 h2 hv hc hn
  go_enter Try.func26, Try.ntmps26
  go_wp2_with fail
  go_ret2
  exact ⟨rfl, Below.refl _ _⟩
set_option maxHeartbeats 400000 in
theorem rcount_any (w : World) (mb mg : Nat) (l : List En) (h : RB w mb mg l) : Calls Try.prog 11 #[.pointer (some ⟨mb, 0, none⟩)] w (IsN l.length w) := by
  obtain ⟨v, h1, h2⟩ := h.S
  obtain ⟨a, cap, hv⟩ := h2.slice
  have c0 := cell_of_one h1
  rw [hv] at c0
  clear h h1 h2 hv
  go_enter Try.func11, Try.ntmps11
  go_wp2_with fail
  go_ret
  exact ⟨rfl, rfl⟩

end Go.Proofs.Ytdfolbnnhglpeaa
