/- The document's rank: at, Remove. -/
import Derived.Test.YtoiegoehebkjgaaWalksH
import Derived.Test.YtoiegoehebkjgaaMemC
import Derived.SizedLaws
import Derived.Laws.AppendOwnNone
namespace Go.Proofs.Ytoiegoehebkjgaa
open Go.RowKit Rk
set_option linter.unusedVariables false

set_option maxHeartbeats 1000000 in
theorem at_yes (w : World) (B mb mg : Nat) (l : List En) (m : Mp) (id k : Int) (h : RF w B mb mg l) (hO : Ord m l) (hm : m id = some k) (hN : l.length ≤ 100000) :
    Calls Try.prog 39 #[.pointer (some ⟨mb, 0, none⟩), .int .i64 id] w (fun e w' => ∃ p : Nat, e = .returned (.int .i64 p) ∧ Hid (∃ hp : p < l.length, l[p] = (id, k)) ∧ w = w') := by
  obtain ⟨p, hp, hlp⟩ := List.getElem_of_mem ((hO.2 id k).2 hm)
  obtain ⟨v, h1, h2⟩ := h.S
  obtain ⟨cap, hv, hle, hmx, hlg⟩ := h2.form (by omega)
  have c0 := cell_of_one h1
  rw [hv] at c0
  unfold maxLen at hmx
  have HP : Hid (∃ hp : p < l.length, l[p] = (id, k)) := ⟨hp, hlp⟩
  have HD : Hid (∀ i (hi : i < l.length), i < p → ((l[i]).1 == id) = false) := fun i hi hip => by
    simp only [beq_eq_false_iff_ne, ne_eq]
    intro e
    have := hO.inj hi hp (by rw [e, hlp])
    omega
  have H2 := Lib.hid h2
  obtain ⟨n, hn⟩ : ∃ n, l.length = n := ⟨_, rfl⟩
  rw [hn] at c0 hp hle hN
  have HN' := Lib.hid hn
  clear h hO hm h1 h2 hv hlp hn
  go_enter Try.func39, Try.ntmps39
  go_wp2_with fail
  go_loop [5] (fun i => ∃ i' : Nat, i' ≤ p ∧ i = .int .i64 i') (fun i => p - (intOf i).toNat)
  case atStart => exact ⟨0, Nat.zero_le _, rfl⟩
  case round =>
    obtain ⟨i, hi, rfl⟩ := hrel
    obtain ⟨e1, _⟩ := H2.out.cells i (by rw [HN'.out]; omega)
    by_cases hip : i < p
    · have hne := HD.out i (by rw [HN'.out]; omega) hip
      generalize (l[i]'(by rw [HN'.out]; omega)).1 = z at e1 hne
      go_wp2_with fail
      go_round
      case rel => exact ⟨i + 1, by omega, by go_num⟩
      case measure => simp [intOf]; omega
    · obtain rfl : p = i := by omega
      obtain ⟨hp', hx⟩ := HP.out
      rw [hx] at e1
      dsimp only at e1
      clear hx
      go_wp2_with fail
      go_ret
      exact ⟨p, rfl, HP, rfl⟩
set_option maxHeartbeats 1000000 in
theorem at_no (w : World) (B mb mg : Nat) (l : List En) (m : Mp) (id : Int) (h : RF w B mb mg l) (hO : Ord m l) (hm : m id = none) (hN : l.length ≤ 100000) :
    Calls Try.prog 39 #[.pointer (some ⟨mb, 0, none⟩), .int .i64 id] w (IsN (-1) w) := by
  obtain ⟨v, h1, h2⟩ := h.S
  obtain ⟨a, cap, hv⟩ := h2.slice
  have c0 := cell_of_one h1
  rw [hv] at c0
  have HD : Hid (∀ i (hi : i < l.length), ((l[i]).1 == id) = false) := fun i hi => by
    simp only [beq_eq_false_iff_ne, ne_eq]
    intro e
    have := (hO.2 (l[i]).1 (l[i]).2).1 (List.getElem_mem _)
    rw [e, hm] at this; cases this
  have H2 := Lib.hid h2
  have HV := Lib.hid hv
  obtain ⟨n, hn⟩ : ∃ n, l.length = n := ⟨_, rfl⟩
  rw [hn] at c0 hN
  have HN' := Lib.hid hn
  clear h hO hm h1 h2 hv hn
  by_cases hpos : 0 < n
  · obtain ⟨cap', hv, hle, hmx, _⟩ := H2.out.form (by rw [HN'.out]; exact hpos)
    rw [HV.out, HN'.out] at hv
    injection hv with hv1 hv2 hv3
    subst hv1 hv3
    rw [HN'.out] at hle
    unfold maxLen at hmx
    clear hv2
    go_enter Try.func39, Try.ntmps39
    go_wp2_with fail
    go_loop [5] (fun i => ∃ i' : Nat, i' ≤ n ∧ i = .int .i64 i') (fun i => n - (intOf i).toNat)
    case atStart => exact ⟨0, Nat.zero_le _, rfl⟩
    case round =>
      obtain ⟨i, hi, rfl⟩ := hrel
      by_cases hip : i < n
      · obtain ⟨e1, _⟩ := H2.out.cells i (by rw [HN'.out]; omega)
        have hne := HD.out i (by rw [HN'.out]; omega)
        generalize (l[i]'(by rw [HN'.out]; omega)).1 = z at e1 hne
        go_wp2_with fail
        go_round
        case rel => exact ⟨i + 1, by omega, by go_num⟩
        case measure => simp [intOf]; omega
      · go_wp2_with fail
        go_ret
        exact ⟨rfl, rfl⟩
  · obtain rfl : n = 0 := by omega
    go_enter Try.func39, Try.ntmps39
    go_wp2_with fail
    go_loop [5] (fun i => i = .int .i64 0) (fun i => 0)
    case atStart => rfl
    case round =>
      subst hrel
      go_wp2_with fail
      go_ret
      exact ⟨rfl, rfl⟩

/-- a call of the document's rank -/
def RfP (v : Value) (B mb mg : Nat) (l : List En) (w : World) (e : Ending) (w' : World) : Prop :=
  e = .returned v ∧ (∃ mg', RF w' B mb mg' l ∧ (mg' = mg ∨ w.heap.size ≤ mg')) ∧ Only (fun k => k = mb) w w'
theorem RfP.same {v : Value} {B mb mg : Nat} {l : List En} {w : World} (h : RF w B mb mg l) : RfP v B mb mg l w (.returned v) w := ⟨rfl, ⟨mg, h, Or.inl rfl⟩, Only.refl _ _⟩

theorem one2 (x y : Int) : ∀ u ∈ [Value.int .i64 x, .int .i64 y], u.oneCell' = true := by
  intro u hu; simp only [List.mem_cons, List.not_mem_nil, or_false] at hu; rcases hu with rfl | rfl <;> rfl
theorem del_append (id : Int) (l k : List En) : del id (l ++ k) = del id l ++ del id k := by unfold del; exact List.filter_append ..
theorem take_snoc {l : List En} {i : Nat} (hi : i < l.length) : l.take (i + 1) = l.take i ++ [l[i]] := by rw [List.take_succ_eq_append_getElem hi]

set_option maxHeartbeats 2000000 in
theorem rrem_any (w : World) (B mb mg : Nat) (l : List En) (m : Mp) (id : Int) (h : RF w B mb mg l) (hB : B ≤ w.heap.size) (hO : Ord m l) (hN : l.length ≤ 100000) :
    Calls Try.prog 25 #[.pointer (some ⟨mb, 0, none⟩), .int .i64 id] w (RfP (.bool (m id).isSome) B mb mg (del id l) w) := by
  obtain ⟨i0, hi, hz0, hz1, hz2⟩ := info_parts info63
  have HInfo := Lib.hid (⟨hi, hz0, hz1, hz2⟩ : _ ∧ _ ∧ _ ∧ _)
  clear hi hz0 hz1 hz2
  obtain ⟨v, h1, h2⟩ := h.S
  obtain ⟨a, cap, hv⟩ := h2.slice
  have hlb := h.lb
  have hlg := h.lg
  have HBlk := Lib.hid h1
  rw [hv] at HBlk
  have H2 := Lib.hid h2
  have HV := Lib.hid hv
  have HOr := Lib.hid hO
  obtain ⟨n, hn⟩ : ∃ n, l.length = n := ⟨_, rfl⟩
  rw [hn] at hN
  have HN' := Lib.hid hn
  have hpos : ∀ i, i < n → ∃ ca, a = some ⟨mg, 0, none⟩ ∧ cap = ca ∧ n ≤ ca ∧ ca ≤ 9223372036854775807 := fun i hin => by
    obtain ⟨cap', hv', hle, hmx, _⟩ := h2.form (by omega)
    rw [hv] at hv'
    injection hv' with e1 e2 e3
    unfold maxLen at hmx
    exact ⟨cap', e1, e3, by omega, by omega⟩
  rw [hn] at HBlk
  clear h hO h1 h2 hv hn
  have c0 := cell_of_one HBlk.out
  go_enter Try.func25, Try.ntmps25
  go_wp2_with fail
  go_loopw [5, 6] (fun o i wr => ∃ i' : Nat, i' ≤ n ∧ i = .int .i64 i' ∧ Hid (OE wr w.heap.size o (del id (l.take i'))) ∧ Hid (Below w.heap.size w wr)) (fun _ i _ => n - (intOf i).toNat)
  case atStart => exact ⟨0, Nat.zero_le _, rfl, by unfold Hid; simp only [List.take_zero]; exact OE.nil w _, Below.refl _ _⟩
  case round =>
    clear c0
    obtain ⟨i, hi, rfl, HE, HBl⟩ := hrel
    have c0 := cell_of_one ((HBl.out.block mb hlb).trans HBlk.out)
    by_cases hin : i < n
    · obtain ⟨ca, ha, hca, hle, hmx⟩ := hpos i hin
      have hil : i < l.length := by rw [HN'.out]; exact hin
      obtain ⟨e1, e2⟩ := H2.out.cells i hil
      have d1 := (HBl.out.cell (p := ⟨mg, i * 2, none⟩) hlg).trans e1
      have d2 := (HBl.out.cell (p := ⟨mg, i * 2 + 1, none⟩) hlg).trans e2
      have HS := Lib.hid (take_snoc hil)
      clear e1 e2
      generalize hx : l[i] = x at d1 d2 HS
      have HX := Lib.hid hx
      clear hx
      obtain ⟨x1, x2⟩ := x
      dsimp only at d1 d2
      rw [ha, hca] at c0
      clear ha hca hpos
      cases hb : (x1 != id) with
      | false =>
        have HE2 : Hid (OE wr w.heap.size u5 (del id (l.take (i + 1)))) := by
          unfold Hid
          rw [HS.out, del_append]
          have : del id [(x1, x2)] = [] := by unfold del; simp only [List.filter_cons, hb]; rfl
          rw [this, List.append_nil]
          exact HE.out
        clear HE
        go_wp2_with fail
        go_roundw
        case rel => exact ⟨i + 1, by omega, by go_num, HE2, HBl⟩
        case measure => simp [intOf]; omega
      | true =>
        have HL := Lib.hid (rfl : (del id (l.take i)).length = (del id (l.take i)).length)
        have HLn : (del id (l.take i)).length ≤ 100000 := by
          have := List.length_filter_le (fun x : En => x.1 != id) (l.take i)
          have h3 := List.length_take_le i l
          unfold del; omega
        have Hm1 : Hid ((del id (l.take i)).length + 1 ≤ maxLen) := by unfold Hid maxLen; omega
        have Hm2 : Hid (((del id (l.take i)).length + 1) * 16 ≤ 140737488355328) := by unfold Hid; omega
        have Hm3 : ∀ o, Hid (w.heap.size ≤ (wr.alloc o).heap.size) := fun o => by have := HBl.out.size; unfold Hid; simp; omega
        go_wp2_with (at_builtin; refine wpList_append_own _ rfl _ _ 54 rfl w.heap.size 63 i0 _ 2 16 Try.underlying54 HInfo.out.1 HInfo.out.2.1 HInfo.out.2.2.1 HInfo.out.2.2.2 rfl (by decide) _ _ _ rfl (World.ownsRow.alloc HE.out _) ⟨wr.heap.size, 0, none⟩ 1 1 [.int .i64 x1, .int .i64 x2] rfl rfl (cells2_new _ _ _ _) (one2 _ _) Hm1.out Hm2.out (Hm3 _).out ?_)
        intro v' w1 hown hgrow _
        have HE2 : Hid (OE w1 w.heap.size v' (del id (l.take (i + 1)))) := by
          unfold Hid
          rw [HS.out, del_append]
          have : del id [(x1, x2)] = [(x1, x2)] := by unfold del; simp only [List.filter_cons, hb]; rfl
          rw [this]
          exact OE.snoc hown
        have HB2 : Hid (Below w.heap.size w w1) := (HBl.out.alloc HBl.out.size _).grown hgrow (Hm3 _).out (fun k hk => HE.out.own k hk)
        clear hown hgrow Hm1 Hm2 Hm3 HE HBl
        go_wp2_with fail
        go_roundw
        case rel => exact ⟨i + 1, by omega, by go_num, HE2, HB2⟩
        case measure => simp [intOf]; omega
    · obtain rfl : n = i := by omega
      have HE2 : Hid (OE wr w.heap.size u5 (del id l)) := by have := HE.out; rwa [List.take_of_length_le (by rw [HN'.out]; exact Nat.le_refl _)] at this
      clear HE
      obtain ⟨a', cap', hv5⟩ := HE2.out.slice
      have hu := (HBl.out.block mb hlb).trans HBlk.out
      have fr := free_of_one hu
      obtain ⟨k', hk'⟩ : ∃ k', (del id l).length = k' := ⟨_, rfl⟩
      rw [hk'] at hv5
      have hd : decide (k' < n) = (m id).isSome := by
        cases hm : m id with
        | none => have := len_del_none HOr.out hm; rw [this, HN'.out] at hk'; simp; omega
        | some k => have := HOr.out.del_len hm; rw [hk', HN'.out] at this; simp; omega
      have hsz : mg < wr.heap.size := Nat.lt_of_lt_of_le hlg HBl.out.size
      have HF := Lib.hid (HE2.out.ls hlb hB hsz _ hu)
      have HOn : Hid (Only (fun k => k = mb) w (wr.setCell ⟨mb, 0, none⟩ u5)) := Only.setCell (S := fun k => k = mb) (p := ⟨mb, 0, none⟩) (Only.of_below HBl.out) (Or.inl rfl) _
      subst hv5
      generalize (m id).isSome = bb at *
      clear hk' hu hpos HE2
      go_wp2_with fail
      go_ret
      exact ⟨rfl, HF.out, HOn.out⟩

end Go.Proofs.Ytoiegoehebkjgaa
