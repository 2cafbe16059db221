/- Reading a number, or a text, from the beginning of bytes. -/
import Derived.Test.YthbhkcofhhkcoaaPackC
namespace Go.Proofs.Ythbhkcofhhkcoaa
open Go.RowKit Pk
set_option linter.unusedVariables false

theorem BS.drop {w : World} {a : Option Addr} {n cap : Nat} {xs : List Int} (h : BS w (.slice a n cap) xs) {j : Nat} (hj : j ≤ n) : BS w (.slice (if cap = j then a else a.map (·.add j)) (n - j) (cap - j)) (xs.drop j) := by
  obtain ⟨a', cap', e, h1, h2, h3, h4⟩ := h
  obtain ⟨rfl, rfl, rfl⟩ : a = a' ∧ n = xs.length ∧ cap = cap' := by simpa using e
  refine ⟨_, _, by rw [List.length_drop], by rw [List.length_drop]; omega, by omega, fun hn => ?_, fun hp => ?_⟩
  · by_cases hc : cap = j
    · omega
    · rw [if_neg hc] at hn
      cases a with
      | none => have := h3 rfl; omega
      | some ad => cases hn
  · rw [List.length_drop] at hp
    obtain ⟨b, off, rfl, hc⟩ := h4 (by omega)
    rw [if_neg (by omega)]
    refine ⟨b, off + j, by simp [Addr.add_lit], fun i hi => ?_⟩
    rw [List.length_drop] at hi
    rw [Nat.add_assoc, hc (j + i) (by omega)]
    simp [List.getD]
theorem BS.take {w : World} {a : Option Addr} {n cap : Nat} {xs : List Int} (h : BS w (.slice a n cap) xs) {j : Nat} (hj : j ≤ n) : BS w (.slice a j cap) (xs.take j) := by
  obtain ⟨a', cap', e, h1, h2, h3, h4⟩ := h
  obtain ⟨rfl, rfl, rfl⟩ : a = a' ∧ n = xs.length ∧ cap = cap' := by simpa using e
  have hl : (xs.take j).length = j := by rw [List.length_take]; omega
  refine ⟨_, _, by rw [hl], by rw [hl]; omega, h2, h3, fun hp => ?_⟩
  rw [hl] at hp
  obtain ⟨b, off, rfl, hc⟩ := h4 (by omega)
  refine ⟨b, off, rfl, fun i hi => ?_⟩
  rw [hl] at hi
  rw [hc i (by omega)]
  simp [List.getD, hi]

theorem pow256 : ∀ k, k < 8 → (256 : Int) ^ k ≤ 256 ^ 7 := by decide
theorem drewN_add (w : World) (m n : Nat) : w.drewN (m + n) = w.drewN (m + n) := rfl
theorem or_byte (v y : Int) (h0 : 0 ≤ v) (h1 : v < 256 ^ 7) (h2 : 0 ≤ y) (h3 : y < 256) : bits .or .u64 (IntKind.u64.wrap (v * 256)) y = v * 256 + y := by
  have e : IntKind.u64.wrap (v * 256) = v * 256 := by simp [IntKind.wrap, IntKind.bits, IntKind.signed]; omega
  rw [e]
  exact bits_join .u64 64 (by decide) (fun n h0 h1 => by simp [IntKind.wrap, IntKind.bits, IntKind.signed]; omega) 8 (v * 256) y (by omega) (by omega) (by omega) h2 (by omega) (by omega)

/-- what is read is answered, and nothing else is done -/
def CutP (r : Int × List Int × Int) (w : World) (e : Ending) (w' : World) : Prop :=
  ∃ v k, e = .returned (.tuple #[.int .i64 r.1, v, .int .i64 r.2.2]) ∧ BS w v r.2.1 ∧ w' = w.drewN k

set_option maxHeartbeats 1000000 in
theorem cutAny_any {w : World} {v : Value} {xs : List Int} (hv : BS w v xs) (hb : Bys xs) : Calls Try.prog 62 #[v] w (CutP (cutAny xs) w) := by
  cases xs with
  | nil =>
    obtain ⟨a, cap, rfl, _⟩ := hv
    unfold cutAny
    go_enter Try.func62, Try.ntmps62
    go_wp2
    go_ret3
    exact ⟨.slice none 0 0, 0, rfl, BS.nil _, rfl⟩
  | cons x t =>
    have hx := hb x (by simp)
    have hb2 : Bys t := fun y hy => hb y (by simp [hy])
    obtain ⟨a, cap, rfl, h1, h2, h3, h4⟩ := id hv
    have hlen : (x :: t).length = t.length + 1 := rfl
    obtain ⟨tl, htl⟩ : ∃ tl, tl = t.length := ⟨_, rfl⟩
    rw [hlen, ← htl] at hv h4 h1 ⊢
    obtain ⟨b, off, rfl, hc⟩ := h4 (by omega)
    have hc0 := hc 0 (by omega)
    simp only [Nat.add_zero, List.getD_cons_zero] at hc0
    obtain ⟨A, hA, hbs⟩ : ∃ A, (if cap = 1 then some (⟨b, off, none⟩ : Addr) else some ⟨b, off + 1, none⟩) = A ∧ BS w (.slice A tl (cap - 1)) t := by
      refine ⟨_, rfl, ?_⟩
      have := hv.drop (j := 1) (by omega)
      simpa [Addr.add_lit] using this
    have HB := Lib.hid hbs; have HT := Lib.hid htl; have HB2 := Lib.hid hb2
    clear hv h3 h4 hc htl hbs hb hb2 hlen
    obtain ⟨r, hr⟩ : ∃ r, r = cutAny (x :: t) := ⟨_, rfl⟩
    rw [← hr]
    unfold cutAny at hr
    simp only at hr
    cases hs : decide (x < 255) with
    | true =>
      rw [if_pos (of_decide_eq_true hs)] at hr
      have HR := Lib.hid hr
      clear hr
      go_enter Try.func62, Try.ntmps62
      go_wp2_with fail
      go_quiet (fail)
      go_wp2_with fail
      go_ret3
      exact ⟨_, _, by rw [HR.out]; rfl, by rw [HR.out]; exact HB.out, rfl⟩
    | false =>
      rw [if_neg (of_decide_eq_false hs)] at hr
      cases h8 : decide ((tl : Int) < 8) with
      | true =>
        rw [if_pos (by have := of_decide_eq_true h8; have := HT.out; omega)] at hr
        have HR := Lib.hid hr
        clear hr
        go_enter Try.func62, Try.ntmps62
        go_wp2_with fail
        go_quiet (fail)
        go_wp2_with fail
        go_ret3
        exact ⟨_, _, by rw [HR.out]; rfl, by rw [HR.out]; exact BS.nil _, rfl⟩
      | false =>
        have h8' := of_decide_eq_false h8
        rw [if_neg (by have := HT.out; omega)] at hr
        have HR := Lib.hid hr
        obtain ⟨a3, cap3, e3, g1, g2, g3, g4⟩ := HB.out
        obtain ⟨rfl, hq, rfl⟩ : A = a3 ∧ tl = t.length ∧ cap - 1 = cap3 := by simpa using e3
        clear hq
        obtain ⟨b3, off3, rfl, hc3⟩ := g4 (by have := HT.out; omega)
        have HC := Lib.hid hc3
        clear hr e3 g3 g4 hc3
        go_enter Try.func62, Try.ntmps62
        go_wp2_with fail
        go_quiet (fail)
        go_wp2_with fail
        go_loop [6, 28] (fun ab i => ∃ (k : Nat) (v : Int), k ≤ 8 ∧ i = .int .i64 k ∧ ab = .int .u64 v ∧ Hid (v = val (t.take k))) (fun _ i => 8 - (intOf i).toNat)
        case atStart => exact ⟨0, 0, by omega, rfl, rfl, by simp [Hid, val_nil]⟩
        case round =>
          obtain ⟨k, v, hk, rfl, rfl, HV⟩ := hrel
          by_cases hk8 : k < 8
          · have hc := HC.out k (by have := HT.out; omega)
            have hy := Bys.getD HB2.out k
            obtain ⟨y, hye⟩ : ∃ y, y = t.getD k 0 := ⟨_, rfl⟩
            rw [← hye] at hc hy
            have HY := Lib.hid hye
            clear hye
            have hv := val_range (n := k) (xs := t.take k) (by rw [List.length_take]; have := HT.out; omega) (HB2.out.take k)
            have hp : (256 : Int) ^ k ≤ 256 ^ 7 := pow256 k hk8
            rw [← HV.out] at hv
            have hor := or_byte v y hv.1 (by omega) hy.1 hy.2
            have HV2 : Hid (v * 256 + y = val (t.take (k + 1))) := by
              have e : t.take (k + 1) = t.take k ++ [t.getD k 0] := by
                have hk2 : k < t.length := by have := HT.out; omega
                rw [List.take_add_one]
                simp [List.getElem?_eq_getElem hk2, List.getD]
              rw [e, val_snoc, ← HV.out, ← HY.out]
              rfl
            clear hv hp
            go_wp2_with fail
            go_round
            case rel => exact ⟨k + 1, v * 256 + y, by omega, by go_num, rfl, HV2⟩
            case measure => simp [intOf]; omega
          · have e : k = 8 := by omega
            subst e
            have hr := HR.out
            rw [← HV.out] at hr
            have hv := val_range (n := 8) (xs := t.take 8) (by rw [List.length_take]; have := HT.out; omega) (HB2.out.take 8)
            rw [← HV.out] at hv
            have hbs2 : (cap = 9 → BS w (.slice (some ⟨b3, off3, none⟩) (tl - 8) 0) (t.drop 8)) ∧ (¬ cap = 9 → BS w (.slice (some ⟨b3, off3 + 8, none⟩) (tl - 8) (cap - 1 - 8)) (t.drop 8)) := by
              have := HB.out.drop (j := 8) (by omega)
              refine ⟨fun e => ?_, fun e => ?_⟩
              · rw [if_pos (by omega), show cap - 1 - 8 = 0 by omega] at this; exact this
              · rw [if_neg (by omega)] at this; simpa [Addr.add_lit] using this
            have HB3 := Lib.hid hbs2
            clear HC hbs2
            cases h0 : decide (v = 0) with
            | true =>
              rw [if_pos (Or.inl (of_decide_eq_true h0))] at hr
              have HR2 := Lib.hid hr
              have h0' : (v == 0) = true := by have := of_decide_eq_true h0; simpa using this
              clear hr HR hv h0
              go_wp2_with fail
              go_ret3
              exact ⟨_, _, by rw [HR2.out]; rfl, by rw [HR2.out]; exact BS.nil _, rfl⟩
            | false =>
              cases h9 : decide (v > 9007199254740737) with
              | true =>
                rw [if_pos (Or.inr (of_decide_eq_true h9))] at hr
                have HR2 := Lib.hid hr
                have h0' : (v == 0) = false := by have := of_decide_eq_false h0; simpa using this
                clear hr HR hv
                go_wp2_with fail
                go_ret3
                exact ⟨_, _, by rw [HR2.out]; rfl, by rw [HR2.out]; exact BS.nil _, rfl⟩
              | false =>
                rw [if_neg (by have := of_decide_eq_false h0; have := of_decide_eq_false h9; omega)] at hr
                have HR2 := Lib.hid hr
                have h0' : (v == 0) = false := by have := of_decide_eq_false h0; simpa using this
                have hw1 : wrap64 v = v := by have := of_decide_eq_false h9; unfold wrap64; omega
                have hw2 : wrap64 (254 + v) = 254 + v := by have := of_decide_eq_false h9; unfold wrap64; omega
                clear hr HR hv
                go_wp2_with fail
                go_quiet (fail)
                go_wp2_with fail
                all_goals go_ret3
                all_goals (rename_i h; exact ⟨_, _, by rw [HR2.out]; rfl, by rw [HR2.out]; first | exact HB3.out.2 h | exact HB3.out.1 h, drewN_add _ _ _⟩)

set_option maxHeartbeats 1000000 in
theorem cutN_any {w : World} {v : Value} {xs : List Int} (hv : BS w v xs) (hb : Bys xs) (most : Int) : Calls Try.prog 61 #[v, .int .i64 most] w (CutP (cutN xs most) w) := by
  obtain ⟨r, hr⟩ : ∃ r, r = cutN xs most := ⟨_, rfl⟩
  rw [← hr]
  have H := Lib.hid (cutAny_any hv hb)
  obtain ⟨a, cap, rfl, _⟩ := hv
  unfold cutN at hr
  obtain ⟨q, hq⟩ : ∃ q, q = cutAny xs := ⟨_, rfl⟩
  rw [← hq] at hr H
  obtain ⟨n, rest, er⟩ := q
  clear hq
  simp only at hr
  cases he : decide (er ≠ 0) with
  | true =>
    rw [if_pos (of_decide_eq_true he)] at hr
    have he' : (er == 0) = false := by have := of_decide_eq_true he; simpa using this
    have HR := Lib.hid hr
    clear hr
    go_enter Try.func61, Try.ntmps61
    go_wp2_with fail
    refine H.out.mono ?_
    rintro e w1 ⟨v1, k1, rfl, hb1, rfl⟩
    simp only at hb1 ⊢
    clear hb1
    go_wp2_with fail
    go_ret3
    exact ⟨_, _, by rw [HR.out]; rfl, by rw [HR.out]; exact BS.nil _, rfl⟩
  | false =>
    have he0 : er = 0 := by have := of_decide_eq_false he; simpa using this
    subst he0
    rw [if_neg (by decide)] at hr
    clear he
    cases hm : decide (n > most) with
    | true =>
      rw [if_pos (of_decide_eq_true hm)] at hr
      have HR := Lib.hid hr
      clear hr
      go_enter Try.func61, Try.ntmps61
      go_wp2_with fail
      refine H.out.mono ?_
      rintro e w1 ⟨v1, k1, rfl, hb1, rfl⟩
      simp only at hb1 ⊢
      clear hb1
      go_wp2_with fail
      go_ret3
      exact ⟨_, _, by rw [HR.out]; rfl, by rw [HR.out]; exact BS.nil _, rfl⟩
    | false =>
      rw [if_neg (of_decide_eq_false hm)] at hr
      have HR := Lib.hid hr
      clear hr
      go_enter Try.func61, Try.ntmps61
      go_wp2_with fail
      refine H.out.mono ?_
      rintro e w1 ⟨v1, k1, rfl, hb1, rfl⟩
      simp only at hb1 ⊢
      have HB := Lib.hid hb1
      clear hb1
      go_wp2_with fail
      go_ret3
      exact ⟨_, _, by rw [HR.out]; rfl, by rw [HR.out]; exact HB.out, rfl⟩

/-- a text that is read is answered -/
def CutTP (r : List Int × List Int × Int) (w : World) (e : Ending) (w' : World) : Prop :=
  ∃ v k, e = .returned (.tuple #[.string (strOfNums r.1), v, .int .i64 r.2.2]) ∧ BS w v r.2.1 ∧ w' = w.drewN k
theorem cutN_nonneg {xs : List Int} (hb : Bys xs) (most : Int) : 0 ≤ (cutN xs most).1 ∧ Bys (cutN xs most).2.1 := by
  have h1 := cutAny_err xs
  have h2 := num_cutAny hb
  unfold cutN
  split
  · exact ⟨Int.le_refl _, Bys.nil⟩
  · rename_i h
    have h3 : (cutAny xs).2.2 = 0 := by simpa using h
    obtain ⟨e, hn⟩ := h2 h3
    split
    · exact ⟨Int.le_refl _, Bys.nil⟩
    · refine ⟨(isN_yes hn).1, fun y hy => hb y ?_⟩
      rw [e]
      exact List.mem_append_right _ hy

end Go.Proofs.Ythbhkcofhhkcoaa
