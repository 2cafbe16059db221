/- The document's reader: Read, Num of any number, End. -/
import Derived.Test.YthbhkcofhhkcoaaConfE
import Derived.Deep.RegionHeld3
namespace Go.Proofs.Ythbhkcofhhkcoaa
open Go.RowKit Pk Cn
set_option linter.unusedVariables false

/-- the document's reader at a block: what is left, the error -/
def RR (w : World) (rb : Nat) (xs : List Int) (er : Int) : Prop :=
  ∃ v, w.heap[rb]? = some (.cells #[v, .int .i64 er] 76 (0, 0)) ∧ BS w v xs ∧ Bys xs ∧ (er ≠ 0 → xs = []) ∧ ∀ k, v.ownBlock = some k → k < rb
theorem RR.lt {w : World} {rb : Nat} {xs : List Int} {er : Int} (h : RR w rb xs er) : rb < w.heap.size := by obtain ⟨v, h1, _⟩ := h; exact (Array.getElem?_eq_some_iff.1 h1).1
theorem RR.keep {w w' : World} {rb : Nat} {xs : List Int} {er : Int} (h : RR w rb xs er) (q : ∀ k, k ≤ rb → w'.heap[k]? = w.heap[k]?) : RR w' rb xs er := by
  obtain ⟨v, h1, ⟨a, cap, rfl, g1, g2, g3, g4⟩, h3, h4, h5⟩ := h
  refine ⟨_, (q rb (Nat.le_refl _)).trans h1, ⟨a, cap, rfl, g1, g2, g3, fun hp => ?_⟩, h3, h4, h5⟩
  obtain ⟨b, off, rfl, hc⟩ := g4 hp
  have hb := h5 b rfl
  exact ⟨b, off, rfl, fun i hi => (World.cell?_of_block (q b (by omega))).trans (hc i hi)⟩
theorem RR.below {w w' : World} {rb : Nat} {xs : List Int} {er : Int} (h : RR w rb xs er) (b : Below w.heap.size w w') : RR w' rb xs er := h.keep fun k hk => b.block k (by have := h.lt; omega)
/-- the reader's two cells are stored -/
theorem RR.put {w : World} {rb : Nat} {v v1 : Value} {er : Int} {xs : List Int} (h : w.heap[rb]? = some (.cells #[v, .int .i64 er] 76 (0, 0))) (hv : ∀ z, v ≠ .int .u8 z) (hb : BS w v1 xs) (hx : Bys xs) (he : er ≠ 0 → xs = []) (ho : ∀ k, v1.ownBlock = some k → k < rb) :
    RR (w.setCell ⟨rb, 0, none⟩ v1) rb xs er := by
  refine ⟨v1, heap_set_same h, hb.cells fun p z hp => ?_, hx, he, ho⟩
  refine (World.cell?_of_block ?_).trans hp
  refine heap_set_other (fun hb' => ?_)
  obtain ⟨b', o, f⟩ := p
  simp only at hb'
  subst hb'
  simp only [World.cell?, h] at hp
  split at hp
  · cases hp
  · match o, hp with
    | 0, hp => exact hv z (Option.some.inj hp)
    | 1, hp => cases hp
    | o + 2, hp => simp at hp
/-- a number of a reader is answered -/
def NumR (rb : Nat) (x : Int) (xs : List Int) (er : Int) (w : World) (e : Ending) (w' : World) : Prop := e = .returned (.int .i64 x) ∧ RR w' rb xs er ∧ Only (fun k => k = rb) w w'
set_option maxHeartbeats 1000000 in
theorem fail_any {w : World} {rb : Nat} {xs : List Int} {er : Int} (h : RR w rb xs er) (x : Int) : Calls Try.prog 52 #[.pointer (some ⟨rb, 0, none⟩), .int .i64 x] w (NumR rb 0 [] x w) := by
  obtain ⟨v, h1, h2, _⟩ := h
  have hv : ∀ z, v ≠ .int .u8 z := by obtain ⟨a, cap, rfl, _⟩ := h2; exact fun z h => by cases h
  have f1 : w.frozen? ⟨rb, 1, none⟩ = false := frozen_of_row w rb 1 _ _ h1
  have c1 : w.cell? ⟨rb, 1, none⟩ = some (.int .i64 er) := cell_of_row w rb 1 _ _ _ h1
  have hw1 : (w.setCell ⟨rb, 1, none⟩ (.int .i64 x)).heap[rb]? = some (.cells #[v, .int .i64 x] 76 (0, 0)) := heap_set_same h1
  have f2 : (w.setCell ⟨rb, 1, none⟩ (.int .i64 x)).frozen? ⟨rb, 0, none⟩ = false := frozen_of_row _ rb 0 _ _ hw1
  have c2 : (w.setCell ⟨rb, 1, none⟩ (.int .i64 x)).cell? ⟨rb, 0, none⟩ = some v := cell_of_row _ rb 0 _ _ _ hw1
  have HR := Lib.hid (RR.put hw1 hv (BS.nil _) Bys.nil (fun _ => rfl) (fun k hk => by cases hk) (v1 := .slice none 0 0))
  have o1 : Only (fun k => k = rb) w (w.setCell ⟨rb, 1, none⟩ (.int .i64 x)) := Only.setCell (S := fun k => k = rb) (a := w) (b := w) (Only.refl _ w) (p := ⟨rb, 1, none⟩) (Or.inl rfl) _
  have HO := Lib.hid (Only.setCell o1 (p := ⟨rb, 0, none⟩) (Or.inl rfl) (.slice none 0 0))
  clear h1 h2 hw1 o1
  go_enter Try.func52, Try.ntmps52
  go_wp2_with fail
  go_ret
  exact ⟨rfl, HR.out, HO.out⟩
theorem cutN_max {xs : List Int} (hb : Bys xs) : cutN xs 9007199254740991 = cutAny xs := by
  unfold cutN
  rcases cutAny_err xs with h | ⟨h1, h2, h3⟩
  · have := (isN_yes (num_cutAny hb h).2).2
    rw [if_neg (by simp [h]), if_neg (by omega), ← h]
  · rw [if_pos (by omega)]
    refine Prod.ext h1.symm (Prod.ext h2.symm rfl)

set_option maxHeartbeats 4000000 in
theorem rnum_any {w : World} {rb : Nat} {xs : List Int} {er : Int} (h : RR w rb xs er) : Calls Try.prog 36 #[.pointer (some ⟨rb, 0, none⟩), .int .i64 9007199254740991] w (NumR rb (rd MX (xs, er)).1 (rd MX (xs, er)).2.1 (rd MX (xs, er)).2.2 w) := by
  have HF := Lib.hid (fun x => fail_any h x)
  have HH := Lib.hid h
  obtain ⟨v, h1, h2, h3, h4, h5⟩ := h
  have c1 : w.cell? ⟨rb, 1, none⟩ = some (.int .i64 er) := cell_of_row w rb 1 _ _ _ h1
  have c0 : w.cell? ⟨rb, 0, none⟩ = some v := cell_of_row w rb 0 _ _ _ h1
  have f0 : w.frozen? ⟨rb, 0, none⟩ = false := frozen_of_row w rb 0 _ _ h1
  have H1 := Lib.hid h1
  obtain ⟨r, hr⟩ : ∃ r, r = rd MX (xs, er) := ⟨_, rfl⟩
  rw [← hr]
  cases he : er == 0 with
  | false =>
    have hne : (er != 0) = true := by simp [bne, he]
    have HR : Hid (r = (0, (xs, er))) := by unfold Hid; rw [hr, rd_stick _ _ (by simpa using he)]
    clear hr h1 h2 h3 h4 h5 c0 f0 HF
    go_enter Try.func36, Try.ntmps36
    go_wp2_with fail
    go_ret
    rw [HR.out]
    exact ⟨rfl, HH.out, Only.refl _ _⟩
  | true =>
    obtain rfl : er = 0 := by simpa using he
    rw [rd_zero, cutN_max h3] at hr
    clear he h1 h4
    cases xs with
    | nil =>
      obtain ⟨a, cap, rfl, _⟩ := h2
      have HR : Hid (r = (0, [], 3)) := hr
      clear hr
      go_enter Try.func36, Try.ntmps36
      go_wp2_with fail
      refine (HF.out _).mono ?_
      rintro e w1 ⟨rfl, hr1, ho1⟩
      have HR1 := Lib.hid hr1; have HO1 := Lib.hid ho1
      clear hr1 ho1
      go_wp2_with fail
      go_ret
      rw [HR.out]
      exact ⟨rfl, HR1.out, HO1.out⟩
    | cons x t =>
      have hx := h3 x (by simp)
      have hb2 : Bys t := fun y hy => h3 y (by simp [hy])
      obtain ⟨a, cap, rfl, g1, g2, g3, g4⟩ := id h2
      obtain ⟨L, hL⟩ : ∃ L, L = (x :: t).length := ⟨_, rfl⟩
      have hLt : L = t.length + 1 := by rw [hL]; rfl
      rw [← hL] at h2 g1 g4 c0
      obtain ⟨b, off, rfl, hc⟩ := g4 (by omega)
      have HOB : Hid (b < rb) := h5 b rfl
      clear h5
      have hc0 := hc 0 (by omega)
      simp only [Nat.add_zero, List.getD_cons_zero] at hc0
      have hz : ((L : Int) == 0) = false := by simp; omega
      have hLm : L ≤ 9223372036854775807 := by unfold maxLen at g2; omega
      have HD := Lib.hid h2; have HC := Lib.hid hc; have HLT := Lib.hid hLt; have HB2 := Lib.hid hb2
      have hcap1 : L ≤ cap := g1
      have hL1 : 1 ≤ L := by omega
      clear h2 g3 g4 hc hL hb2 h3 hLt
      unfold cutAny at hr
      simp only at hr
      cases hs : decide (x < 255) with
      | true =>
        rw [if_pos (of_decide_eq_true hs)] at hr
        have HR := Lib.hid hr
        have hx1 : (x == 255) = false := by have := of_decide_eq_true hs; simp; omega
        have hx2 : decide (x > 9007199254740991) = false := by have := of_decide_eq_true hs; simp; omega
        obtain ⟨A, ⟨hA, hAb⟩, hbs⟩ : ∃ A, ((if cap = 1 then some (⟨b, off, none⟩ : Addr) else some ⟨b, off + 1, none⟩) = A ∧ ∀ k, (Value.slice A (L - 1) (cap - 1)).ownBlock = some k → k < rb) ∧ BS w (.slice A (L - 1) (cap - 1)) t := by
          refine ⟨_, ⟨rfl, fun k hk => by have := HOB.out; split at hk <;> simp [Value.ownBlock] at hk <;> omega⟩, ?_⟩
          have := BS.drop HD.out (j := 1) (by omega)
          simpa [Addr.add_lit] using this
        have HPUT := Lib.hid (RR.put H1.out (fun z h => by cases h) hbs HB2.out (fun h => absurd rfl h) hAb)
        have HOP : Hid (Only (fun k => k = rb) w (w.setCell ⟨rb, 0, none⟩ (.slice A (L - 1) (cap - 1)))) := Only.setCell (S := fun k => k = rb) (a := w) (b := w) (Only.refl _ w) (p := ⟨rb, 0, none⟩) (Or.inl rfl) _
        clear hr hbs hAb HF
        go_enter Try.func36, Try.ntmps36
        go_wp2_with fail
        all_goals go_ret
        all_goals rw [HR.out]
        all_goals exact ⟨rfl, HPUT.out, HOP.out⟩
      | false =>
        have hx255 : x = 255 := by have := of_decide_eq_false hs; omega
        rw [if_neg (of_decide_eq_false hs)] at hr
        subst hx255
        cases h9 : decide ((L : Int) < 9) with
        | true =>
          have HR : Hid (r = (0, [], 3)) := by unfold Hid; rw [hr, if_pos (by have := of_decide_eq_true h9; have := HLT.out; omega)]
          clear hr
          go_enter Try.func36, Try.ntmps36
          go_wp2_with fail
          refine (HF.out _).mono ?_
          rintro e w1 ⟨rfl, hr1, ho1⟩
          have HR1 := Lib.hid hr1; have HO1 := Lib.hid ho1
          clear hr1 ho1
          go_wp2_with fail
          go_ret
          rw [HR.out]
          exact ⟨rfl, HR1.out, HO1.out⟩
        | false =>
          have hL9 := of_decide_eq_false h9
          rw [if_neg (by have := HLT.out; omega)] at hr
          have HR := Lib.hid hr
          clear hr
          go_enter Try.func36, Try.ntmps36
          go_wp2_with fail
          go_loop [7, 8] (fun ab i => ∃ (k : Nat) (v : Int), 1 ≤ k ∧ k ≤ 9 ∧ i = .int .i64 k ∧ ab = .int .u64 v ∧ Hid (v = val (t.take (k - 1)))) (fun _ i => 9 - (intOf i).toNat)
          case atStart => exact ⟨1, 0, by omega, by omega, rfl, rfl, by simp [Hid, val_nil]⟩
          case round =>
            obtain ⟨k, v, hk1, hk, rfl, rfl, HV⟩ := hrel
            by_cases hk9 : k < 9
            · have hck := HC.out k (by omega)
              have hy := Bys.getD HB2.out (k - 1)
              obtain ⟨y, hye⟩ : ∃ y, y = t.getD (k - 1) 0 := ⟨_, rfl⟩
              have hgd : (255 :: t).getD k 0 = y := by rw [hye]; obtain ⟨j, rfl⟩ : ∃ j, k = j + 1 := ⟨k - 1, by omega⟩; simp [List.getD]
              rw [hgd] at hck
              rw [← hye] at hy
              have HY := Lib.hid hye
              have hv := val_range (n := k - 1) (xs := t.take (k - 1)) (by rw [List.length_take]; have := HLT.out; omega) (HB2.out.take (k - 1))
              have hp : (256 : Int) ^ (k - 1) ≤ 256 ^ 7 := pow256 (k - 1) (by omega)
              rw [← HV.out] at hv
              have hor := or_byte v y hv.1 (by omega) hy.1 hy.2
              have HV2 : Hid (v * 256 + y = val (t.take (k + 1 - 1))) := by
                have e : t.take (k + 1 - 1) = t.take (k - 1) ++ [t.getD (k - 1) 0] := by
                  have hk2 : k - 1 < t.length := by have := HLT.out; omega
                  rw [show k + 1 - 1 = (k - 1) + 1 by omega, List.take_add_one]
                  simp [List.getElem?_eq_getElem hk2, List.getD]
                rw [e, val_snoc, ← HV.out, ← HY.out]
                rfl
              have hj0 : (0 : Int) ≤ (k : Int) := by omega
              have hj1 : (k : Int) < (L : Int) := by omega
              have hkL : k < L := by omega
              clear hv hp hye hgd
              go_wp2_with fail
              go_round
              case rel => exact ⟨k + 1, v * 256 + y, by omega, by omega, by go_num, rfl, HV2⟩
              case measure => simp [intOf]; omega
            · have e : k = 9 := by omega
              subst e
              have hr := HR.out
              have h81 : (9 : Nat) - 1 = 8 := rfl
              rw [h81] at HV
              rw [← HV.out] at hr
              have hv := val_range (n := 8) (xs := t.take 8) (by rw [List.length_take]; have := HLT.out; omega) (HB2.out.take 8)
              rw [← HV.out] at hv
              rw [show ((9 : Nat) : Int) = 9 from rfl]
              cases h0 : v == 0 with
              | true =>
                rw [if_pos (Or.inl (by simpa using h0))] at hr
                have HR2 := Lib.hid hr
                clear hr HR hv
                go_wp2_with fail
                refine (HF.out _).mono ?_
                rintro e w1 ⟨rfl, hr1, ho1⟩
                have HR1 := Lib.hid hr1; have HO1 := Lib.hid ho1
                clear hr1 ho1
                go_wp2_with fail
                go_ret
                rw [HR2.out]
                exact ⟨rfl, HR1.out, HO1.out⟩
              | false =>
                cases h9 : decide (v > 9007199254740737) with
                | true =>
                  rw [if_pos (Or.inr (of_decide_eq_true h9))] at hr
                  have HR2 := Lib.hid hr
                  clear hr HR hv
                  go_wp2_with fail
                  refine (HF.out _).mono ?_
                  rintro e w1 ⟨rfl, hr1, ho1⟩
                  have HR1 := Lib.hid hr1; have HO1 := Lib.hid ho1
                  clear hr1 ho1
                  go_wp2_with fail
                  go_ret
                  rw [HR2.out]
                  exact ⟨rfl, HR1.out, HO1.out⟩
                | false =>
                  rw [if_neg (by have : v ≠ 0 := by simpa using h0
                                 have := of_decide_eq_false h9; omega)] at hr
                  have HR2 := Lib.hid hr
                  have hw1 : wrap64 v = v := by have := of_decide_eq_false h9; unfold wrap64; omega
                  have hw2 : wrap64 (254 + v) = 254 + v := by have := of_decide_eq_false h9; unfold wrap64; omega
                  have hgt : decide (254 + v > 9007199254740991) = false := by have := of_decide_eq_false h9; simp; omega
                  obtain ⟨A, ⟨hA, hAb⟩, hbs⟩ : ∃ A, ((if cap = 9 then some (⟨b, off, none⟩ : Addr) else some ⟨b, off + 9, none⟩) = A ∧ ∀ k, (Value.slice A (L - 9) (cap - 9)).ownBlock = some k → k < rb) ∧ BS w (.slice A (L - 9) (cap - 9)) (t.drop 8) := by
                    refine ⟨_, ⟨rfl, fun k hk => by have := HOB.out; split at hk <;> simp [Value.ownBlock] at hk <;> omega⟩, ?_⟩
                    have := BS.drop HD.out (j := 9) (by omega)
                    simpa [Addr.add_lit] using this
                  have HPUT := Lib.hid (RR.put H1.out (fun z h => by cases h) hbs (HB2.out.drop 8) (fun h => absurd rfl h) hAb)
                  have HOP : Hid (Only (fun k => k = rb) w (w.setCell ⟨rb, 0, none⟩ (.slice A (L - 9) (cap - 9)))) := Only.setCell (S := fun k => k = rb) (a := w) (b := w) (Only.refl _ w) (p := ⟨rb, 0, none⟩) (Or.inl rfl) _
                  have hL9' : 9 ≤ L := by omega
                  clear hr HR hv hbs hAb HF
                  go_wp2_with fail
                  all_goals go_ret
                  all_goals rw [HR2.out]
                  all_goals exact ⟨rfl, HPUT.out, HOP.out⟩
end Go.Proofs.Ythbhkcofhhkcoaa
