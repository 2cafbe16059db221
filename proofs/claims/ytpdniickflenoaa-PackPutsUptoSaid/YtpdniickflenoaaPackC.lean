/- PutText; the document's Put and PutText. -/
import Derived.Test.YtpdniickflenoaaPackB
namespace Go.Proofs.Ytpdniickflenoaa
open Go.RowKit Pk
set_option linter.unusedVariables false

/-- a text's bytes, as numbers -/
def txt (s : ByteArray) : List Int := s.data.toList.map fun b => (b.toNat : Int)
theorem txt_length (s : ByteArray) : (txt s).length = s.size := by rw [txt, List.length_map, Array.length_toList]; rfl
theorem txt_cells (s : ByteArray) : Lib.strCells s = (txt s).map (Value.int .u8) := by simp [Lib.strCells, txt]
theorem txt_bys (s : ByteArray) : Bys (txt s) := by
  intro x hx
  simp only [txt, List.mem_map] at hx
  obtain ⟨b, _, rfl⟩ := hx
  have := b.toNat_lt
  omega
theorem txt_str (s : ByteArray) : strOfNums (txt s) = s := by
  apply ByteArray.ext
  unfold strOfNums txt
  simp only [List.map_map]
  have : (s.data.toList.map ((fun n : Int => UInt8.ofNat n.toNat) ∘ fun b => (b.toNat : Int))) = s.data.toList := by
    conv => rhs; rw [← List.map_id s.data.toList]
    apply List.map_congr_left
    intro b _
    simp
  rw [this]
theorem str_txt {xs : List Int} (h : Bys xs) : txt (strOfNums xs) = xs := by
  unfold txt
  rw [strOfNums_data, List.map_map]
  conv => rhs; rw [← List.map_id xs]
  apply List.map_congr_left
  intro x hx
  have := h x hx
  simp only [Function.comp_apply, id_eq, UInt8.toNat_ofNat']
  omega

/-- a text's bytes behind bytes in new memory, or an error -/
def TxtP (xs : List Int) (s : ByteArray) (w : World) (e : Ending) (w' : World) : Prop :=
  Below w.heap.size w w' ∧ ((s.size ≤ 65536 ∧ ∃ v, e = .returned (.tuple #[v, .int .i64 0]) ∧ Ow w' w.heap.size v (xs ++ (num s.size ++ txt s))) ∨ (65536 < s.size ∧ e = .returned (.tuple #[.slice none 0 0, .int .i64 5])))

set_option maxHeartbeats 1000000 in
theorem putText_any {w : World} {v : Value} {xs : List Int} (s : ByteArray) (hv : BS w v xs) (hb : xs.length ≤ 140737488251000) : Calls Try.prog 10 #[v, .string s] w (TxtP xs s w) := by
  obtain ⟨a, cap, hv0⟩ : ∃ a cap, v = .slice a xs.length cap := by obtain ⟨a, cap, h, _⟩ := hv; exact ⟨a, cap, h⟩
  have HV := Lib.hid hv
  have HB := Lib.hid hb
  obtain ⟨n, hn⟩ : ∃ n, n = xs.length := ⟨_, rfl⟩
  obtain ⟨m, hm⟩ : ∃ m, m = s.size := ⟨_, rfl⟩
  rw [hv0] at *
  rw [← hn] at HV hb ⊢
  have HN := Lib.hid hn; have HM := Lib.hid hm
  obtain ⟨i0, hi, hz0, hz1, hz2⟩ := info_parts info5
  cases hs : decide ((m : Int) > 65536) with
  | true =>
    have hs' := of_decide_eq_true hs
    have hl : (s.size : Int) = m := by rw [hm]
    clear hv hv0 hn hm
    go_enter Try.func10, Try.ntmps10
    go_wp2_with fail
    go_ret2
    exact ⟨Below.refl _ _, Or.inr ⟨by have := HM.out; omega, rfl⟩⟩
  | false =>
    have hs' := of_decide_eq_false hs
    have hl : (s.size : Int) = m := by rw [hm]
    have hd : isN m = true := by unfold isN; simp; omega
    have hs9 := num_bounds m
    obtain ⟨s9, hs9e⟩ : ∃ s9 : Nat, s9 = (num m).length := ⟨_, rfl⟩
    rw [← hs9e] at hs9
    have HS9 := Lib.hid hs9e; have HD := Lib.hid hd
    have hw1 : wrap64 ((n : Int) + s9) = (n : Int) + s9 := by unfold wrap64; omega
    obtain ⟨zz, hzz⟩ : ∃ zz, zz = n + s9 + m := ⟨_, rfl⟩
    have hw2 : wrap64 ((n : Int) + s9 + m) = (zz : Int) := by unfold wrap64; omega
    have HZ := Lib.hid hzz
    clear hzz
    have HL2 := Lib.hid hl
    have HM5 : Hid (m ≤ 65536) := by unfold Hid; omega
    clear hv hv0 hn hm hs9e hd hs'
    go_enter Try.func10, Try.ntmps10
    go_wp2_with fail
    refine (size_any m w).mono ?_
    rintro e w1 ⟨rfl, rfl⟩
    rw [← HS9.out]
    go_wp2_with fail
    refine (copied_any HV.out zz (by have := HM5.out; have := HZ.out; omega) (by have := HN.out; omega)).mono ?_
    rintro e w1 ⟨v1, rfl, ho1, hb1⟩
    have HO1 := Lib.hid ho1; have HB1 := Lib.hid hb1
    clear ho1 hb1
    go_wp2_with fail
    refine (app_any w.heap.size _ xs w1 m HB1.out.size HO1.out HD.out (by have := HN.out; omega)).mono ?_
    rintro e w2 ⟨v2, rfl, ho2, hb2⟩
    have HO2 := Lib.hid ho2; have HB2 := Lib.hid (HB1.out.trans hb2)
    clear ho2 hb2
    have hn2 : (xs ++ num (m : Int)).length ≤ 140737488251009 := by rw [List.length_append, ← HN.out, ← HS9.out]; omega
    go_wp2_with (at_builtin; refine Lib.wpList_append_own_string w2 rfl (.tmp 24) (.tmp 25) 22 9 rfl w.heap.size 5 i0 Try.underlying22 Try.underlying9 hi hz0 hz1 hz2 _ _ _ rfl HO2.out s rfl ?c1 ?c2 ?c3 ?c4)
    case c1 => have := HM.out; have := HM5.out; unfold maxLen; omega
    case c2 => have := HM.out; have := HM5.out; omega
    case c3 => exact HB2.out.size
    case c4 =>
      intro v3 w3 hown hgrow _
      have hown' : Ow w3 w.heap.size v3 (xs ++ (num (s.size : Int) ++ txt s)) := by
        refine ow_of (m := xs.length + (num (m : Int)).length + s.size) ?_ ?_
        · rw [List.map_append, List.map_append, HL2.out, ← txt_cells]
          simpa [Nat.add_assoc] using hown
        · simp only [List.length_append, txt_length]
          rw [HL2.out]
          omega
      have hb3 := HB2.out.grown hgrow HB2.out.size (fun k hk => (HO2.out.lt k hk).1)
      have H1 := Lib.hid hown'; have H2 := Lib.hid hb3
      clear hown hgrow hown' hb3 HO1 HO2
      go_wp2_with fail
      go_ret2
      exact ⟨H2.out, Or.inl ⟨by have := HM.out; have := of_decide_eq_false hs; omega, _, rfl, H1.out⟩⟩

/-- the same bytes -/
theorem rput_digit (v : Int) (j : Nat) (hj : j < 8) (k : Int) (hk : k = 7 - (j : Int)) : v / 2 ^ min (8 * k).toNat 64 % 256 = v / 256 ^ (7 - j) % 256 := digit v j hj (8 * k) (by omega)

set_option maxHeartbeats 1000000 in
theorem rput_any {w : World} {v u : Value} {xs l : List Int} (hv : BS w v xs) (hu : IS w u l) (hb : xs.length + 9 * l.length ≤ 140737488351000) : Calls Try.prog 9 #[v, u] w (PutP xs l w) := by
  have HV := Lib.hid hv
  have HB := Lib.hid hb
  obtain ⟨i0, hi, hz0, hz1, hz2⟩ := info_parts info5
  obtain ⟨a2, cap2, rfl, hc1, hc2, hc3, hc4⟩ := hu
  obtain ⟨m, hm⟩ : ∃ m, m = l.length := ⟨_, rfl⟩
  rw [← hm] at hc1 hc4 hb ⊢
  have HM := Lib.hid hm
  have HC := Lib.hid hc4
  clear hm hc1 hc2 hc3 hv hc4
  go_enter Try.func9, Try.ntmps9
  go_wp2_with fail
  refine (copy_any HV.out (by omega)).mono ?_
  rintro e w1 ⟨v1, rfl, ho1, hb1⟩
  have HO1 := Lib.hid ho1; have HB1 := Lib.hid hb1
  clear ho1 hb1
  go_wp2_with fail
  go_loopw [6, 7, 8, 9] (fun sv i _ _ wr => ∃ j : Nat, j ≤ m ∧ i = .int .i64 j ∧ Hid (Ow wr w.heap.size sv (xs ++ nums (l.take j))) ∧ Hid (Below w.heap.size w wr) ∧ Hid ((l.take j).all isN = true)) (fun _ i _ _ _ => m - (intOf i).toNat)
  case atStart => exact ⟨0, by omega, rfl, by have := HO1.out; simpa [nums, Hid] using this, HB1, by simp [Hid]⟩
  case round =>
    obtain ⟨j, hj, rfl, HO, HBL, HT⟩ := hrel
    by_cases hjk : j < m
    · have hjl : j < l.length := by have := HM.out; omega
      obtain ⟨b, off, rfl, hcell⟩ := HC.out (by omega)
      have hc := hcell j hjk
      clear hcell
      have hc' := (HBL.out.cell (lt_of_cell hc)).trans hc
      obtain ⟨x, hx⟩ : ∃ x, x = l.getD j 0 := ⟨_, rfl⟩
      rw [← hx] at hc'
      have HX := Lib.hid hx; clear hx hc
      have HL : Hid ((xs ++ nums (l.take j)).length ≤ 140737488351200) := by
        have := nums_le (l := l) j; have := HM.out; have := HB.out; unfold Hid; rw [List.length_append]; omega
      obtain ⟨p, hp⟩ : ∃ p, p = (xs ++ nums (l.take j)).length := ⟨_, rfl⟩
      have HO1' := Lib.hid (ow_to HO.out hp); have HP := Lib.hid hp
      clear hp
      cases h0 : decide (x < 0) with
      | true =>
        have HF : Hid (l.all isN = false) := not_isN hjl (by rw [← HX.out]; unfold isN; have := of_decide_eq_true h0; simp; omega)
        clear hjl HO HO1'
        go_wp2_with fail
        go_ret2
        exact ⟨HBL.out, Or.inr ⟨HF.out, rfl⟩⟩
      | false =>
        cases h1 : decide (x > 9007199254740991) with
        | true =>
          have HF : Hid (l.all isN = false) := not_isN hjl (by rw [← HX.out]; unfold isN; have := of_decide_eq_true h1; simp; omega)
          clear hjl HO HO1'
          go_wp2_with fail
          go_ret2
          exact ⟨HBL.out, Or.inr ⟨HF.out, rfl⟩⟩
        | false =>
          have hd : isN x = true := by have h2 := of_decide_eq_false h0; have h3 := of_decide_eq_false h1; unfold isN; simp; omega
          have HF : Hid ((l.take (j + 1)).all isN = true) := take_isN hjl HT.out (by rw [← HX.out]; exact hd)
          have HG : Hid (nums (l.take (j + 1)) = nums (l.take j) ++ num x) := by rw [take_nums hjl, ← HX.out]; rfl
          have hsz := HBL.out.size
          have HD := Lib.hid hd
          clear hjl hd HO
          cases hs : decide (x < 255) with
          | true =>
            have hw : x % 256 = x := by have := of_decide_eq_true hs; have := of_decide_eq_false h0; omega
            have HS := Lib.hid hs
            go_wp2_with (at_builtin; refine wpList_append_own _ rfl (.tmp 30) (.tmp 33) 22 rfl w.heap.size 5 i0 (.int .u8 0) 1 1 Try.underlying22 hi hz0 hz1 hz2 rfl (by decide) _ _ _ rfl (HO1'.out.alloc _) ⟨wr.heap.size, 0, none⟩ 1 1 [.int .u8 x] rfl rfl (cell_one _ _ _) (one_u8 [x]) ?c3 ?c4 ?c5 ?c6)
            case c3 => have := HL.out; have := HP.out; unfold maxLen; omega
            case c4 => have := HL.out; have := HP.out; omega
            case c5 => simp; omega
            case c6 =>
              intro v2 w2 hown hgrow _
              have hown' : Ow w2 w.heap.size v2 (xs ++ nums (l.take (j + 1))) := by
                have e : num x = [x] := by unfold num; rw [if_pos (of_decide_eq_true HS.out)]
                rw [HG.out, e, ← List.append_assoc]
                exact ow_of (m := p + 1) (by simpa using hown) (by have := HP.out; rw [List.length_append, ← this]; rfl)
              have hb2 := grown_own HBL.out hsz HO1'.out _ hgrow
              have H1 := Lib.hid hown'; have H2 := Lib.hid hb2
              clear hown hgrow hown' hb2 HO1'
              go_wp2_with fail
              go_roundw
              case rel => exact ⟨j + 1, by omega, by go_num, H1, H2, HF⟩
              case measure => simp [intOf]; omega
          | false =>
            have HS := Lib.hid hs
            have hw2 : wrap64 (x - 254) = x - 254 := by have := of_decide_eq_false hs; have := of_decide_eq_false h1; unfold wrap64; omega
            go_wp2_with (at_builtin; refine wpList_append_own _ rfl (.tmp 35) (.tmp 36) 22 rfl w.heap.size 5 i0 (.int .u8 0) 1 1 Try.underlying22 hi hz0 hz1 hz2 rfl (by decide) _ _ _ rfl (HO1'.out.alloc _) ⟨wr.heap.size, 0, none⟩ 1 1 [.int .u8 255] rfl rfl (cell_one _ _ _) (one_u8 [255]) ?c3 ?c4 ?c5 ?c6)
            case c3 => have := HL.out; have := HP.out; unfold maxLen; omega
            case c4 => have := HL.out; have := HP.out; omega
            case c5 => simp; omega
            case c6 =>
              intro v2 w2 hown hgrow _
              have hown' : Ow w2 w.heap.size v2 ((xs ++ nums (l.take j)) ++ [255]) := ow_of (m := p + 1) (by simpa using hown) (by have := HP.out; rw [List.length_append, ← this]; rfl)
              have hb2 := grown_own HBL.out hsz HO1'.out _ hgrow
              have H1 := Lib.hid hown'; have H2 := Lib.hid hb2
              clear hown hgrow hown' hb2 HO1'
              obtain ⟨V, hV⟩ : ∃ V, V = x - 254 := ⟨_, rfl⟩
              have HV2 : Hid (num x = 255 :: hib V 8) := by unfold num; rw [if_neg (of_decide_eq_false HS.out), hV]; rfl
              have hV0 : 0 ≤ V ∧ V < 9223372036854775808 := by have := of_decide_eq_false HS.out; have := of_decide_eq_false h1; omega
              rw [← hV] at hw2
              have hw3 : wrap64 (x - 254) = V := by rw [← hV, hw2]
              clear hV hw2
              go_wp2_with fail
              rw [hw3]
              clear hw3
              go_loopw [6, 9] (fun sv sh wq => ∃ (i : Nat) (k : Int), i ≤ 8 ∧ sh = .int .i64 k ∧ Hid (k = 7 - (i : Int)) ∧ Hid (Ow wq w.heap.size sv (xs ++ nums (l.take j) ++ 255 :: hib V i)) ∧ Hid (Below w.heap.size w wq)) (fun _ sh _ => (intOf sh + 1).toNat)
              case atStart => exact ⟨0, 7, by omega, rfl, by simp [Hid], H1, H2⟩
              case round =>
                obtain ⟨i, k, hik, rfl, HK, HO2, HB2⟩ := hrel
                have hk2 := HK.out
                by_cases h8 : i < 8
                · have ht : decide (0 ≤ k) = true := decide_eq_true (by omega)
                  obtain ⟨q, hq⟩ : ∃ q, q = 56 - 8 * (i : Int) := ⟨_, rfl⟩
                  have hw4 : wrap64 (8 * k) = q := by unfold wrap64; omega
                  have hw5 : wrap64 (k - 1) = k - 1 := by unfold wrap64; omega
                  have hq0 : 0 ≤ q := by omega
                  obtain ⟨d, hd⟩ : ∃ d, d = V / 256 ^ (7 - i) % 256 := ⟨_, rfl⟩
                  have he : V / 2 ^ min q.toNat 64 % 256 = d := by rw [hd]; exact digit V i h8 q hq
                  have HD2 := Lib.hid hd
                  have hsr := HB2.out.size
                  obtain ⟨p2, hp2⟩ : ∃ p2, p2 = (xs ++ nums (l.take j) ++ 255 :: hib V i).length := ⟨_, rfl⟩
                  have HO3 := Lib.hid (ow_to HO2.out hp2); have HP2 := Lib.hid hp2
                  have HP3 : Hid (p2 ≤ 140737488351300) := by have := HL.out; rw [hp2, List.length_append, List.length_cons, hib_length]; unfold Hid; omega
                  clear hd hp2 hk2 HO2 H1 H2 hq
                  go_wp2_with (at_builtin; refine wpList_append_own _ rfl (.tmp 44) (.tmp 50) 22 rfl w.heap.size 5 i0 (.int .u8 0) 1 1 Try.underlying22 hi hz0 hz1 hz2 rfl (by decide) _ _ _ rfl (HO3.out.alloc _) ⟨wr.heap.size, 0, none⟩ 1 1 [.int .u8 d] rfl rfl (cell_one _ _ _) (one_u8 [d]) ?c3 ?c4 ?c5 ?c6)
                  case c3 => have := HP3.out; unfold maxLen; omega
                  case c4 => have := HP3.out; omega
                  case c5 => simp; omega
                  case c6 =>
                    intro v3 w3 hown hgrow _
                    have hown' : Ow w3 w.heap.size v3 (xs ++ nums (l.take j) ++ 255 :: hib V (i + 1)) := by
                      have e : (xs ++ nums (l.take j) ++ 255 :: hib V (i + 1)) = (xs ++ nums (l.take j) ++ 255 :: hib V i) ++ [d] := by rw [hib, ← HD2.out]; simp
                      rw [e]
                      exact ow_of (m := p2 + 1) (by simpa using hown) (by have := HP2.out; rw [List.length_append, ← this]; rfl)
                    have hb3 := grown_own HB2.out (by omega) HO3.out _ hgrow
                    have H1 := Lib.hid hown'; have H2 := Lib.hid hb3
                    have HK2 : Hid (k - 1 = 7 - ((i + 1 : Nat) : Int)) := by have := HK.out; unfold Hid; omega
                    clear hown hgrow hown' hb3 HO3
                    go_wp2_with fail
                    go_roundw
                    case rel =>
                      exact ⟨i + 1, k - 1, by omega, by rw [hw5], HK2, H1, H2⟩
                    case measure => have hk0 := of_decide_eq_true ht; simp [intOf]; omega
                · have ht : decide (0 ≤ k) = false := decide_eq_false (by omega)
                  have H3 : Hid (Ow wr w.heap.size u6 (xs ++ nums (l.take (j + 1)))) := by
                    have e : i = 8 := by omega
                    rw [e] at HO2
                    rw [HG.out, HV2.out, ← List.append_assoc]
                    exact HO2
                  clear HO2 HK hk2
                  go_wp2_with fail
                  go_roundw
                  case rel => exact ⟨j + 1, by omega, by go_num, H3, HB2, HF⟩
                  case measure => simp [intOf]; omega
    · have e : j = m := by omega
      subst e
      have HA : Hid (l.all isN = true) := by have := HT.out; rwa [HM.out, List.take_length] at this
      have HO2 : Hid (Ow wr w.heap.size u6 (xs ++ nums l)) := by have := HO.out; rwa [HM.out, List.take_length] at this
      clear HO HT
      go_wp2_with fail
      go_ret2
      exact ⟨HBL.out, Or.inl ⟨HA.out, _, rfl, HO2.out⟩⟩


set_option maxHeartbeats 1000000 in
theorem rputText_any {w : World} {v : Value} {xs : List Int} (s : ByteArray) (hv : BS w v xs) (hb : xs.length ≤ 140737488251000) : Calls Try.prog 11 #[v, .string s] w (TxtP xs s w) := by
  have HV := Lib.hid hv
  have HB := Lib.hid hb
  obtain ⟨m, hm⟩ : ∃ m, m = s.size := ⟨_, rfl⟩
  have HM := Lib.hid hm
  obtain ⟨i0, hi, hz0, hz1, hz2⟩ := info_parts info5
  cases hs : decide ((m : Int) > 65536) with
  | true =>
    have hs' := of_decide_eq_true hs
    have hl : (s.size : Int) = m := by rw [hm]
    clear hv hm
    go_enter Try.func11, Try.ntmps11
    go_wp2_with fail
    go_ret2
    exact ⟨Below.refl _ _, Or.inr ⟨by have := HM.out; omega, rfl⟩⟩
  | false =>
    have hs' := of_decide_eq_false hs
    have hl : (s.size : Int) = m := by rw [hm]
    have HD : Hid ([(m : Int)].all isN = true) := by unfold Hid isN; simp; omega
    have HL2 := Lib.hid hl
    have HM5 : Hid (m ≤ 65536) := by unfold Hid; omega
    have h1 := hv.alloc (.cells #[.int .i64 (m : Int)] 3)
    have h2 : IS (w.alloc (.cells #[.int .i64 (m : Int)] 3)) (.slice (some ⟨w.heap.size, 0, none⟩) 1 1) [(m : Int)] :=
      ⟨_, _, rfl, Nat.le_refl _, by decide, (fun h => by cases h), fun _ => ⟨w.heap.size, 0, rfl, fun i hi => by
        obtain rfl : i = 0 := by simpa using hi
        have := cell_one w (.int .i64 (m : Int)) 3 0 _ rfl
        rw [Addr.add_lit] at this
        exact this⟩⟩
    have H1 := Lib.hid h1; have H2 := Lib.hid h2
    clear hv hm hs' h1 h2
    go_enter Try.func11, Try.ntmps11
    go_wp2_with fail
    refine (rput_any H1.out H2.out (by simp; omega)).mono ?_
    rintro e w1 ⟨hb1, hor⟩
    obtain ⟨v1, rfl, ho1⟩ : ∃ v, e = .returned (.tuple #[v, .int .i64 0]) ∧ Ow w1 (w.alloc (.cells #[.int .i64 (m : Int)] 3)).heap.size v (xs ++ nums [(m : Int)]) := by
      rcases hor with ⟨_, h⟩ | ⟨h, _⟩
      · exact h
      · rw [HD.out] at h; cases h
    have ho2 : Ow w1 w.heap.size v1 (xs ++ num m) := by
      have e : nums [(m : Int)] = num m := by simp [nums]
      rw [e] at ho1
      exact ho1.mono (by simp)
    have hb2 : Below w.heap.size w w1 := ((Below.refl _ _).alloc (Nat.le_refl _) _).trans (hb1.mono (by simp))
    have HO2 := Lib.hid ho2; have HB2 := Lib.hid hb2
    have hn2 : (xs ++ num (m : Int)).length ≤ 140737488251009 := by rw [List.length_append]; have := num_bounds m; omega
    clear hor ho1 ho2 hb1 hb2
    go_wp2_with (at_builtin; refine Lib.wpList_append_own_string w1 rfl (.tmp 19) (.tmp 20) 22 9 rfl w.heap.size 5 i0 Try.underlying22 Try.underlying9 hi hz0 hz1 hz2 _ _ _ rfl HO2.out s rfl ?c1 ?c2 ?c3 ?c4)
    case c1 => have := HM.out; have := HM5.out; unfold maxLen; omega
    case c2 => have := HM.out; have := HM5.out; omega
    case c3 => exact HB2.out.size
    case c4 =>
      intro v3 w3 hown hgrow _
      have hown' : Ow w3 w.heap.size v3 (xs ++ (num (s.size : Int) ++ txt s)) := by
        refine ow_of (m := xs.length + (num (m : Int)).length + s.size) ?_ ?_
        · rw [List.map_append, List.map_append, HL2.out, ← txt_cells]
          simpa [Nat.add_assoc] using hown
        · simp only [List.length_append, txt_length]
          rw [HL2.out]
          omega
      have hb3 := HB2.out.grown hgrow HB2.out.size (fun k hk => (HO2.out.lt k hk).1)
      have H3 := Lib.hid hown'; have H4 := Lib.hid hb3
      clear hown hgrow hown' hb3 HO2
      go_wp2_with fail
      go_ret2
      exact ⟨H4.out, Or.inl ⟨by have := HM.out; have := HM5.out; omega, _, rfl, H3.out⟩⟩

end Go.Proofs.Ytpdniickflenoaa
