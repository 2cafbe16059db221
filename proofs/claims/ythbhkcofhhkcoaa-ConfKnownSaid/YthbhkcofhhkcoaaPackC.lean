/- PutText; the document's Put and PutText. -/
import Derived.Test.YthbhkcofhhkcoaaPackB
namespace Go.Proofs.Ythbhkcofhhkcoaa
open Go.RowKit Pk
set_option linter.unusedVariables false

/-- a text's bytes, as numbers -/
def txt (s : ByteArray) : List Int := s.data.toList.map fun b => (b.toNat : Int)
theorem txt_length (s : ByteArray) : (txt s).length = s.size := by rw [txt, List.length_map, Array.length_toList]; rfl
theorem txt_cells (s : ByteArray) : Lib.strCells s = (txt s).map (Value.int .u8) := by simp [Lib.strCells, txt]
theorem txt_bys (s : ByteArray) : Bys (txt s) := by
  intro x hx
  simp only [txt, List.mem_map] at hx
  obtain ⟨b, _, rfl⟩ := hx
  have := b.toNat_lt
  omega
theorem txt_str (s : ByteArray) : strOfNums (txt s) = s := by
  apply ByteArray.ext
  unfold strOfNums txt
  simp only [List.map_map]
  have : (s.data.toList.map ((fun n : Int => UInt8.ofNat n.toNat) ∘ fun b => (b.toNat : Int))) = s.data.toList := by
    conv => rhs; rw [← List.map_id s.data.toList]
    apply List.map_congr_left
    intro b _
    simp
  rw [this]
theorem str_txt {xs : List Int} (h : Bys xs) : txt (strOfNums xs) = xs := by
  unfold txt
  rw [strOfNums_data, List.map_map]
  conv => rhs; rw [← List.map_id xs]
  apply List.map_congr_left
  intro x hx
  have := h x hx
  simp only [Function.comp_apply, id_eq, UInt8.toNat_ofNat']
  omega

/-- a text's bytes behind bytes in new memory, or an error -/
def TxtP (xs : List Int) (s : ByteArray) (w : World) (e : Ending) (w' : World) : Prop :=
  Below w.heap.size w w' ∧ ((s.size ≤ 65536 ∧ ∃ v, e = .returned (.tuple #[v, .int .i64 0]) ∧ Ow w' w.heap.size v (xs ++ (num s.size ++ txt s))) ∨ (65536 < s.size ∧ e = .returned (.tuple #[.slice none 0 0, .int .i64 5])))

/-- the same bytes -/
theorem rput_digit (v : Int) (j : Nat) (hj : j < 8) (k : Int) (hk : k = 7 - (j : Int)) : v / 2 ^ min (8 * k).toNat 64 % 256 = v / 256 ^ (7 - j) % 256 := digit v j hj (8 * k) (by omega)

set_option maxHeartbeats 1000000 in
theorem rput_any {w : World} {v u : Value} {xs l : List Int} (hv : BS w v xs) (hu : IS w u l) (hb : xs.length + 9 * l.length ≤ 140737488351000) : Calls Try.prog 31 #[v, u] w (PutP xs l w) := by
  have HV := Lib.hid hv
  have HB := Lib.hid hb
  obtain ⟨i0, hi, hz0, hz1, hz2⟩ := info_parts info5
  obtain ⟨a2, cap2, rfl, hc1, hc2, hc3, hc4⟩ := hu
  obtain ⟨m, hm⟩ : ∃ m, m = l.length := ⟨_, rfl⟩
  rw [← hm] at hc1 hc4 hb ⊢
  have HM := Lib.hid hm
  have HC := Lib.hid hc4
  clear hm hc1 hc2 hc3 hv hc4
  go_enter Try.func31, Try.ntmps31
  go_wp2_with fail
  refine (copy_any HV.out (by omega)).mono ?_
  rintro e w1 ⟨v1, rfl, ho1, hb1⟩
  have HO1 := Lib.hid ho1; have HB1 := Lib.hid hb1
  clear ho1 hb1
  go_wp2_with fail
  go_loopw [6, 7, 8, 9] (fun sv i _ _ wr => ∃ j : Nat, j ≤ m ∧ i = .int .i64 j ∧ Hid (Ow wr w.heap.size sv (xs ++ nums (l.take j))) ∧ Hid (Below w.heap.size w wr) ∧ Hid ((l.take j).all isN = true)) (fun _ i _ _ _ => m - (intOf i).toNat)
  case atStart => exact ⟨0, by omega, rfl, by have := HO1.out; simpa [nums, Hid] using this, HB1, by simp [Hid]⟩
  case round =>
    obtain ⟨j, hj, rfl, HO, HBL, HT⟩ := hrel
    by_cases hjk : j < m
    · have hjl : j < l.length := by have := HM.out; omega
      obtain ⟨b, off, rfl, hcell⟩ := HC.out (by omega)
      have hc := hcell j hjk
      clear hcell
      have hc' := (HBL.out.cell (lt_of_cell hc)).trans hc
      obtain ⟨x, hx⟩ : ∃ x, x = l.getD j 0 := ⟨_, rfl⟩
      rw [← hx] at hc'
      have HX := Lib.hid hx; clear hx hc
      have HL : Hid ((xs ++ nums (l.take j)).length ≤ 140737488351200) := by
        have := nums_le (l := l) j; have := HM.out; have := HB.out; unfold Hid; rw [List.length_append]; omega
      obtain ⟨p, hp⟩ : ∃ p, p = (xs ++ nums (l.take j)).length := ⟨_, rfl⟩
      have HO1' := Lib.hid (ow_to HO.out hp); have HP := Lib.hid hp
      clear hp
      cases h0 : decide (x < 0) with
      | true =>
        have HF : Hid (l.all isN = false) := not_isN hjl (by rw [← HX.out]; unfold isN; have := of_decide_eq_true h0; simp; omega)
        clear hjl HO HO1'
        go_wp2_with fail
        go_ret2
        exact ⟨HBL.out, Or.inr ⟨HF.out, rfl⟩⟩
      | false =>
        cases h1 : decide (x > 9007199254740991) with
        | true =>
          have HF : Hid (l.all isN = false) := not_isN hjl (by rw [← HX.out]; unfold isN; have := of_decide_eq_true h1; simp; omega)
          clear hjl HO HO1'
          go_wp2_with fail
          go_ret2
          exact ⟨HBL.out, Or.inr ⟨HF.out, rfl⟩⟩
        | false =>
          have hd : isN x = true := by have h2 := of_decide_eq_false h0; have h3 := of_decide_eq_false h1; unfold isN; simp; omega
          have HF : Hid ((l.take (j + 1)).all isN = true) := take_isN hjl HT.out (by rw [← HX.out]; exact hd)
          have HG : Hid (nums (l.take (j + 1)) = nums (l.take j) ++ num x) := by rw [take_nums hjl, ← HX.out]; rfl
          have hsz := HBL.out.size
          have HD := Lib.hid hd
          clear hjl hd HO
          cases hs : decide (x < 255) with
          | true =>
            have hw : x % 256 = x := by have := of_decide_eq_true hs; have := of_decide_eq_false h0; omega
            have HS := Lib.hid hs
            go_wp2_with (at_builtin; refine wpList_append_own _ rfl (.tmp 30) (.tmp 33) 40 rfl w.heap.size 5 i0 (.int .u8 0) 1 1 Try.underlying40 hi hz0 hz1 hz2 rfl (by decide) _ _ _ rfl (HO1'.out.alloc _) ⟨wr.heap.size, 0, none⟩ 1 1 [.int .u8 x] rfl rfl (cell_one _ _ _) (one_u8 [x]) ?c3 ?c4 ?c5 ?c6)
            case c3 => have := HL.out; have := HP.out; unfold maxLen; omega
            case c4 => have := HL.out; have := HP.out; omega
            case c5 => simp; omega
            case c6 =>
              intro v2 w2 hown hgrow _
              have hown' : Ow w2 w.heap.size v2 (xs ++ nums (l.take (j + 1))) := by
                have e : num x = [x] := by unfold num; rw [if_pos (of_decide_eq_true HS.out)]
                rw [HG.out, e, ← List.append_assoc]
                exact ow_of (m := p + 1) (by simpa using hown) (by have := HP.out; rw [List.length_append, ← this]; rfl)
              have hb2 := grown_own HBL.out hsz HO1'.out _ hgrow
              have H1 := Lib.hid hown'; have H2 := Lib.hid hb2
              clear hown hgrow hown' hb2 HO1'
              go_wp2_with fail
              go_roundw
              case rel => exact ⟨j + 1, by omega, by go_num, H1, H2, HF⟩
              case measure => simp [intOf]; omega
          | false =>
            have HS := Lib.hid hs
            have hw2 : wrap64 (x - 254) = x - 254 := by have := of_decide_eq_false hs; have := of_decide_eq_false h1; unfold wrap64; omega
            go_wp2_with (at_builtin; refine wpList_append_own _ rfl (.tmp 35) (.tmp 36) 40 rfl w.heap.size 5 i0 (.int .u8 0) 1 1 Try.underlying40 hi hz0 hz1 hz2 rfl (by decide) _ _ _ rfl (HO1'.out.alloc _) ⟨wr.heap.size, 0, none⟩ 1 1 [.int .u8 255] rfl rfl (cell_one _ _ _) (one_u8 [255]) ?c3 ?c4 ?c5 ?c6)
            case c3 => have := HL.out; have := HP.out; unfold maxLen; omega
            case c4 => have := HL.out; have := HP.out; omega
            case c5 => simp; omega
            case c6 =>
              intro v2 w2 hown hgrow _
              have hown' : Ow w2 w.heap.size v2 ((xs ++ nums (l.take j)) ++ [255]) := ow_of (m := p + 1) (by simpa using hown) (by have := HP.out; rw [List.length_append, ← this]; rfl)
              have hb2 := grown_own HBL.out hsz HO1'.out _ hgrow
              have H1 := Lib.hid hown'; have H2 := Lib.hid hb2
              clear hown hgrow hown' hb2 HO1'
              obtain ⟨V, hV⟩ : ∃ V, V = x - 254 := ⟨_, rfl⟩
              have HV2 : Hid (num x = 255 :: hib V 8) := by unfold num; rw [if_neg (of_decide_eq_false HS.out), hV]; rfl
              have hV0 : 0 ≤ V ∧ V < 9223372036854775808 := by have := of_decide_eq_false HS.out; have := of_decide_eq_false h1; omega
              rw [← hV] at hw2
              have hw3 : wrap64 (x - 254) = V := by rw [← hV, hw2]
              clear hV hw2
              go_wp2_with fail
              rw [hw3]
              clear hw3
              go_loopw [6, 9] (fun sv sh wq => ∃ (i : Nat) (k : Int), i ≤ 8 ∧ sh = .int .i64 k ∧ Hid (k = 7 - (i : Int)) ∧ Hid (Ow wq w.heap.size sv (xs ++ nums (l.take j) ++ 255 :: hib V i)) ∧ Hid (Below w.heap.size w wq)) (fun _ sh _ => (intOf sh + 1).toNat)
              case atStart => exact ⟨0, 7, by omega, rfl, by simp [Hid], H1, H2⟩
              case round =>
                obtain ⟨i, k, hik, rfl, HK, HO2, HB2⟩ := hrel
                have hk2 := HK.out
                by_cases h8 : i < 8
                · have ht : decide (0 ≤ k) = true := decide_eq_true (by omega)
                  obtain ⟨q, hq⟩ : ∃ q, q = 56 - 8 * (i : Int) := ⟨_, rfl⟩
                  have hw4 : wrap64 (8 * k) = q := by unfold wrap64; omega
                  have hw5 : wrap64 (k - 1) = k - 1 := by unfold wrap64; omega
                  have hq0 : 0 ≤ q := by omega
                  obtain ⟨d, hd⟩ : ∃ d, d = V / 256 ^ (7 - i) % 256 := ⟨_, rfl⟩
                  have he : V / 2 ^ min q.toNat 64 % 256 = d := by rw [hd]; exact digit V i h8 q hq
                  have HD2 := Lib.hid hd
                  have hsr := HB2.out.size
                  obtain ⟨p2, hp2⟩ : ∃ p2, p2 = (xs ++ nums (l.take j) ++ 255 :: hib V i).length := ⟨_, rfl⟩
                  have HO3 := Lib.hid (ow_to HO2.out hp2); have HP2 := Lib.hid hp2
                  have HP3 : Hid (p2 ≤ 140737488351300) := by have := HL.out; rw [hp2, List.length_append, List.length_cons, hib_length]; unfold Hid; omega
                  clear hd hp2 hk2 HO2 H1 H2 hq
                  go_wp2_with (at_builtin; refine wpList_append_own _ rfl (.tmp 44) (.tmp 50) 40 rfl w.heap.size 5 i0 (.int .u8 0) 1 1 Try.underlying40 hi hz0 hz1 hz2 rfl (by decide) _ _ _ rfl (HO3.out.alloc _) ⟨wr.heap.size, 0, none⟩ 1 1 [.int .u8 d] rfl rfl (cell_one _ _ _) (one_u8 [d]) ?c3 ?c4 ?c5 ?c6)
                  case c3 => have := HP3.out; unfold maxLen; omega
                  case c4 => have := HP3.out; omega
                  case c5 => simp; omega
                  case c6 =>
                    intro v3 w3 hown hgrow _
                    have hown' : Ow w3 w.heap.size v3 (xs ++ nums (l.take j) ++ 255 :: hib V (i + 1)) := by
                      have e : (xs ++ nums (l.take j) ++ 255 :: hib V (i + 1)) = (xs ++ nums (l.take j) ++ 255 :: hib V i) ++ [d] := by rw [hib, ← HD2.out]; simp
                      rw [e]
                      exact ow_of (m := p2 + 1) (by simpa using hown) (by have := HP2.out; rw [List.length_append, ← this]; rfl)
                    have hb3 := grown_own HB2.out (by omega) HO3.out _ hgrow
                    have H1 := Lib.hid hown'; have H2 := Lib.hid hb3
                    have HK2 : Hid (k - 1 = 7 - ((i + 1 : Nat) : Int)) := by have := HK.out; unfold Hid; omega
                    clear hown hgrow hown' hb3 HO3
                    go_wp2_with fail
                    go_roundw
                    case rel =>
                      exact ⟨i + 1, k - 1, by omega, by rw [hw5], HK2, H1, H2⟩
                    case measure => have hk0 := of_decide_eq_true ht; simp [intOf]; omega
                · have ht : decide (0 ≤ k) = false := decide_eq_false (by omega)
                  have H3 : Hid (Ow wr w.heap.size u6 (xs ++ nums (l.take (j + 1)))) := by
                    have e : i = 8 := by omega
                    rw [e] at HO2
                    rw [HG.out, HV2.out, ← List.append_assoc]
                    exact HO2
                  clear HO2 HK hk2
                  go_wp2_with fail
                  go_roundw
                  case rel => exact ⟨j + 1, by omega, by go_num, H3, HB2, HF⟩
                  case measure => simp [intOf]; omega
    · have e : j = m := by omega
      subst e
      have HA : Hid (l.all isN = true) := by have := HT.out; rwa [HM.out, List.take_length] at this
      have HO2 : Hid (Ow wr w.heap.size u6 (xs ++ nums l)) := by have := HO.out; rwa [HM.out, List.take_length] at this
      clear HO HT
      go_wp2_with fail
      go_ret2
      exact ⟨HBL.out, Or.inl ⟨HA.out, _, rfl, HO2.out⟩⟩


end Go.Proofs.Ythbhkcofhhkcoaa
