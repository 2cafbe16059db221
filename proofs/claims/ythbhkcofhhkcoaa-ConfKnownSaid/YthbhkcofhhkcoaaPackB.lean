/- Put and PutText: the bytes of numbers and texts, behind bytes, in new memory. -/
import Derived.Test.YthbhkcofhhkcoaaPackA
namespace Go.Proofs.Ythbhkcofhhkcoaa
open Go.RowKit Pk
set_option linter.unusedVariables false

theorem cell_one (w : World) (x : Value) (t : TypeId) : ∀ j u, [x][j]? = some u → (w.alloc (.cells #[x] t)).cell? ((⟨w.heap.size, 0, none⟩ : Addr).add j) = some u := by
  intro j u hj
  match j, hj with
  | 0, hj => simp at hj; subst hj; simp [Addr.add]
  | (j + 1), hj => simp at hj
theorem ow_of {w : World} {B m : Nat} {v : Value} {xs : List Int} (h : w.ownsRow B 5 1 v m (xs.map (Value.int .u8))) (hm : m = xs.length) : Ow w B v xs := by subst hm; exact h
theorem ow_to {w : World} {B m : Nat} {v : Value} {xs : List Int} (h : Ow w B v xs) (hm : m = xs.length) : w.ownsRow B 5 1 v m (xs.map (Value.int .u8)) := by subst hm; exact h
/-- a row of the call's own has grown: behind an append to it -/
theorem grown_own {w0 w w' : World} {B m : Nat} {v : Value} {xs : List Value} (b : Below B w0 w) (hB : B ≤ w.heap.size) (ho : w.ownsRow B 5 1 v m xs) (o : Obj) (hg : (w.alloc o).grownBy w' v.ownBlock) : Below B w0 w' :=
  (b.alloc hB o).grown hg (by simp; omega) (fun k hk => (ho.lt k hk).1)
/-- the digit of a round -/
theorem digit (v : Int) (j : Nat) (hj : j < 8) (s : Int) (hs : s = 56 - 8 * (j : Int)) : v / 2 ^ min s.toNat 64 % 256 = v / 256 ^ (7 - j) % 256 := by
  have e : min s.toNat 64 = 8 * (7 - j) := by omega
  rw [e, Int.pow_mul]
  rfl

/-- bytes of the call's own, with these bytes behind them -/
def AppP (B : Nat) (ys : List Int) (w : World) (e : Ending) (w' : World) : Prop := ∃ v', e = .returned v' ∧ Ow w' B v' ys ∧ Below B w w'

set_option maxHeartbeats 1000000 in
theorem app_any (B : Nat) (v : Value) (xs : List Int) (w : World) (n : Int) (hB : B ≤ w.heap.size) (ho : Ow w B v xs) (hn : isN n = true) (hl : xs.length ≤ 140737488351300) :
    Calls Try.prog 46 #[v, .int .i64 n] w (AppP B (xs ++ num n) w) := by
  obtain ⟨i0, hi, hz0, hz1, hz2⟩ := info_parts info5
  obtain ⟨h0, h1⟩ := isN_yes hn
  obtain ⟨a, cap, rfl⟩ := ho.slice
  obtain ⟨m, hm⟩ : ∃ m, m = xs.length := ⟨_, rfl⟩
  rw [← hm] at ho hl ⊢
  have HO := Lib.hid (ow_to ho hm); have HM := Lib.hid hm; clear ho hm
  cases hs : decide (n < 255) with
  | true =>
    have hw : n % 256 = n := by have := of_decide_eq_true hs; omega
    have HS := Lib.hid hs
    go_enter Try.func46, Try.ntmps46
    go_wp2_with (at_builtin; refine wpList_append_own _ rfl (.tmp 9) (.tmp 12) 40 rfl B 5 i0 (.int .u8 0) 1 1 Try.underlying40 hi hz0 hz1 hz2 rfl (by decide) _ _ _ rfl (HO.out.alloc _) ⟨w.heap.size, 0, none⟩ 1 1 [.int .u8 n] rfl rfl (cell_one _ _ _) (one_u8 [n]) ?c3 ?c4 ?c5 ?c6)
    case c3 => unfold maxLen; omega
    case c4 => omega
    case c5 => simp; omega
    case c6 =>
      intro v' w1 hown hgrow _
      have hown' : Ow w1 B v' (xs ++ num n) := by
        have e : num n = [n] := by unfold num; rw [if_pos (of_decide_eq_true HS.out)]
        rw [e]
        exact ow_of (m := m + 1) (by simpa using hown) (by have := HM.out; simp; omega)
      have hb := grown_own (Below.refl B w) hB HO.out _ hgrow
      have H1 := Lib.hid hown'; have H2 := Lib.hid hb
      clear hown hgrow hown' hb
      go_wp2
      go_ret
      exact ⟨_, rfl, H1.out, H2.out⟩
  | false =>
    have HS := Lib.hid hs
    have hw1 : (n - 254) % 18446744073709551616 = n - 254 := by have := of_decide_eq_false hs; omega
    have hw2 : wrap64 (n - 254) = n - 254 := by have := of_decide_eq_false hs; unfold wrap64; omega
    go_enter Try.func46, Try.ntmps46
    go_wp2_with (at_builtin; refine wpList_append_own _ rfl (.tmp 14) (.tmp 15) 40 rfl B 5 i0 (.int .u8 0) 1 1 Try.underlying40 hi hz0 hz1 hz2 rfl (by decide) _ _ _ rfl (HO.out.alloc _) ⟨w.heap.size, 0, none⟩ 1 1 [.int .u8 255] rfl rfl (cell_one _ _ _) (one_u8 [255]) ?c3 ?c4 ?c5 ?c6)
    case c3 => unfold maxLen; omega
    case c4 => omega
    case c5 => simp; omega
    case c6 =>
      intro v' w1 hown hgrow _
      have hown' : Ow w1 B v' (xs ++ [255]) := ow_of (m := m + 1) (by simpa using hown) (by have := HM.out; simp; omega)
      have hb := grown_own (Below.refl B w) hB HO.out _ hgrow
      have H1 := Lib.hid hown'; have H2 := Lib.hid hb
      have hsz : B ≤ w1.heap.size := Nat.le_trans hB hb.size
      clear hown hgrow hown' hb
      go_wp2
      obtain ⟨V, hV⟩ : ∃ V, V = n - 254 := ⟨_, rfl⟩
      have HN : Hid (num n = 255 :: hib V 8) := by unfold num; rw [if_neg (of_decide_eq_false HS.out), hV]; rfl
      have hV0 : 0 ≤ V := by have := of_decide_eq_false HS.out; omega
      rw [← hV] at *
      clear hV hw1 hw2
      go_loopw [0, 6] (fun sv sh wr => ∃ (j : Nat) (s : Int), j ≤ 8 ∧ sh = .int .i64 s ∧ Hid (s = 56 - 8 * (j : Int)) ∧ Hid (Ow wr B sv (xs ++ 255 :: hib V j)) ∧ Hid (Below B w wr)) (fun _ sh _ => (intOf sh + 8).toNat)
      case atStart => exact ⟨0, 56, by omega, rfl, by simp [Hid], H1, H2⟩
      case round =>
        obtain ⟨j, s, hj, rfl, HS2, HO2, HB2⟩ := hrel
        have hs2 := HS2.out
        by_cases h8 : j < 8
        · have ht : decide (0 ≤ s) = true := decide_eq_true (by omega)
          have ht0 : 0 ≤ s := by omega
          have hw8 : wrap64 (s - 8) = s - 8 := by unfold wrap64; omega
          obtain ⟨d, hd⟩ : ∃ d, d = V / 256 ^ (7 - j) % 256 := ⟨_, rfl⟩
          have he : V / 2 ^ min s.toNat 64 % 256 = d := by rw [hd]; exact digit V j h8 s hs2
          have HD := Lib.hid hd
          have hsr := HB2.out.size
          obtain ⟨a2, cap2, rfl⟩ := HO2.out.slice
          obtain ⟨m2, hm2⟩ : ∃ m2, m2 = (xs ++ 255 :: hib V j).length := ⟨_, rfl⟩
          have hm3 : m2 = m + 1 + j := by have := HM.out; rw [hm2]; simp [hib_length]; omega
          rw [← hm2]
          rw [← hm2] at HO2
          have HO3 := Lib.hid (ow_to HO2.out hm2); have HM2 := Lib.hid hm2; have HM3 := Lib.hid hm3
          clear hd hm2 hs2 hm3 HO2 H1 H2 HO
          go_wp2_with (at_builtin; refine wpList_append_own _ rfl (.tmp 24) (.tmp 29) 40 rfl B 5 i0 (.int .u8 0) 1 1 Try.underlying40 hi hz0 hz1 hz2 rfl (by decide) _ _ _ rfl (HO3.out.alloc _) ⟨wr.heap.size, 0, none⟩ 1 1 [.int .u8 d] rfl rfl (cell_one _ _ _) (one_u8 [d]) ?c3 ?c4 ?c5 ?c6)
          case c3 => have := HM3.out; unfold maxLen; omega
          case c4 => have := HM3.out; omega
          case c5 => simp; omega
          case c6 =>
            intro v2 w2 hown hgrow _
            have hown' : Ow w2 B v2 (xs ++ 255 :: hib V (j + 1)) := by
              have e : (xs ++ 255 :: hib V (j + 1)) = (xs ++ 255 :: hib V j) ++ [d] := by rw [hib, ← HD.out]; simp
              rw [e]
              exact ow_of (m := m2 + 1) (by simpa using hown) (by have := HM2.out; rw [List.length_append, ← this]; rfl)
            have hb := grown_own HB2.out (by omega) HO3.out _ hgrow
            have H1 := Lib.hid hown'; have H2 := Lib.hid hb
            have HS3 : Hid (s - 8 = 56 - 8 * ((j + 1 : Nat) : Int)) := by have := HS2.out; unfold Hid; omega
            clear hown hgrow hown' hb HO3
            go_wp2
            go_roundw
            case rel => exact ⟨j + 1, s - 8, by omega, by rw [hw8], HS3, H1, H2⟩
            case measure => simp [intOf]; omega
        · have ht : decide (0 ≤ s) = false := decide_eq_false (by omega)
          have H1 : Hid (Ow wr B u0 (xs ++ num n)) := by rw [HN.out]; have e : j = 8 := by omega
                                                         rw [e] at HO2; exact HO2
          clear HO2 HS2 hs2
          go_wp2
          go_ret
          exact ⟨_, rfl, H1.out, HB2.out⟩


theorem slice_nil (a : Option Addr) (n cap n' cap' : Nat) (w : World) : (binOp .eql 40 (.slice a n cap) (.slice none n' cap')).run Try.prog w = .ok (.bool a.isNone) w := Lib.run_eql_slice_nil w _ _ a n cap n' cap' Try.underlying40

set_option maxHeartbeats 400000 in
theorem clone_none (w : World) : Calls Try.prog 53 #[.slice none 0 0] w (OwnP [] w) := by
  have q := fun a n cap n' cap' w => slice_nil a n cap n' cap' w
  go_enter Try.func53, Try.ntmps53
  go_wp2
  go_ret
  exact ⟨_, rfl, Ow.nil _ _, Below.refl _ _⟩
set_option maxHeartbeats 400000 in
theorem clone_some (ad : Addr) (cap : Nat) (xs : List Int) (w : World) (hl : xs.length ≤ 140737488355328) (hc : ∀ (j : Nat) (u : Value), (xs.map (Value.int .u8))[j]? = some u → w.cell? (ad.add j) = some u) :
    Calls Try.prog 53 #[.slice (some ad) xs.length cap] w (OwnP xs w) := by
  obtain ⟨i0, hi, hz0, hz1, hz2⟩ := info_parts info5
  have HC := Lib.hid hc; clear hc
  obtain ⟨n, hn⟩ : ∃ n, n = xs.length := ⟨_, rfl⟩
  rw [← hn] at hl ⊢
  have HN := Lib.hid hn; clear hn
  have q := fun a n cap n' cap' w => slice_nil a n cap n' cap' w
  go_enter Try.func53, Try.ntmps53
  go_wp2_with (at_builtin; refine wpList_append_own _ rfl _ _ 40 rfl w.heap.size 5 i0 (.int .u8 0) 1 1 Try.underlying40 hi hz0 hz1 hz2 rfl (by decide) _ 0 [] rfl (World.ownsRow_made w #[] 0 (Nat.le_refl _) (Nat.zero_le _) rfl) ad n cap (xs.map (Value.int .u8)) rfl ?c0 ?c1 ?c2 ?c3 ?c4 ?c5 ?_)
  case c0 => simp [HN.out]
  case c1 => exact fun j u hu => (((Below.refl w.heap.size w).alloc (Nat.le_refl _) _).cell (lt_of_cell (HC.out j u hu))).trans (HC.out j u hu)
  case c2 => exact one_u8 xs
  case c3 => unfold maxLen; omega
  case c4 => omega
  case c5 => simp
  intro v' w1 hown hgrow _
  have hown' : Ow w1 w.heap.size v' xs := by simpa [Ow, HN.out] using hown
  have hb := ((Below.refl w.heap.size w).alloc (Nat.le_refl _) _).grown hgrow (by simp) (fun k hk => by simp [Value.ownBlock] at hk; omega)
  have H1 := Lib.hid hown'; have H2 := Lib.hid hb
  clear hb hown hgrow hown'
  go_wp2
  go_ret
  exact ⟨_, rfl, H1.out, H2.out⟩
theorem clone_any {w : World} {v : Value} {xs : List Int} (h : BS w v xs) (hl : xs.length ≤ 140737488355328) : Calls Try.prog 53 #[v] w (OwnP xs w) := by
  obtain ⟨a, cap, rfl, h1, h2, h3, h4⟩ := h
  rcases a with _ | ad
  · obtain rfl := h3 rfl
    obtain rfl : xs = [] := List.eq_nil_of_length_eq_zero (by omega)
    exact clone_none w
  · exact clone_some ad cap xs w hl (src_u8 h4)

set_option maxHeartbeats 400000 in
theorem copied_none (size : Nat) (w : World) (hs : size ≤ 140737488355328) : Calls Try.prog 45 #[.slice none 0 0, .int .i64 size] w (OwnP [] w) := by
  obtain ⟨i0, hi, hz0, hz1, hz2⟩ := info_parts info5
  go_enter Try.func45, Try.ntmps45
  go_wp2_with (at_make; refine wpList_make_own _ rfl _ _ 40 rfl w.heap.size 5 i0 (.int .u8 0) 1 Try.underlying40 hi hz0 hz1 _ _ _ size rfl rfl rfl (by rw [hz2]; omega) (by unfold maxLen; omega) (Nat.le_refl _) ?_; intro w0 hown0 hgrow0)
  have hb := (Below.refl w.heap.size w).grown hgrow0 (Nat.le_refl _) (fun k hk => by cases hk)
  go_ret
  exact ⟨_, rfl, hown0, hb⟩
set_option maxHeartbeats 400000 in
theorem copied_some (ad : Addr) (cap : Nat) (xs : List Int) (size : Nat) (w : World) (hs : size ≤ 140737488355328) (hl : xs.length ≤ 140737488351232) (hb : 0 < xs.length → ad.block < w.heap.size) (hc : ∀ (j : Nat) (u : Value), (xs.map (Value.int .u8))[j]? = some u → w.cell? (ad.add j) = some u) :
    Calls Try.prog 45 #[.slice (some ad) xs.length cap, .int .i64 size] w (OwnP xs w) := by
  obtain ⟨i0, hi, hz0, hz1, hz2⟩ := info_parts info5
  have HC := Lib.hid hc; clear hc
  obtain ⟨n, hn⟩ : ∃ n, n = xs.length := ⟨_, rfl⟩
  rw [← hn] at hl hb ⊢
  have HN := Lib.hid hn; clear hn
  have HBB := Lib.hid hb; clear hb
  go_enter Try.func45, Try.ntmps45
  go_wp2_with (at_make; refine wpList_make_own _ rfl _ _ 40 rfl w.heap.size 5 i0 (.int .u8 0) 1 Try.underlying40 hi hz0 hz1 _ _ _ size rfl rfl rfl (by rw [hz2]; omega) (by unfold maxLen; omega) (Nat.le_refl _) ?_)
  intro w0 hown0 hgrow0
  have hb0 := (Below.refl w.heap.size w).grown hgrow0 (Nat.le_refl _) (fun k hk => by cases hk)
  have HO := Lib.hid hown0; have HB := Lib.hid hb0
  clear hown0 hgrow0 hb0
  go_wp2_with (at_builtin; refine wpList_append_own _ rfl _ _ 40 rfl w.heap.size 5 i0 (.int .u8 0) 1 1 Try.underlying40 hi hz0 hz1 hz2 rfl (by decide) _ _ _ rfl HO.out ad n cap (xs.map (Value.int .u8)) rfl ?c0 ?c1 ?c2 ?c3 ?c4 ?c5 ?_)
  case c0 => simp [HN.out]
  case c1 =>
    intro j u hu
    have hj : j < n := by have := (List.getElem?_eq_some_iff.1 hu).1; rw [HN.out]; simpa using this
    have h1 := HC.out j u hu
    exact (HB.out.cell (p := ad.add j) (by have := HBB.out (by omega); have e : (ad.add j).block = ad.block := by (unfold Addr.add; split <;> rfl)
                                           rw [e]; exact this)).trans h1
  case c2 => exact one_u8 xs
  case c3 => unfold maxLen; omega
  case c4 => omega
  case c5 => exact HB.out.size
  intro v' w1 hown hgrow _
  have hown' : Ow w1 w.heap.size v' xs := by simpa [Ow, HN.out] using hown
  have hb := HB.out.grown hgrow HB.out.size (fun k hk => (HO.out.lt k hk).1)
  have H1 := Lib.hid hown'; have H2 := Lib.hid hb
  clear hb hown hgrow HO hown'
  go_wp2
  go_ret
  exact ⟨_, rfl, H1.out, H2.out⟩
theorem copied_any {w : World} {v : Value} {xs : List Int} (h : BS w v xs) (size : Nat) (hs : size ≤ 140737488355328) (hl : xs.length ≤ 140737488351232) : Calls Try.prog 45 #[v, .int .i64 size] w (OwnP xs w) := by
  obtain ⟨a, cap, rfl, h1, h2, h3, h4⟩ := h
  rcases a with _ | ad
  · obtain rfl := h3 rfl
    obtain rfl : xs = [] := List.eq_nil_of_length_eq_zero (by omega)
    exact copied_none size w hs
  · refine copied_some ad cap xs size w hs hl (fun hp => ?_) (src_u8 h4)
    obtain ⟨b, off, he, hc⟩ := h4 hp
    obtain rfl := Option.some.inj he
    have := lt_of_cell (hc 0 hp)
    exact this

/-- a bool is answered -/
def IsB (b : Bool) (w : World) (e : Ending) (w' : World) : Prop := e = .returned (.bool b) ∧ w = w'
/-- a number is answered -/
def IsI (n : Int) (w : World) (e : Ending) (w' : World) : Prop := e = .returned (.int .i64 n) ∧ w = w'
theorem isn_any (n : Int) (w : World) : Calls Try.prog 43 #[.int .i64 n] w (IsB (isN n) w) := by
  unfold isN
  cases h0 : decide (0 ≤ n) with
  | false =>
    go_enter Try.func43, Try.ntmps43
    go_wp2
    go_ret
    exact ⟨by simp, rfl⟩
  | true =>
    cases h1 : decide (n ≤ 9007199254740991) with
    | false =>
      go_enter Try.func43, Try.ntmps43
      go_wp2
      go_ret
      exact ⟨by simp, rfl⟩
    | true =>
      go_enter Try.func43, Try.ntmps43
      go_wp2
      go_ret
      exact ⟨by simp, rfl⟩
theorem size_any (n : Int) (w : World) : Calls Try.prog 44 #[.int .i64 n] w (IsI (num n).length w) := by
  obtain ⟨k, hk⟩ : ∃ k : Int, k = (num n).length := ⟨_, rfl⟩
  rw [← hk]
  rw [num_length] at hk
  cases h0 : decide (n < 255) with
  | false =>
    rw [if_neg (of_decide_eq_false h0)] at hk
    have HF := Lib.hid hk
    clear hk
    go_enter Try.func44, Try.ntmps44
    go_wp2
    go_ret
    exact ⟨by rw [HF.out]; rfl, rfl⟩
  | true =>
    rw [if_pos (of_decide_eq_true h0)] at hk
    have HF := Lib.hid hk
    clear hk
    go_enter Try.func44, Try.ntmps44
    go_wp2
    go_ret
    exact ⟨by rw [HF.out]; rfl, rfl⟩

/-- the bytes of numbers behind bytes in new memory, or an error -/
def PutP (xs l : List Int) (w : World) (e : Ending) (w' : World) : Prop :=
  Below w.heap.size w w' ∧ ((l.all isN = true ∧ ∃ v, e = .returned (.tuple #[v, .int .i64 0]) ∧ Ow w' w.heap.size v (xs ++ nums l)) ∨ (l.all isN = false ∧ e = .returned (.tuple #[.slice none 0 0, .int .i64 2])))
theorem take_isN {l : List Int} {k : Nat} (hk : k < l.length) (h : (l.take k).all isN = true) (hn : isN (l.getD k 0) = true) : (l.take (k + 1)).all isN = true := by
  have e : l.take (k + 1) = l.take k ++ [l.getD k 0] := by
    rw [List.take_add_one]
    simp [List.getElem?_eq_getElem hk, List.getD]
  rw [e, List.all_append, h]; simp only [List.all_cons, hn, List.all_nil]; rfl
theorem take_nums {l : List Int} {k : Nat} (hk : k < l.length) : nums (l.take (k + 1)) = nums (l.take k) ++ num (l.getD k 0) := by
  have e : l.take (k + 1) = l.take k ++ [l.getD k 0] := by
    rw [List.take_add_one]
    simp [List.getElem?_eq_getElem hk, List.getD]
  rw [e, nums_snoc]
theorem not_isN {l : List Int} {k : Nat} (hk : k < l.length) (hn : isN (l.getD k 0) = false) : l.all isN = false := by
  rw [List.all_eq_false]
  refine ⟨l[k], List.getElem_mem hk, ?_⟩
  have e : l.getD k 0 = l[k] := by simp [List.getElem?_eq_getElem hk, List.getD]
  rw [← e, hn]; decide
theorem all_isN {l : List Int} {k : Nat} (hk : k < l.length) (h : l.all isN = true) : isN (l.getD k 0) = true := by
  have e : l.getD k 0 = l[k] := by simp [List.getElem?_eq_getElem hk, List.getD]
  rw [e]; exact List.all_eq_true.1 h _ (List.getElem_mem hk)
theorem nums_le {l : List Int} (k : Nat) : (nums (l.take k)).length ≤ 9 * l.length := by
  have h1 := nums_length (l.take k)
  have h2 : (l.take k).length ≤ l.length := by rw [List.length_take]; omega
  omega

set_option maxHeartbeats 1000000 in
theorem put_any {w : World} {v u : Value} {xs l : List Int} (hv : BS w v xs) (hu : IS w u l) (hb : xs.length + 9 * l.length ≤ 140737488351000) : Calls Try.prog 28 #[v, u] w (PutP xs l w) := by
  obtain ⟨a, cap, hv0⟩ : ∃ a cap, v = .slice a xs.length cap := by obtain ⟨a, cap, h, _⟩ := hv; exact ⟨a, cap, h⟩
  have HV := Lib.hid hv
  have HB := Lib.hid hb
  obtain ⟨n, hn⟩ : ∃ n, n = xs.length := ⟨_, rfl⟩
  obtain ⟨a2, cap2, rfl, hc1, hc2, hc3, hc4⟩ := hu
  obtain ⟨m, hm⟩ : ∃ m, m = l.length := ⟨_, rfl⟩
  rw [hv0] at *
  rw [← hn] at HV hb ⊢
  rw [← hm] at hc1 hc4 hb ⊢
  have HN := Lib.hid hn; have HM := Lib.hid hm
  clear hv hv0 hn hm hc1 hc2 hc3
  have HC := Lib.hid hc4; clear hc4
  go_enter Try.func28, Try.ntmps28
  go_wp2
  go_loop [6, 16] (fun s i => ∃ (k : Nat) (z : Int), k ≤ m ∧ i = .int .i64 k ∧ s = .int .i64 z ∧ Hid (z = n + (nums (l.take k)).length) ∧ Hid ((l.take k).all isN = true)) (fun _ i => m - (intOf i).toNat)
  case atStart => exact ⟨0, n, by omega, rfl, rfl, by simp [Hid, nums], by simp [Hid]⟩
  case round =>
    obtain ⟨k, z, hk, rfl, rfl, HZ, HT⟩ := hrel
    by_cases hlt : k < m
    · have hkl : k < l.length := by have := HM.out; omega
      obtain ⟨b, off, rfl, hcell⟩ := HC.out (by omega)
      have hc := hcell k hlt
      clear hcell
      obtain ⟨x, hx⟩ : ∃ x, x = l.getD k 0 := ⟨_, rfl⟩
      rw [← hx] at hc
      have HX := Lib.hid hx; clear hx
      cases hd : isN x with
      | false =>
        have HF : Hid (l.all isN = false) := not_isN hkl (by rw [← HX.out]; exact hd)
        clear hkl
        go_wp2_with fail
        refine (isn_any x w).mono ?_
        rintro e w1 ⟨rfl, rfl⟩
        rw [hd]
        clear hd
        go_wp2_with fail
        go_ret2
        exact ⟨Below.refl _ _, Or.inr ⟨HF.out, rfl⟩⟩
      | true =>
        have HF : Hid ((l.take (k + 1)).all isN = true) := take_isN hkl HT.out (by rw [← HX.out]; exact hd)
        have HG : Hid (z + (num x).length = n + (nums (l.take (k + 1))).length) := by rw [take_nums hkl, ← HX.out, HZ.out]; unfold Hid; rw [List.length_append]; omega
        have hbd : 0 ≤ z ∧ z ≤ 140737488351000 := by have := HZ.out; have := nums_le (l := l) k; have := HM.out; have := HB.out; have := HN.out; omega
        have hs9 := num_bounds x
        obtain ⟨s9, hs9e⟩ : ∃ s9 : Nat, s9 = (num x).length := ⟨_, rfl⟩
        rw [← hs9e] at hs9 HG
        have HS9 := Lib.hid hs9e
        have hw : wrap64 (z + s9) = z + s9 := by unfold wrap64; omega
        clear hkl hs9e
        go_wp2_with fail
        refine (isn_any x w).mono ?_
        rintro e w1 ⟨rfl, rfl⟩
        rw [hd]
        clear hd
        go_wp2_with fail
        refine (size_any x w).mono ?_
        rintro e w1 ⟨rfl, rfl⟩
        rw [← HS9.out]
        go_wp2_with fail
        go_round
        case rel => exact ⟨k + 1, z + s9, by omega, by go_num, rfl, HG, HF⟩
        case measure => simp [intOf]; omega
    · have e : k = m := by omega
      subst e
      have HA : Hid (l.all isN = true) := by have := HT.out; rwa [HM.out, List.take_length] at this
      have HZ2 : Hid (z = n + (nums l).length) := by have := HZ.out; rwa [HM.out, List.take_length] at this
      obtain ⟨zz, rfl⟩ : ∃ zz : Nat, z = zz := ⟨n + (nums l).length, by rw [HZ2.out]; omega⟩
      have hzz : zz ≤ 140737488351000 := by have := HZ2.out; have := nums_length l; have := HM.out; omega
      clear HT HZ
      go_wp2_with fail
      refine (copied_any HV.out zz (by omega) (by have := HN.out; omega)).mono ?_
      rintro e w1 ⟨v1, rfl, ho1, hb1⟩
      have HO1 := Lib.hid ho1; have HB1 := Lib.hid hb1
      clear ho1 hb1
      go_wp2_with fail
      go_loopw [9, 33] (fun sv i wr => ∃ j : Nat, j ≤ k ∧ i = .int .i64 j ∧ Hid (Ow wr w.heap.size sv (xs ++ nums (l.take j))) ∧ Hid (Below w.heap.size w wr)) (fun _ i _ => k - (intOf i).toNat)
      case atStart => exact ⟨0, by omega, rfl, by have := HO1.out; simpa [nums, Hid] using this, HB1⟩
      case round =>
        obtain ⟨j, hj, rfl, HO, HBL⟩ := hrel
        by_cases hjk : j < k
        · have hjl : j < l.length := by have := HM.out; omega
          obtain ⟨b, off, rfl, hcell⟩ := HC.out (by omega)
          have hc := hcell j hjk
          clear hcell
          have hc' := (HBL.out.cell (lt_of_cell hc)).trans hc
          obtain ⟨x, hx⟩ : ∃ x, x = l.getD j 0 := ⟨_, rfl⟩
          rw [← hx] at hc'
          have hd : isN x = true := by rw [hx]; exact all_isN hjl HA.out
          have HG : Hid (nums (l.take (j + 1)) = nums (l.take j) ++ num x) := by rw [take_nums hjl, ← hx]; rfl
          have HL : Hid ((xs ++ nums (l.take j)).length ≤ 140737488351300) := by
            have := nums_le (l := l) j; have := HM.out; have := HN.out; unfold Hid; rw [List.length_append]; omega
          have HD := Lib.hid hd
          clear hx hc hjl hd
          go_wp2_with fail
          refine (app_any w.heap.size _ (xs ++ nums (l.take j)) wr x HBL.out.size HO.out HD.out HL.out).mono ?_
          rintro e w2 ⟨v2, rfl, ho2, hb2⟩
          have HO2 : Hid (Ow w2 w.heap.size v2 (xs ++ nums (l.take (j + 1)))) := by rw [HG.out, ← List.append_assoc]; exact ho2
          have HB2 := Lib.hid (HBL.out.trans hb2)
          clear ho2 hb2
          go_wp2_with fail
          go_roundw
          case rel => exact ⟨j + 1, by omega, by go_num, HO2, HB2⟩
          case measure => simp [intOf]; omega
        · have e : j = k := by omega
          subst e
          have HO2 : Hid (Ow wr w.heap.size u9 (xs ++ nums l)) := by have := HO.out; rwa [HM.out, List.take_length] at this
          clear HO
          go_wp2_with fail
          go_ret2
          exact ⟨HBL.out, Or.inl ⟨HA.out, _, rfl, HO2.out⟩⟩

end Go.Proofs.Ythbhkcofhhkcoaa
