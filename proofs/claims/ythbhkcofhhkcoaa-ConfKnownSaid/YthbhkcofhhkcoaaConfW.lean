/- The document's reader: Read, End, rows of numbers. -/
import Derived.Test.YthbhkcofhhkcoaaConfV
import Derived.Test.YthbhkcofhhkcoaaConfQ
import Derived.Test.YthbhkcofhhkcoaaConfS
namespace Go.Proofs.Ythbhkcofhhkcoaa
open Go.RowKit Pk Cn
set_option linter.unusedVariables false

set_option maxHeartbeats 400000 in
theorem rread_any {w : World} {v : Value} {xs : List Int} (hv : BS w v xs) (hb : Bys xs) (hl : xs.length ≤ 140737488351232) : Calls Try.prog 35 #[v] w
    (fun e w' => ∃ rb, e = .returned (.pointer (some ⟨rb, 0, none⟩)) ∧ w.heap.size ≤ rb ∧ RR w' rb xs 0 ∧ Below w.heap.size w w') := by
  have H := Lib.hid (copy_any hv hl)
  have HB := Lib.hid hb
  obtain ⟨a, cap, rfl, _⟩ := hv
  clear hb
  go_enter Try.func35, Try.ntmps35
  go_wp2_with fail
  refine H.out.mono ?_
  rintro e w1 ⟨v1, rfl, ho, hb1⟩
  obtain ⟨a1, cap1, rfl⟩ := ho.slice
  have HO := Lib.hid ho; have HB1 := Lib.hid hb1
  clear ho hb1
  go_wp2_with fail
  go_ret
  refine ⟨_, rfl, HB1.out.size, ⟨_, heap_alloc_new w1 _, HO.out.bs.alloc _, HB.out, fun h => absurd rfl h, fun k hk => (World.ownsRow.lt HO.out k hk).2⟩, HB1.out.alloc HB1.out.size _⟩
set_option maxHeartbeats 400000 in
theorem rend_any {w : World} {rb : Nat} {xs : List Int} {er : Int} (h : RR w rb xs er) : Calls Try.prog 39 #[.pointer (some ⟨rb, 0, none⟩)] w (IsI (endOf xs er) w) := by
  obtain ⟨v, h1, ⟨a, cap, rfl, _⟩, _, h4, _⟩ := h
  have c0 := cell_of_row w rb 0 _ _ _ h1
  have c1 := cell_of_row w rb 1 _ _ _ h1
  obtain ⟨E, hE⟩ : ∃ E, E = endOf xs er := ⟨_, rfl⟩
  rw [← hE]
  unfold endOf at hE
  cases he : er == 0 with
  | false =>
    have hx := h4 (by simpa using he)
    subst hx
    have HE : Hid (E = er) := by rw [hE]; simp [Hid]
    clear h1 h4 hE
    go_enter Try.func39, Try.ntmps39
    go_wp2_with fail
    go_ret
    exact ⟨by rw [HE.out]; rfl, rfl⟩
  | true =>
    have hez : er = 0 := by simpa using he
    subst hez
    obtain ⟨n, hn⟩ : ∃ n, n = xs.length := ⟨_, rfl⟩
    rw [← hn] at c0 hE
    clear h1 h4 hn
    cases hp : decide (0 < n) with
    | true =>
      have HE : Hid (E = 4) := by unfold Hid; rw [hE, if_pos (by have := of_decide_eq_true hp; omega)]
      clear hE
      go_enter Try.func39, Try.ntmps39
      go_wp2_with fail
      go_ret
      exact ⟨by rw [HE.out]; rfl, rfl⟩
    | false =>
      have HE : Hid (E = 0) := by unfold Hid; rw [hE, if_neg (by have := of_decide_eq_false hp; omega)]
      clear hE
      go_enter Try.func39, Try.ntmps39
      go_wp2_with fail
      go_ret
      exact ⟨by rw [HE.out]; rfl, rfl⟩
theorem Oi.only {S : Nat → Prop} {w w' : World} {B : Nat} {v : Value} {xs : List Int} (h : Oi w B v xs) (o : Only S w w') (hS : ∀ k, S k → k < B) : Oi w' B v xs := by
  refine ⟨h.1, ?_⟩
  rcases h.2 with hn | ⟨g, cap, cur, rfl, hb, hg, rest⟩
  · exact Or.inl hn
  · exact Or.inr ⟨g, cap, cur, rfl, hb, (o.block g (Array.getElem?_eq_some_iff.1 hg).1 (fun s => by have := hS g s; omega)).trans hg, rest⟩

set_option maxHeartbeats 2000000 in
theorem rrow_any {w : World} {rb m : Nat} {xs : List Int} {er : Int} (h : RR w rb xs er) (hm : m ≤ 10) : Calls Try.prog 38 #[.pointer (some ⟨rb, 0, none⟩), .int .i64 m] w
    (fun e w' => ∃ v', e = .returned v' ∧ Oi w' w.heap.size v' (rowN m (xs, er)).1 ∧ RR w' rb (rowN m (xs, er)).2.1 (rowN m (xs, er)).2.2 ∧ Only (fun k => k = rb) w w') := by
  obtain ⟨i0, hi, hz0, hz1, hz2⟩ := info_parts info3
  have hrl := h.lt
  obtain ⟨s, hs⟩ : ∃ s : St, s = (xs, er) := ⟨_, rfl⟩
  have HR0 : Hid (RR w rb (rowN 0 s).2.1 (rowN 0 s).2.2) := by rw [hs]; exact h
  have HO0 : Hid (Oi w w.heap.size (.slice none 0 0) (rowN 0 s).1) := Oi.nil _ _
  rw [← hs]
  clear h hs
  go_enter Try.func38, Try.ntmps38
  go_wp2_with fail
  go_loopw [5, 6] (fun sv i wr => ∃ k : Nat, k ≤ m ∧ i = .int .i64 k ∧ Hid (Oi wr w.heap.size sv (rowN k s).1) ∧ Hid (RR wr rb (rowN k s).2.1 (rowN k s).2.2) ∧ Hid (Only (fun k => k = rb) w wr)) (fun _ i _ => m - (intOf i).toNat)
  case atStart => exact ⟨0, by omega, rfl, HO0, HR0, Only.refl _ _⟩
  case round =>
    obtain ⟨k, hk, rfl, HO, HR, HW⟩ := hrel
    by_cases hkm : k < m
    · have HN := Lib.hid (rnum_any HR.out)
      have HS : Hid (rowN (k + 1) s = ((rowN k s).1 ++ [(rd MX (rowN k s).2).1], (rd MX (rowN k s).2).2)) := rowN_snoc k s
      have HL : Hid ((rowN k s).1.length = k) := rowN_length k s
      obtain ⟨r, hr⟩ : ∃ r, r = rd MX ((rowN k s).2.1, (rowN k s).2.2) := ⟨_, rfl⟩
      have hr2 : rd MX (rowN k s).2 = r := hr.symm
      rw [hr2] at HS
      rw [← hr] at HN
      obtain ⟨l, hl⟩ : ∃ l, l = (rowN k s).1 := ⟨_, rfl⟩
      rw [← hl] at HO HS HL
      obtain ⟨a5, cap5, rfl⟩ := HO.out.slice
      rw [HL.out] at HO ⊢
      clear hr hr2 hl HR
      go_wp2_with fail
      refine HN.out.mono ?_
      rintro e w1 ⟨rfl, hr1, ho1⟩
      have HR1 := Lib.hid hr1
      have HO1 := Lib.hid (oi_to (HO.out.only ho1 (fun j hj => by omega)) HL.out.symm)
      have HW1 := Lib.hid (HW.out.trans ho1)
      have hsz : w.heap.size ≤ w1.heap.size := HW1.out.size
      clear hr1 ho1 HN HO HW
      go_wp2_with (at_builtin; refine wpList_append_own _ rfl (.tmp 12) (.tmp 15) 36 rfl w.heap.size 3 i0 (.int .i64 0) 1 8 Try.underlying36 hi hz0 hz1 hz2 rfl (by decide) _ _ _ rfl (World.ownsRow.alloc HO1.out _) ⟨w1.heap.size, 0, none⟩ 1 1 [.int .i64 r.1] rfl rfl ?q1 (one_i64 [r.1]) ?c3 ?c4 ?c5 ?c6)
      case q1 => exact lit_add rfl _ _
      case c3 => unfold maxLen; omega
      case c4 => omega
      case c5 => simp; omega
      case c6 =>
        intro v2 w2 hown hgrow _
        have hown' : Oi w2 w.heap.size v2 (rowN (k + 1) s).1 := by
          rw [HS.out]
          exact oi_of (m := k + 1) (by simpa using hown) (by rw [List.length_append, HL.out]; rfl)
        have hr2 : RR w2 rb (rowN (k + 1) s).2.1 (rowN (k + 1) s).2.2 := by
          rw [HS.out]
          exact HR1.out.keep (fun j hj => (hgrow.block j (by simp; omega) (fun e => by have := (HO1.out.lt j e.symm).1; omega)).trans (Below.heap_alloc _ _ _ (by omega)))
        have hw2 := (HW1.out.alloc (.cells #[.int .i64 r.1] 3)).grown hgrow (fun j hj => (HO1.out.lt j hj).1)
        have H1 := Lib.hid hown'; have H2 := Lib.hid hr2; have H3 := Lib.hid hw2
        clear hown hgrow hown' hr2 hw2 HO1 HR1 HW1
        go_wp2_with fail
        go_roundw
        case rel => exact ⟨k + 1, by omega, by go_num, H1, H2, H3⟩
        case measure => simp [intOf]; omega
    · have e : k = m := by omega
      subst e
      go_wp2_with fail
      go_ret
      exact ⟨_, rfl, HO.out, HR.out, HW.out⟩
end Go.Proofs.Ythbhkcofhhkcoaa
