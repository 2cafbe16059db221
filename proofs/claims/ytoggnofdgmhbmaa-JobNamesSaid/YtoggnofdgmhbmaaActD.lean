/- The program's row: what only reads. -/
import Derived.Test.YtoggnofdgmhbmaaActB
namespace Go.Proofs.Ytoggnofdgmhbmaa
open Go.RowKit Ac
set_option linter.unusedVariables false

abbrev PR (w : World) (rb g : Nat) (l : List Ak) : Prop := RW 74 w rb g l
abbrev DR (w : World) (rb g : Nat) (l : List Ak) : Prop := RW 77 w rb g l
theorem todo_cell {w : World} {rb : Nat} {v : Value} (c0 : w.cell? ⟨rb, 0, none⟩ = some v) : Calls Try.prog 57 #[.pointer (some ⟨rb, 0, none⟩)] w (IsV v w) := by
  go_enter Try.func57, Try.ntmps57
  go_wp2_with fail
  go_ret
  exact ⟨rfl, rfl⟩
theorem todo_nil (w : World) : Calls Try.prog 57 #[.pointer none] w (IsV (.slice none 0 0) w) := by
  go_enter Try.func57, Try.ntmps57
  go_wp2_with fail
  go_ret
  exact ⟨rfl, rfl⟩
theorem qT (w : World) (a : Option Addr) (n c n' c' : Nat) : (binOp .eql 24 (.slice a n c) (.slice none n' c')).run Try.prog w = .ok (.bool a.isNone) w := Lib.run_eql_slice_nil w _ _ a n c n' c' Try.underlying24
theorem none_of {w : World} {v : Value} {a : Option Addr} {n c : Nat} (h : Calls Try.prog 57 #[v] w (IsV (.slice a n c) w)) : Calls Try.prog 54 #[v] w (IsB a.isNone w) := by
  have H := Lib.hid h
  have q := qT
  clear h
  go_enter Try.func54, Try.ntmps54
  go_wp2_with fail
  refine H.out.mono ?_
  rintro e w1 ⟨rfl, rfl⟩
  go_wp2_with fail
  go_ret
  exact ⟨rfl, rfl⟩
/-- what todo tells of a row -/
theorem pr_todo {w : World} {rb g : Nat} {l : List Ak} (h : PR w rb g l) : ∃ x cap, AS w (.slice (some x) l.length cap) l ∧ w.cell? ⟨rb, 0, none⟩ = some (.slice (some x) l.length cap) ∧ Calls Try.prog 57 #[.pointer (some ⟨rb, 0, none⟩)] w (IsV (.slice (some x) l.length cap) w) := by
  obtain ⟨a, cap, c0, hs, hn⟩ := h.as
  obtain ⟨x, rfl⟩ := hn rfl
  exact ⟨x, cap, hs, c0, todo_cell c0⟩
theorem pr_is {w : World} {rb g : Nat} {l : List Ak} (h : PR w rb g l) : Calls Try.prog 54 #[.pointer (some ⟨rb, 0, none⟩)] w (IsB false w) := by
  obtain ⟨x, cap, _, _, h⟩ := pr_todo h
  exact none_of h
/-- an act and whether it is one -/
def nv (l : List Ak) : Value := .tuple #[av (nxt l), .bool (isn l)]
set_option maxHeartbeats 1000000 in
theorem next_any {w : World} {rb g : Nat} {l : List Ak} (h : PR w rb g l) : Calls Try.prog 46 #[.pointer (some ⟨rb, 0, none⟩)] w (VB (nv l) w) := by
  obtain ⟨x, cap, hs, c0, ht⟩ := pr_todo (h.below ((Below.refl _ w).alloc (Nat.le_refl _) (.cells #[.int .i64 0, .int .i64 0, .string ⟨#[]⟩] 49)))
  have HT := Lib.hid ht
  cases l with
  | nil =>
    clear hs ht h c0
    go_enter Try.func46, Try.ntmps46
    go_wp2_with fail
    refine HT.out.mono ?_
    rintro e w1 ⟨rfl, rfl⟩
    go_wp2_with fail
    go_returns
    exact ⟨rfl, (Below.refl _ _).alloc (Nat.le_refl _) _⟩
  | cons y t =>
    obtain ⟨b, off, e, d0, d1, d2⟩ := hs.at (i := 0) (by simp)
    simp only [Nat.zero_mul, Nat.add_zero] at d0 d1 d2
    injection e with e
    subst e
    have hlen : (y :: t).length = t.length + 1 := rfl
    rw [hlen] at HT
    generalize t.length = m at *
    clear hs ht h c0 hlen
    go_enter Try.func46, Try.ntmps46
    go_wp2_with fail
    refine HT.out.mono ?_
    rintro e w1 ⟨rfl, rfl⟩
    go_wp2_with fail
    go_returns
    exact ⟨rfl, (Below.refl _ _).alloc (Nat.le_refl _) _⟩
theorem done_any {w : World} {rb g : Nat} {l : List Ak} (h : PR w rb g l) : Calls Try.prog 43 #[.pointer (some ⟨rb, 0, none⟩)] w (IsB l.isEmpty w) := by
  obtain ⟨x, cap, hs, c0, ht⟩ := pr_todo h
  have HN := Lib.hid (pr_is h)
  clear hs ht h
  cases l with
  | nil =>
    go_enter Try.func43, Try.ntmps43
    go_wp2_with fail
    refine HN.out.mono ?_
    rintro e w1 ⟨rfl, rfl⟩
    go_wp2_with fail
    go_ret
    exact ⟨rfl, rfl⟩
  | cons y t =>
    have hlen : (y :: t).length = t.length + 1 := rfl
    rw [hlen] at c0
    generalize t.length = m at *
    have hd : ((m : Int) + 1 == 0) = false := by simp; omega
    clear hlen
    go_enter Try.func43, Try.ntmps43
    go_wp2_with fail
    refine HN.out.mono ?_
    rintro e w1 ⟨rfl, rfl⟩
    go_wp2_with fail
    go_ret
    exact ⟨rfl, rfl⟩
set_option maxHeartbeats 1000000 in
theorem left_any {w : World} {rb g : Nat} {l : List Ak} (h : PR w rb g l) (hg : Gd l) : Calls Try.prog 44 #[.pointer (some ⟨rb, 0, none⟩)] w (VB (.int .i64 (left l)) w) := by
  obtain ⟨ad, cap, hs, c0, ht⟩ := pr_todo h
  have HT := Lib.hid ht
  have HS := Lib.hid hs
  have HG := Lib.hid hg
  have hlen := hg.len
  obtain ⟨m, hm⟩ : ∃ m, m = l.length := ⟨_, rfl⟩
  have HM := Lib.hid hm
  rw [← hm] at HT HS hlen
  clear ht hs hg hm h c0
  go_enter Try.func44, Try.ntmps44
  go_wp2_with fail
  refine HT.out.mono ?_
  rintro e w1 ⟨rfl, rfl⟩
  go_wp2_with fail
  go_loopw [3, 5, 9] (fun v _ i wr => ∃ k : Nat, k ≤ m ∧ i = .int .i64 k ∧ ∃ q : Int, v = .int .i64 q ∧ 0 ≤ q ∧ q ≤ 64 * k ∧ Hid (q = left (l.take k)) ∧ Hid (Below w.heap.size w wr)) (fun _ _ i _ => m - (intOf i).toNat)
  case atStart => exact ⟨0, Nat.zero_le _, rfl, 0, rfl, by omega, by omega, rfl, Below.refl _ _⟩
  case round =>
    obtain ⟨k, hk, rfl, q, rfl, hq0, hq1, HQ, HB⟩ := hrel
    by_cases hlt : k < m
    · obtain ⟨b, off, e, d0, d1, d2⟩ := (HS.out.below HB.out).at hlt
      injection e with e
      subst e
      have hkl : k < l.length := by rw [← HM.out]; exact hlt
      have HL := Lib.hid (left_take l k hkl)
      have hbd := one_bd (HG.out.all (l.getD k o0) (by rw [List.getD_eq_getElem?_getD, List.getElem?_eq_getElem hkl]; exact List.getElem_mem hkl))
      have HO : Hid (one (l.getD k o0) = if (l.getD k o0).k = 1 then (l.getD k o0).n else 0) := rfl
      generalize one (l.getD k o0) = z at *
      generalize (l.getD k o0).k = yk at *
      generalize (l.getD k o0).n = yn at *
      generalize (l.getD k o0).s = ys at *
      clear hkl
      by_cases hk1 : yk = 1
      · subst hk1
        have hz : z = yn := by rw [HO.out]; rfl
        subst hz
        go_wp2_with fail
        go_roundw
        case rel => exact ⟨k + 1, by omega, by go_num, q + z, rfl, by omega, by omega, Lib.hid (by rw [HL.out, ← HQ.out]), HB.out.alloc HB.out.size _⟩
        case measure => simp [intOf]; omega
      · have hz : z = 0 := by rw [HO.out, if_neg hk1]
        subst hz
        have hd : (yk == 1) = false := by simpa using hk1
        clear hk1
        go_wp2_with fail
        go_roundw
        case rel => exact ⟨k + 1, by omega, by go_num, q, rfl, by omega, by omega, Lib.hid (by rw [HL.out, ← HQ.out, Int.add_zero]), HB.out.alloc HB.out.size _⟩
        case measure => simp [intOf]; omega
    · obtain rfl : k = m := by omega
      have HE := Lib.hid (show q = left l by rw [HQ.out, HM.out, List.take_length])
      go_wp2_with fail
      go_ret
      rw [← HE.out]
      exact ⟨rfl, HB.out⟩
/-- acts are answered, in a row of the call's own -/
def CloP (l : List Ak) (w : World) (e : Ending) (w' : World) : Prop := ∃ a c, e = .returned (.slice a l.length c) ∧ NA w' w.heap.size (.slice a l.length c) l ∧ Below w.heap.size w w'
theorem na_zero (w : World) : NA (w.alloc (.cells #[] 49)) w.heap.size (.slice (some ⟨w.heap.size, 0, none⟩) 0 0) [] :=
  ⟨rfl, Or.inr ⟨w.heap.size, 0, #[], rfl, Nat.le_refl _, heap_alloc_new w _, Nat.le_refl _, Nat.zero_le _, rfl, rfl⟩⟩
theorem below_al (w : World) (o : Obj) : Below w.heap.size w (w.alloc o) := (Below.refl _ _).alloc (Nat.le_refl _) _
/-- acts, copied behind none -/
theorem copied {w : World} {v : Value} {l : List Ak} (h : AS w v l) (hl : l.length ≤ 900) (ty : TypeId) :
    ∃ x c w', (Builtin.append_ #[24, 24] ty #[.slice (some ⟨w.heap.size, 0, none⟩) 0 0, v]).run Try.prog (w.alloc (.cells #[] 49)) = .ok (.slice (some x) l.length c) w' ∧ NA w' w.heap.size (.slice (some x) l.length c) l ∧ Below w.heap.size w w' := by
  obtain ⟨a, c, w', hrun, hown, hb, hx⟩ := app_acts (na_zero w) (h.below (below_al w _)) (by simp) (by simp; omega) ty
  obtain ⟨x, rfl⟩ := hx (by simp)
  exact ⟨x, c, w', hrun, hown, (below_al w _).trans hb⟩
end Go.Proofs.Ytoggnofdgmhbmaa
