/- The program's row: New, cut, Did, Ran. -/
import Derived.Test.YtoggnofdgmhbmaaActC
import Derived.Test.YtoggnofdgmhbmaaActD
namespace Go.Proofs.Ytoggnofdgmhbmaa
open Go.RowKit Ac
set_option linter.unusedVariables false

/-- nothing is answered; what is next is cut off -/
def CutP (rb g : Nat) (t : List Ak) (w : World) (e : Ending) (w' : World) : Prop := e = .returned (.tuple #[]) ∧ PR w' rb g t ∧ Only (Two rb g) w w'
set_option maxHeartbeats 1000000 in
theorem cut_any {w : World} {rb g : Nat} {x : Ak} {t : List Ak} (h : PR w rb g (x :: t)) (hl : (x :: t).length ≤ 32) : Calls Try.prog 55 #[.pointer (some ⟨rb, 0, none⟩)] w (CutP rb g t w) := by
  obtain ⟨ad, cap, hs, c0, ht⟩ := pr_todo h
  obtain ⟨b, off, e, d0, d1, d2⟩ := hs.at (i := 0) (by simp)
  injection e with e
  subst e
  obtain ⟨a', cap', e, hc1, hc2⟩ := hs.slice
  obtain ⟨rfl, rfl⟩ : some ⟨b, off, none⟩ = a' ∧ cap = cap' := by simpa using e
  have HC := Lib.hid (h.cut (Below.refl _ _) t.length (Nat.le_refl _) (by simp at hl; unfold maxLen; omega) c0 (fun e => e))
  have hf : w.frozen? ⟨rb, 0, none⟩ = false := by obtain ⟨a, cap, h1, _⟩ := h; exact frozen_of_row _ _ 0 _ _ h1
  have hlen : (x :: t).length = t.length + 1 := rfl
  have hlt := h.lt
  rw [hlen] at c0 hl hc1
  clear hs ht h d0 d1 d2 e hlen
  generalize hm : t.length = m at *
  have HM := Lib.hid hm
  clear hm
  by_cases hm0 : m = 0
  · subst hm0
    go_enter Try.func55, Try.ntmps55
    go_wp2_with fail
    go_returns
    exact ⟨rfl, HC.out.1, HC.out.2⟩
  · have hm1 : (m == 0) = false := by simpa using hm0
    go_enter Try.func55, Try.ntmps55
    go_wp2_with fail
    go_returns
    have H := HC.out
    rw [if_neg hm0] at H
    exact ⟨rfl, H.1, H.2⟩
theorem pr_free {w : World} {rb g : Nat} {x : Ak} {t : List Ak} (h : PR w rb g (x :: t)) {b off cap : Nat} (h0 : w.cell? ⟨rb, 0, none⟩ = some (.slice (some ⟨b, off, none⟩) (x :: t).length cap)) : w.frozen? ⟨b, off + 1, none⟩ = false := by
  obtain ⟨a, cap', h1, h2, h3, h4, h5, h6⟩ := h
  obtain ⟨off', cs, e, e1, e2, e3⟩ := h6 (by simp)
  have h7 := cell_of_row _ _ 0 _ _ _ h1
  rw [h0] at h7
  subst e
  obtain ⟨⟨rfl, rfl⟩, rfl⟩ : (b = g ∧ off = off') ∧ cap = cap' := by simpa using h7
  exact frozen_of_row _ _ _ _ _ e1
theorem pr_step {w w1 : World} {rb g : Nat} {l : List Ak} (h : PR w rb g l) (hb : Below w.heap.size w w1) (o : Obj) : PR (w1.alloc o) rb g l ∧ Only (Two rb g) w (w1.alloc o) ∧ Below w.heap.size w (w1.alloc o) :=
  ⟨h.below (hb.alloc hb.size o), Only.of_below (hb.alloc hb.size o), hb.alloc hb.size o⟩
section
variable {w : World} {rb g : Nat} {l : List Ak}
set_option maxHeartbeats 2000000 in
theorem did_any (h : PR w rb g l) (hl : l.length ≤ 32) : Calls Try.prog 35 #[.pointer (some ⟨rb, 0, none⟩)] w (RP 74 (.int .i64 (didE l)) rb g (didL l) w) := by
  have HX := Lib.hid (next_any h)
  have HP := Lib.hid h
  clear h
  cases l with
  | nil =>
    have HX2 : Hid (Calls Try.prog 46 #[.pointer (some ⟨rb, 0, none⟩)] w (VB (.tuple #[.agg #[.int .i64 0, .int .i64 0, .string ⟨#[]⟩], .bool false]) w)) := HX.out
    clear HX
    go_enter Try.func35, Try.ntmps35
    go_wp2_with fail
    refine HX2.out.mono ?_
    rintro e w1 ⟨rfl, hb⟩
    obtain ⟨hp, ho, _⟩ := pr_step HP.out hb (.cells #[.int .i64 0, .int .i64 0, .string ⟨#[]⟩] 49)
    have HP2 := Lib.hid hp
    have HO := Lib.hid ho
    clear hp ho hb HX2
    go_wp2_with fail
    refine (pr_is HP2.out).mono ?_
    rintro e w2 ⟨rfl, rfl⟩
    go_wp2_with fail
    go_ret
    exact ⟨rfl, HP2.out, HO.out⟩
  | cons x t =>
    obtain ⟨k, n, s⟩ := x
    have HX2 : Hid (Calls Try.prog 46 #[.pointer (some ⟨rb, 0, none⟩)] w (VB (.tuple #[.agg #[.int .i64 k, .int .i64 n, .string s], .bool true]) w)) := HX.out
    have HL := Lib.hid hl
    clear HX hl
    by_cases hk : k = 1
    · subst hk
      go_enter Try.func35, Try.ntmps35
      go_wp2_with fail
      refine HX2.out.mono ?_
      rintro e w1 ⟨rfl, hb⟩
      obtain ⟨hp, ho, _⟩ := pr_step HP.out hb (.cells #[.int .i64 1, .int .i64 n, .string s] 49)
      have HP2 := Lib.hid hp
      have HO := Lib.hid ho
      clear hp ho hb HX2
      go_wp2_with fail
      refine (pr_is HP2.out).mono ?_
      rintro e w2 ⟨rfl, rfl⟩
      go_wp2_with fail
      go_ret
      exact ⟨rfl, HP2.out, HO.out⟩
    · have hd : (k == 1) = false := by simpa using hk
      have HK := Lib.hid hk
      clear hk
      go_enter Try.func35, Try.ntmps35
      go_wp2_with fail
      refine HX2.out.mono ?_
      rintro e w1 ⟨rfl, hb⟩
      obtain ⟨hp, ho, _⟩ := pr_step HP.out hb (.cells #[.int .i64 k, .int .i64 n, .string s] 49)
      have HP2 := Lib.hid hp
      have HO := Lib.hid ho
      clear hp ho hb HX2
      go_wp2_with fail
      refine (pr_is HP2.out).mono ?_
      rintro e w2 ⟨rfl, rfl⟩
      go_wp2_with fail
      refine (cut_any HP2.out HL.out).mono ?_
      rintro e w3 ⟨rfl, hp3, ho3⟩
      have HP3 := Lib.hid hp3
      have HO3 := Lib.hid ho3
      clear hp3 ho3
      go_wp2_with fail
      go_ret
      exact ⟨by rw [didE_no HK.out]; rfl, by rw [didL_no HK.out]; exact HP3.out, HO.out.trans HO3.out⟩
set_option maxHeartbeats 2000000 in
theorem ran_any (h : PR w rb g l) (hl : Gd l) : Calls Try.prog 37 #[.pointer (some ⟨rb, 0, none⟩)] w (RP 74 (.int .i64 (ranE l)) rb g (ranL l) w) := by
  have HX := Lib.hid (next_any h)
  have HP := Lib.hid h
  clear h
  cases l with
  | nil =>
    have HX2 : Hid (Calls Try.prog 46 #[.pointer (some ⟨rb, 0, none⟩)] w (VB (.tuple #[.agg #[.int .i64 0, .int .i64 0, .string ⟨#[]⟩], .bool false]) w)) := HX.out
    clear HX
    go_enter Try.func37, Try.ntmps37
    go_wp2_with fail
    refine HX2.out.mono ?_
    rintro e w1 ⟨rfl, hb⟩
    obtain ⟨hp, ho, _⟩ := pr_step HP.out hb (.cells #[.int .i64 0, .int .i64 0, .string ⟨#[]⟩] 49)
    have HP2 := Lib.hid hp
    have HO := Lib.hid ho
    clear hp ho hb HX2
    go_wp2_with fail
    refine (pr_is HP2.out).mono ?_
    rintro e w2 ⟨rfl, rfl⟩
    go_wp2_with fail
    go_ret
    exact ⟨rfl, HP2.out, HO.out⟩
  | cons x t =>
    have hg := good_head hl
    have hl := hl.len
    obtain ⟨k, n, s⟩ := x
    have HX2 : Hid (Calls Try.prog 46 #[.pointer (some ⟨rb, 0, none⟩)] w (VB (.tuple #[.agg #[.int .i64 k, .int .i64 n, .string s], .bool true]) w)) := HX.out
    have HL := Lib.hid hl
    have HG := Lib.hid hg
    clear HX hl hg
    by_cases hk : k = 1
    · subst hk
      obtain ⟨hn1, hn2⟩ := may_run HG.out rfl
      simp only at hn1 hn2
      by_cases hn : n = 1
      · subst hn
        go_enter Try.func37, Try.ntmps37
        go_wp2_with fail
        refine HX2.out.mono ?_
        rintro e w1 ⟨rfl, hb⟩
        obtain ⟨hp, ho, _⟩ := pr_step HP.out hb (.cells #[.int .i64 1, .int .i64 1, .string s] 49)
        have HP2 := Lib.hid hp
        have HO := Lib.hid ho
        clear hp ho hb HX2
        go_wp2_with fail
        refine (pr_is HP2.out).mono ?_
        rintro e w2 ⟨rfl, rfl⟩
        go_wp2_with fail
        refine (cut_any HP2.out HL.out).mono ?_
        rintro e w3 ⟨rfl, hp3, ho3⟩
        have HP3 := Lib.hid hp3
        have HO3 := Lib.hid ho3
        clear hp3 ho3
        go_wp2_with fail
        go_ret
        exact ⟨rfl, HP3.out, HO.out.trans HO3.out⟩
      · have hd : (n == 1) = false := by simpa using hn
        have HN := Lib.hid hn
        clear hn
        go_enter Try.func37, Try.ntmps37
        go_wp2_with fail
        refine HX2.out.mono ?_
        rintro e w1 ⟨rfl, hb⟩
        obtain ⟨hp, ho, hb2⟩ := pr_step HP.out hb (.cells #[.int .i64 1, .int .i64 n, .string s] 49)
        obtain ⟨ad, cap, hs, c0, _⟩ := pr_todo hp
        obtain ⟨b, off, e, d0, d1, d2⟩ := hs.at (i := 0) (by simp)
        injection e with e
        subst e
        obtain ⟨q1, q2⟩ := hp.less (Below.refl _ _) c0 (n - 1)
        have hf := pr_free hp c0
        have HQ := Lib.hid (show PR _ rb g (⟨1, n - 1, s⟩ :: t) ∧ Only (Two rb g) w _ from ⟨q1, ho.trans q2⟩)
        simp only [Nat.zero_mul, Nat.add_zero, List.getD_cons_zero] at d0 d1 d2
        have HP2 := Lib.hid hp
        have HL2 : Hid (t.length + 1 ≤ 32) := HL.out
        rw [show (⟨1, n, s⟩ :: t : List Ak).length = t.length + 1 from rfl] at c0
        generalize t.length = m at *
        clear hp ho hb hb2 q1 q2 hs HX2
        go_wp2_with fail
        refine (pr_is HP2.out).mono ?_
        rintro e w2 ⟨rfl, rfl⟩
        go_wp2_with fail
        go_ret
        exact ⟨rfl, by rw [ranL_less HN.out]; exact HQ.out.1, HQ.out.2⟩
    · have hd : (k == 1) = false := by simpa using hk
      have HK := Lib.hid hk
      clear hk
      go_enter Try.func37, Try.ntmps37
      go_wp2_with fail
      refine HX2.out.mono ?_
      rintro e w1 ⟨rfl, hb⟩
      obtain ⟨hp, ho, _⟩ := pr_step HP.out hb (.cells #[.int .i64 k, .int .i64 n, .string s] 49)
      have HP2 := Lib.hid hp
      have HO := Lib.hid ho
      clear hp ho hb HX2
      go_wp2_with fail
      refine (pr_is HP2.out).mono ?_
      rintro e w2 ⟨rfl, rfl⟩
      go_wp2_with fail
      go_ret
      exact ⟨by rw [ranE_no HK.out]; rfl, by rw [ranL_no HK.out]; exact HP2.out, HO.out⟩
end
/-- a pointer to a row and no error are answered; or none, and an error -/
def NewP (l : List Ak) (w : World) (e : Ending) (w' : World) : Prop := ∃ rb g, e = .returned (.tuple #[.pointer (some ⟨rb, 0, none⟩), .int .i64 0]) ∧ PR w' rb g l ∧ w.heap.size ≤ rb ∧ w.heap.size ≤ g ∧ g < w'.heap.size ∧ Below w.heap.size w w'
def NoP (r : Int) (w : World) (e : Ending) (w' : World) : Prop := e = .returned (.tuple #[.pointer none, .int .i64 r]) ∧ Below w.heap.size w w'
/-- a row's object, laid -/
theorem pr_new {w : World} {B : Nat} {x : Addr} {c : Nat} {l : List Ak} (h : NA w B (.slice (some x) l.length c) l) : PR (w.alloc (.cells #[.slice (some x) l.length c] 74)) w.heap.size x.block l ∧ B ≤ x.block := by
  have hlt := (h.lt x.block rfl)
  rcases h.2 with ⟨e, _⟩ | ⟨g, cap, cur, e, hb, hh, hnc, hcm, hcs, htk⟩
  · simp at e
  · simp at e
    obtain ⟨rfl, rfl⟩ := e
    refine ⟨⟨_, c, heap_alloc_new w _, hnc, hcm, (fun e => by cases e), fun _ => ⟨_, rfl⟩, fun hn => ⟨0, cur, rfl, (Below.heap_alloc w _ g hlt.2).trans hh, (show g ≠ w.heap.size by have hlt2 : g < w.heap.size := hlt.2; omega), fun j u hj => ?_⟩⟩, hb⟩
    rw [← htk, List.getElem?_take] at hj
    split at hj
    · rw [Nat.zero_add, ← Array.getElem?_toList]; exact hj
    · cases hj
set_option maxHeartbeats 2000000 in
theorem new_lim {w : World} {v : Value} {l : List Ak} (h : AS w v l) (hl : 32 < l.length) : Calls Try.prog 29 #[v] w (NoP 5 w) := by
  obtain ⟨a, cap, rfl, h1, h2⟩ := h.slice
  have hd : decide (32 < (l.length : Int)) = true := by simp; omega
  generalize l.length = m at *
  clear h
  go_enter Try.func29, Try.ntmps29
  go_wp2_with fail
  go_ret2
  exact ⟨rfl, Below.refl _ _⟩
/-- either all may be, and a row is answered; or not, and an error -/
def NewR (l : List Ak) (w : World) (e : Ending) (w' : World) : Prop := ((∀ x ∈ l, may x) ∧ NewP l w e w') ∨ ((¬ ∀ x ∈ l, may x) ∧ NoP 2 w e w')
theorem all_of {l : List Ak} (h : ∀ j, j < l.length → may (l.getD j o0)) : ∀ x ∈ l, may x := fun x hx => by
  obtain ⟨j, hj, rfl⟩ := List.mem_iff_getElem.1 hx
  have := h j hj
  rw [List.getD_eq_getElem?_getD, List.getElem?_eq_getElem hj] at this
  exact this
theorem may_at {l : List Ak} (h : ∀ x ∈ l, may x) {j : Nat} (hj : j < l.length) : may (l.getD j o0) := by
  rw [List.getD_eq_getElem?_getD, List.getElem?_eq_getElem hj]
  exact h _ (List.getElem_mem hj)
set_option maxHeartbeats 4000000 in
theorem new_fit {w : World} {v : Value} {l : List Ak} (h : AS w v l) (hl : l.length ≤ 32) : Calls Try.prog 29 #[v] w (NewR l w) := by
  obtain ⟨a, cap, rfl, h1, h2⟩ := h.slice
  have hd : decide (32 < (l.length : Int)) = false := by simp; omega
  have HS := Lib.hid h
  obtain ⟨m, hm⟩ : ∃ m, m = l.length := ⟨_, rfl⟩
  have HM := Lib.hid hm
  rw [← hm] at HS hl hd h1 ⊢
  clear h hm
  go_enter Try.func29, Try.ntmps29
  go_wp2_with fail
  go_loopw [12] (fun i wr => ∃ k : Nat, k ≤ m ∧ i = .int .i64 k ∧ Hid (∀ j, j < k → may (l.getD j o0)) ∧ Hid (Below w.heap.size w wr)) (fun i _ => m - (intOf i).toNat)
  case atStart => exact ⟨0, Nat.zero_le _, rfl, Lib.hid (fun j hj => absurd hj (by omega)), Below.refl _ _⟩
  case round =>
    obtain ⟨k, hk, rfl, HY, HB⟩ := hrel
    by_cases hlt : k < m
    · obtain ⟨b, off, rfl, d0, d1, d2⟩ := (HS.out.below HB.out).at hlt
      have HCH : Hid (∀ W, Calls Try.prog 49 #[.agg #[.int .i64 (l.getD k o0).k, .int .i64 (l.getD k o0).n, .string (l.getD k o0).s]] W (VB (.int .i64 (chk (l.getD k o0))) W)) := fun W => check_any _ W
      rcases chk_or (l.getD k o0) with ⟨hy, hc⟩ | ⟨hn, hc⟩
      · rw [hc] at HCH
        have HY2 : Hid (∀ j, j < k + 1 → may (l.getD j o0)) := fun j hj => by
          rcases Nat.lt_or_ge j k with h | h
          · exact HY.out j h
          · obtain rfl : j = k := by omega
            exact hy
        generalize (l.getD k o0).k = yk at *
        generalize (l.getD k o0).n = yn at *
        generalize (l.getD k o0).s = ys at *
        have HBA := Lib.hid (HB.out.alloc HB.out.size (.cells #[.int .i64 yk, .int .i64 yn, .string ys] 49))
        clear hc hy HY
        go_wp2_with fail
        refine (HCH.out _).mono ?_
        rintro e w1 ⟨rfl, hb⟩
        have HB1 := Lib.hid (chn HBA.out hb)
        clear hb
        go_wp2_with fail
        go_roundw
        case rel => exact ⟨k + 1, by omega, by go_num, HY2, HB1⟩
        case measure => simp [intOf]; omega
      · rw [hc] at HCH
        have HN := Lib.hid (fun h : ∀ x ∈ l, may x => hn (may_at h (by rw [← HM.out]; exact hlt)))
        generalize (l.getD k o0).k = yk at *
        generalize (l.getD k o0).n = yn at *
        generalize (l.getD k o0).s = ys at *
        have HBA := Lib.hid (HB.out.alloc HB.out.size (.cells #[.int .i64 yk, .int .i64 yn, .string ys] 49))
        clear hc hn HY
        go_wp2_with fail
        refine (HCH.out _).mono ?_
        rintro e w1 ⟨rfl, hb⟩
        have HB1 := Lib.hid (chn HBA.out hb)
        clear hb
        go_wp2_with fail
        go_ret2
        exact Or.inr ⟨HN.out, rfl, HB1.out⟩
    · obtain rfl : k = m := by omega
      have hall : ∀ x ∈ l, may x := all_of (by rw [← HM.out]; exact HY.out)
      have hs2 := HS.out.below HB.out
      rw [HM.out] at hs2
      obtain ⟨x, c, w2, hrun, hown, hb⟩ := copied hs2 (by rw [← HM.out]; omega) 24
      obtain ⟨hp, hx⟩ := pr_new hown
      have HNEW := Lib.hid (show NewR l w (.returned (.tuple #[.pointer (some ⟨w2.heap.size, 0, none⟩), .int .i64 0])) _ from Or.inl ⟨hall, w2.heap.size, x.block, rfl, hp, Nat.le_trans HB.out.size hb.size, Nat.le_trans HB.out.size hx, (by have := (hown.lt x.block rfl).2; simp; omega), (HB.out.trans (hb.mono HB.out.size)).alloc (Nat.le_trans HB.out.size hb.size) _⟩)
      rw [← HM.out] at hrun HNEW
      have HRUN := Lib.hid hrun
      clear hrun hown hb hp hx hs2 hall HY
      go_wp2_with (at_builtin; refine wpList_append_eq rfl (.tmp 22) (.tmp 23) 24 24 rfl _ _ _ _ rfl rfl HRUN.out ?_)
      go_ret2
      exact HNEW.out
theorem new_yes {w : World} {v : Value} {l : List Ak} (h : AS w v l) (hg : Gd l) : Calls Try.prog 29 #[v] w (NewP l w) :=
  (new_fit h hg.len).mono fun e w' q => by
    rcases q with ⟨_, q⟩ | ⟨q, _⟩
    · exact q
    · exact absurd hg.all q
theorem new_no {w : World} {v : Value} {l : List Ak} (h : AS w v l) (hl : l.length ≤ 32) (hn : ¬ ∀ x ∈ l, may x) : Calls Try.prog 29 #[v] w (NoP 2 w) :=
  (new_fit h hl).mono fun e w' q => by
    rcases q with ⟨q, _⟩ | ⟨_, q⟩
    · exact absurd q hn
    · exact q
end Go.Proofs.Ytoggnofdgmhbmaa
