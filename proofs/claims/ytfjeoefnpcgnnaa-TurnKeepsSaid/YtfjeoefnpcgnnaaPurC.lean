/- The program's purse: how a period begins and ends. -/
import Derived.Test.YtfjeoefnpcgnnaaPurA
namespace Go.Proofs.Ytfjeoefnpcgnnaa.Pw
open Go.RowKit Pu
set_option linter.unusedVariables false
set_option maxRecDepth 100000

theorem only3 (w : World) (b i j k : Nat) (u v y : Value) : Only b w (((w.setCell ⟨b, i, none⟩ u).setCell ⟨b, j, none⟩ v).setCell ⟨b, k, none⟩ y) := ((Only.set _ _ _ _).trans (Only.set _ _ _ _)).trans (Only.set _ _ _ _)
/-- what it has behind its period: P, B -/
def NX (w : World) (x : Option Addr) (p q P B : Int) : Prop := (x = none ∧ P = p ∧ B = q) ∨ ∃ nb, x = some ⟨nb, 0, none⟩ ∧ RT w nb P B
section
variable {w w' : World} {b : Nat} {p q n e s P B : Int} {x : Option Addr} {o : Bool}
theorem NX.below (h : NX w x p q P B) (k : Below w.heap.size w w') : NX w' x p q P B := by
  rcases h with h | ⟨nb, h, ht⟩
  · exact Or.inl h
  · exact Or.inr ⟨nb, h, ht.below k⟩
theorem NX.only (h : RP w b p q x n e s o) (k : NX w x p q P B) (ho : Only b w w') : NX w' x p q P B := by
  rcases k with k | ⟨nb, k, ht⟩
  · exact Or.inl k
  · exact Or.inr ⟨nb, k, (ho.block nb ht.lt (RT.ne h ht)).trans ht⟩
theorem then_any (h : RP w b p q x n e s o) (k : NX w x p q P B) : Calls Try.prog 57 #[.pointer (some ⟨b, 0, none⟩)] w (VB (.agg #[.int .i64 P, .int .i64 B]) w) := by
  have hz := h.alloc (.cells #[.int .i64 0, .int .i64 0] 60)
  have kz := k.below (below_al w (.cells #[.int .i64 0, .int .i64 0] 60))
  have h0 := hz.c0
  have h1 := hz.c1
  have h2 := hz.c2
  clear h hz k
  rcases kz with ⟨rfl, rfl, rfl⟩ | ⟨nb, rfl, ht⟩
  · go_enter Try.func57, Try.ntmps57
    go_wp2_with fail
    go_returns
    exact ⟨rfl, below_al w _⟩
  · have t0 := ht.c0
    have t1 := ht.c1
    clear ht
    go_enter Try.func57, Try.ntmps57
    go_wp2_with fail
    go_returns
    exact ⟨rfl, below_al w _⟩
theorem begin_any (h : RP w b p q x n e s o) (h1 : 1 ≤ P) (h2 : P ≤ 64) (h3 : 0 ≤ e) (h4 : e ≤ 1125899906842624) : Calls Try.prog 32 #[.pointer (some ⟨b, 0, none⟩), .agg #[.int .i64 P, .int .i64 B]] w (fun E w' => E = .returned (.tuple #[]) ∧ RP w' b P B none B (e + P) s o ∧ Only b w w') := by
  have hne : b ≠ w.heap.size := Nat.ne_of_lt h.lt
  have hne2 : w.heap.size ≠ b := Nat.ne_of_gt h.lt
  have T := RT.new w P B
  have t0 := T.c0
  have t1 := T.c1
  have z := h.alloc (.cells #[.int .i64 P, .int .i64 B] 60)
  have z0 := z.set0 P
  have z1 := z0.set1 B
  have z2 := z1.set2 none
  have z3 := z2.set3 B
  have z4 := z3.set4 (e + P)
  have ho : Only b (w.alloc (.cells #[.int .i64 P, .int .i64 B] 60)) ((((((w.alloc (.cells #[.int .i64 P, .int .i64 B] 60)).setCell ⟨b, 0, none⟩ (.int .i64 P)).setCell ⟨b, 1, none⟩ (.int .i64 B)).setCell ⟨b, 2, none⟩ (.pointer none)).setCell ⟨b, 3, none⟩ (.int .i64 B)).setCell ⟨b, 4, none⟩ (.int .i64 (e + P))) := ((((Only.set _ _ _ _).trans (Only.set _ _ _ _)).trans (Only.set _ _ _ _)).trans (Only.set _ _ _ _)).trans (Only.set _ _ _ _)
  have HF := Lib.hid (And.intro z4 ((Only.of_below (below_al w (.cells #[.int .i64 P, .int .i64 B] 60))).trans ho))
  have f0 := z.f0
  have f1 := z.f1
  have f2 := z.f2
  have f3 := z.f3
  have f4 := z.f4
  have c0 := z.c0
  have c1 := z.c1
  have c2 := z.c2
  have c3 := z.c3
  have c4 := z.c4
  clear T h z z0 z1 z2 z3 z4 ho
  go_enter Try.func32, Try.ntmps32
  go_wp2_with fail
  go_region
  all_goals
    go_wp2_with fail
    go_returns
    exact ⟨rfl, HF.out.1.drew, HF.out.2.drew⟩
theorem end_on (h : RP w b p q x n e s o) (k : NX w x p q P B) (n0 : 0 ≤ n) (n1 : n ≤ 64) (s0 : 0 ≤ s) (s1 : s ≤ 1000000000) (h3 : 0 ≤ e) (h4 : e ≤ 1125899906842624) (h1 : 1 ≤ P) (h2 : P ≤ 64) : Calls Try.prog 43 #[.pointer (some ⟨b, 0, none⟩)] w (fun E w' => E = .returned (.tuple #[]) ∧ RP w' b P B none B (e + P) (s + n) o ∧ Only b w w') := by
  have hp : (P == 0) = false := by simp; omega
  have HA : Hid (∀ w, Calls Try.prog 56 #[.int .i64 s, .int .i64 n] w (fun E w' => E = .returned (.tuple #[.int .i64 (s + n), .int .i64 0]) ∧ Below w.heap.size w w')) := Lib.hid (fun w => by
    have ha := Tk.tk_yes s0 (by omega)
    have hb := Tk.tk_yes n0 (by omega)
    have := add_any s n w
    rwa [Tk.addN_ok ha hb (by omega), Tk.addE_ok ha hb (by omega)] at this)
  have HR := Lib.hid h
  have HK := Lib.hid k
  have c3 := h.c3
  have c5 := h.c5
  have f5 := h.f5
  clear h k
  go_enter Try.func43, Try.ntmps43
  go_wp2_with fail

  go_region_with (go_at_call 56; refine (HA.out _).mono ?_; rintro E w1 ⟨rfl, hb⟩; have H1 := HR.out.drew.below hb; have f5 := H1.f5; have c5 := H1.c5; have HB := Lib.hid hb; clear hb)
  all_goals
    have H5 := Lib.hid (H1.set5 (s + n))
    have HO := Lib.hid ((Only.of_below HB.out : Only b w.drew w1).trans (Only.set w1 b 5 (.int .i64 (s + n))))
    have HO2 : Hid (Only b w (w1.setCell ⟨b, 5, none⟩ (.int .i64 (s + n)))) := Lib.hid ((Only.refl b w).drew.trans HO.out)
    have HK2 := Lib.hid (NX.only HR.out HK.out HO2.out)
    clear HO HB H1 f5 c5 HR HK HA
    go_wp2_with fail
    generalize w1.setCell ⟨b, 5, none⟩ (.int .i64 (s + n)) = w2 at *
    refine (then_any H5.out HK2.out).mono ?_
    rintro E w3 ⟨rfl, hb⟩
    have H6 := Lib.hid ((H5.out.below hb).alloc (.cells #[.int .i64 P, .int .i64 B] 60))
    have HO3 := Lib.hid (HO2.out.trans (Only.of_below (hb.alloc hb.size (.cells #[.int .i64 P, .int .i64 B] 60))))
    have t0 := (RT.new w3 P B).c0
    have t1 := (RT.new w3 P B).c1
    clear hb H5 HO2 HK2
    go_wp2_with fail
    refine (begin_any H6.out h1 h2 h3 h4).mono ?_
    rintro E w4 ⟨rfl, hr, ho⟩
    have HF := Lib.hid (And.intro hr (HO3.out.trans ho))
    clear hr ho HO3 H6
    go_wp2_with fail
    go_returns
    exact ⟨rfl, HF.out⟩
theorem end_gone (h : RP w b p q x n e s o) (k : NX w x p q 0 0) (n0 : 0 ≤ n) (n1 : n ≤ 64) (s0 : 0 ≤ s) (s1 : s ≤ 1000000000) (h3 : 0 ≤ e) (h4 : e ≤ 1125899906842624) : Calls Try.prog 43 #[.pointer (some ⟨b, 0, none⟩)] w (fun E w' => E = .returned (.tuple #[]) ∧ RP w' b p q none 0 e (s + n) true ∧ Only b w w') := by
  have HA : Hid (∀ w, Calls Try.prog 56 #[.int .i64 s, .int .i64 n] w (fun E w' => E = .returned (.tuple #[.int .i64 (s + n), .int .i64 0]) ∧ Below w.heap.size w w')) := Lib.hid (fun w => by
    have ha := Tk.tk_yes s0 (by omega)
    have hb := Tk.tk_yes n0 (by omega)
    have := add_any s n w
    rwa [Tk.addN_ok ha hb (by omega), Tk.addE_ok ha hb (by omega)] at this)
  have HR := Lib.hid h
  have HK := Lib.hid k
  have c3 := h.c3
  have c5 := h.c5
  have f5 := h.f5
  clear h k
  go_enter Try.func43, Try.ntmps43
  go_wp2_with fail

  go_region_with (go_at_call 56; refine (HA.out _).mono ?_; rintro E w1 ⟨rfl, hb⟩; have H1 := HR.out.drew.below hb; have f5 := H1.f5; have c5 := H1.c5; have HB := Lib.hid hb; clear hb)
  all_goals
    have H5 := Lib.hid (H1.set5 (s + n))
    have HO := Lib.hid ((Only.of_below HB.out : Only b w.drew w1).trans (Only.set w1 b 5 (.int .i64 (s + n))))
    have HO2 : Hid (Only b w (w1.setCell ⟨b, 5, none⟩ (.int .i64 (s + n)))) := Lib.hid ((Only.refl b w).drew.trans HO.out)
    have HK2 := Lib.hid (NX.only HR.out HK.out HO2.out)
    clear HO HB H1 f5 c5 HR HK HA
    go_wp2_with fail
    generalize w1.setCell ⟨b, 5, none⟩ (.int .i64 (s + n)) = w2 at *
    refine (then_any H5.out HK2.out).mono ?_
    rintro E w3 ⟨rfl, hb⟩
    have z := (H5.out.below hb).alloc (.cells #[.int .i64 0, .int .i64 0] 60)
    have HO3 := HO2.out.trans (Only.of_below (hb.alloc hb.size (.cells #[.int .i64 0, .int .i64 0] 60)))
    have t0 := (RT.new w3 0 0).c0
    have t1 := (RT.new w3 0 0).c1
    have z1 := z.set2 none
    have z2 := z1.set3 0
    have z3 := z2.set6 true
    have HF := Lib.hid (And.intro z3 (HO3.trans (only3 _ b 2 3 6 (.pointer none) (.int .i64 0) (.bool true))))
    have f2 := z.f2
    have f3 := z.f3
    have f6 := z.f6
    have c2 := z.c2
    have c3 := z.c3
    have c6 := z.c6
    clear hb H5 HO2 HK2 HO3 z z1 z2 z3
    go_wp2_with fail
    go_returns
    exact ⟨rfl, HF.out⟩
end
end Go.Proofs.Ytfjeoefnpcgnnaa.Pw
