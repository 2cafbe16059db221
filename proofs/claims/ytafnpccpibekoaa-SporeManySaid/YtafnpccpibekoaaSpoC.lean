/- The chapter's guard: works. -/
import Derived.Test.YtafnpccpibekoaaSpoB
namespace Go.Proofs.Ytafnpccpibekoaa
open Go.RowKit Sp
set_option linter.unusedVariables false

/-- true is answered; what was there is as it was -/
def TrueB (w : World) (e : Ending) (w' : World) : Prop := e = .returned (.bool true) ∧ Below w.heap.size w w'
section
variable {B : Nat} {W w : World} {b : Nat} {p e : Int}
theorem og_rel (h : OG B W w b p e) (n : Int) {x e' : Int} (h1 : wt e n = x) (h2 : rl p e n = e') : Calls Try.prog 10 #[.pointer (some ⟨b, 0, none⟩), .int .i64 n] w (OgP B W b (.int .i64 x) p e') := by
  subst h1; subst h2
  exact og_release h n
theorem og_cha (h : OG B W w b p e) (q : Int) {x p' : Int} (h1 : wp q = x) (h2 : ch p q = p') : Calls Try.prog 14 #[.pointer (some ⟨b, 0, none⟩), .int .i64 q] w (OgP B W b (.int .i64 x) p' e) := by
  subst h1; subst h2
  exact og_change h q
theorem og_may' (h : OG B W w b p e) (n : Int) {x : Bool} (h1 : (wt e n == 0) = x) : Calls Try.prog 12 #[.pointer (some ⟨b, 0, none⟩), .int .i64 n] w (IsB x w) := by
  subst h1
  exact og_may h n
end
set_option maxHeartbeats 4000000 in
theorem works_any (w : World) : Calls Try.prog 18 #[] w (TrueB w) := by
  have H0 := Lib.hid (og_new w (p := 5) (by decide))
  go_enter Try.func18, Try.ntmps18
  go_wp2_with fail
  refine H0.out.mono ?_
  rintro E w1 ⟨rfl, hg⟩
  have HG := Lib.hid hg
  clear hg H0
  go_wp2_with fail
  refine (og_rel HG.out 3 (x := 0) (e' := 8) (by decide) (by decide)).mono ?_
  rintro E w2 ⟨rfl, hg⟩
  have HG2 := Lib.hid hg
  clear hg HG
  go_wp2_with fail
  refine (og_next HG2.out).mono ?_
  rintro E w2' ⟨rfl, rfl⟩
  go_wp2_with fail
  refine (og_rel HG2.out 7 (x := 140) (e' := 8) (by decide) (by decide)).mono ?_
  rintro E w3 ⟨rfl, hg⟩
  have HG3 := Lib.hid hg
  clear hg HG2
  go_wp2_with fail
  refine (og_may' HG3.out 8 (x := true) (by decide)).mono ?_
  rintro E w3' ⟨rfl, rfl⟩
  go_wp2_with fail
  refine (og_rel HG3.out 8 (x := 0) (e' := 13) (by decide) (by decide)).mono ?_
  rintro E w4 ⟨rfl, hg⟩
  have HG4 := Lib.hid hg
  clear hg HG3
  go_wp2_with fail
  refine (og_rel HG4.out (-1) (x := 2) (e' := 13) (by decide) (by decide)).mono ?_
  rintro E w5 ⟨rfl, hg⟩
  have HG5 := Lib.hid hg
  clear hg HG4
  go_wp2_with fail
  refine (og_rel HG5.out 1099511627777 (x := 10) (e' := 13) (by decide) (by decide)).mono ?_
  rintro E w6 ⟨rfl, hg⟩
  have HG6 := Lib.hid hg
  clear hg HG5
  go_wp2_with fail
  refine (og_cha HG6.out 0 (x := 2) (p' := 5) (by decide) (by decide)).mono ?_
  rintro E w7 ⟨rfl, hg⟩
  have HG7 := Lib.hid hg
  clear hg HG6
  go_wp2_with fail
  refine (og_cha HG7.out 64 (x := 0) (p' := 64) (by decide) (by decide)).mono ?_
  rintro E w8 ⟨rfl, hg⟩
  have HG8 := Lib.hid hg
  clear hg HG7
  go_wp2_with fail
  refine (og_next HG8.out).mono ?_
  rintro E w8' ⟨rfl, rfl⟩
  go_wp2_with fail
  go_ret
  exact ⟨rfl, HG8.out.bel⟩
end Go.Proofs.Ytafnpccpibekoaa
