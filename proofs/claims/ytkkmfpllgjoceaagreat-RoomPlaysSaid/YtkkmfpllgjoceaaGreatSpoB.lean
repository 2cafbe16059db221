/- The document's guard; Bring; a guard of the call's own; both beside each other. -/
import Derived.Test.YtkkmfpllgjoceaaGreatSpoA
namespace Go.Proofs.YtkkmfpllgjoceaaGreat.Sg
open Go.RowKit Sp
set_option linter.unusedVariables false
set_option maxRecDepth 100000

theorem asked_any {w : World} {b : Nat} {p e : Int} (h : DG w b p e) (n : Int) : Calls Tryz.prog 166 #[.pointer (some ⟨b, 0, none⟩), .int .i64 n] w (IsI (wt e n) w) := by
  have c1 := h.c1
  clear h
  rcases wt_cases e n with ⟨q1, q⟩ | ⟨q1, q2, q⟩ | ⟨q1, q2, q3, q⟩ | ⟨q1, q2, q3, q⟩
  all_goals
    rw [q]
    clear q
    go_enter Tryz.func166, Tryz.ntmps166
    go_wp2_with fail
    go_ret
    exact ⟨rfl, rfl⟩
theorem rrelease_any {w : World} {b : Nat} {p e : Int} (h : DG w b p e) (ok : Ok p e) (n : Int) : Calls Tryz.prog 104 #[.pointer (some ⟨b, 0, none⟩), .int .i64 n] w (GP 136 b (.int .i64 (wt e n)) p (rl p e n) w) := by
  have HT := Lib.hid (asked_any h n)
  rcases wt_cases e n with ⟨q1, q⟩ | ⟨q1, q2, q⟩ | ⟨q1, q2, q3, q⟩ | ⟨q1, q2, q3, q⟩
  case inr.inr.inr =>
    have c0 := h.c0
    have c1 := h.c1
    have f1 := h.f1
    have hp1 := ok.p1
    have hp2 := ok.p2
    have HF : Hid (GP 136 b (.int .i64 0) p (n + p) w (.returned (.int .i64 0)) (w.setCell ⟨b, 1, none⟩ (.int .i64 (n + p)))) := ⟨rfl, h.set1 _, Only.set _ _ _ _⟩
    have e1 : rl p e n = n + p := if_pos q
    rw [e1, q]
    rw [q] at HT
    clear h ok q q3 e1
    go_enter Tryz.func104, Tryz.ntmps104
    go_wp2_with fail
    refine HT.out.mono ?_
    rintro E w1 ⟨rfl, rfl⟩
    go_wp2_with fail
    go_ret
    exact HF.out
  all_goals
    have HF := Lib.hid (show GS 136 w b p e ∧ Only b w w from ⟨h, Only.refl _ _⟩)
    have e1 : rl p e n = e := if_neg (by rw [q]; decide)
    rw [e1, q]
    rw [q] at HT
    clear h ok q q1 e1
    go_enter Tryz.func104, Tryz.ntmps104
    go_wp2_with fail
    refine HT.out.mono ?_
    rintro E w1 ⟨rfl, rfl⟩
    go_wp2_with fail
    go_ret
    exact ⟨rfl, HF.out⟩
theorem rnext_any {w : World} {b : Nat} {p e : Int} (h : DG w b p e) : Calls Tryz.prog 119 #[.pointer (some ⟨b, 0, none⟩)] w (IsI e w) := by
  have c1 := h.c1
  clear h
  go_enter Tryz.func119, Tryz.ntmps119
  go_wp2_with fail
  go_ret
  exact ⟨rfl, rfl⟩
theorem rnew_yes (w : World) {p : Int} (h : wp p = 0) : Calls Tryz.prog 41 #[.int .i64 p] w (fun E w' => E = .returned (.tuple #[.pointer (some ⟨w.heap.size, 0, none⟩), .int .i64 0]) ∧ DG w' w.heap.size p 0 ∧ Below w.heap.size w w') := by
  rcases wp_cases p with ⟨q1, q2, _⟩ | ⟨_, q2⟩
  · have d1 : decide (p < 1) = false := by simp; omega
    have d2 : decide (64 < p) = false := by simp; omega
    clear h
    go_enter Tryz.func41, Tryz.ntmps41
    go_wp2_with fail
    go_ret2
    exact ⟨rfl, heap_alloc_new _ _, (Below.refl _ _).alloc (Nat.le_refl _) _⟩
  · rw [h] at q2; cases q2
theorem rnew_no (w : World) {p : Int} (h : wp p = 2) : Calls Tryz.prog 41 #[.int .i64 p] w (fun E w' => E = .returned (.tuple #[.pointer none, .int .i64 2]) ∧ w = w') := by
  rcases wp_cases p with ⟨_, _, q2⟩ | ⟨q1, _⟩
  · rw [h] at q2; cases q2
  · clear h
    rcases Int.lt_or_le p 1 with q2 | q2
    · have d1 : decide (p < 1) = true := by simpa using q2
      go_enter Tryz.func41, Tryz.ntmps41
      go_wp2_with fail
      go_ret2
      exact ⟨rfl, rfl⟩
    · have d1 : decide (p < 1) = false := by simpa using q2
      have d2 : decide (64 < p) = true := by simp; omega
      go_enter Tryz.func41, Tryz.ntmps41
      go_wp2_with fail
      go_ret2
      exact ⟨rfl, rfl⟩
/-- a number, brought into 0 .. n - 1 -/
def bring (a n : Int) : Int := if a.tmod n < 0 then a.tmod n + n else a.tmod n
theorem bring_range (a : Int) {n : Int} (h : 1 ≤ n) : 0 ≤ bring a n ∧ bring a n < n := by
  have h1 := Int.lt_tmod_of_pos a (by omega : 0 < n)
  have h2 := Int.tmod_lt_of_pos a (by omega : 0 < n)
  unfold bring; split <;> omega
theorem bring_any (a n : Int) (w : World) (h : 1 ≤ n) (hn : n ≤ 9007199254740992) : Calls Tryz.prog 10 #[.int .i64 a, .int .i64 n] w (IsI (bring a n) w) := by
  unfold bring
  have h1 := Int.lt_tmod_of_pos a (by omega : 0 < n)
  have h2 := Int.tmod_lt_of_pos a (by omega : 0 < n)
  have hz : (n == 0) = false := by simp; omega
  have hw64 : wrap64 (a.tmod n) = a.tmod n := by unfold wrap64; omega
  by_cases hr : a.tmod n < 0
  · rw [if_pos hr]
    have hd : decide (a.tmod n < 0) = true := by simpa using hr
    have hw2 : wrap64 (a.tmod n + n) = a.tmod n + n := by unfold wrap64; omega
    go_enter Tryz.func10, Tryz.ntmps10
    go_wp2
    go_ret
    exact ⟨rfl, rfl⟩
  · rw [if_neg hr]
    have hd : decide (a.tmod n < 0) = false := by simpa using hr
    go_enter Tryz.func10, Tryz.ntmps10
    go_wp2
    go_ret
    exact ⟨rfl, rfl⟩
/-- a guard in a block of the call's own -/
structure OG (B : Nat) (W w : World) (b : Nat) (p e : Int) : Prop where
  g : PG w b p e
  ok : Ok p e
  hb : B ≤ b
  bel : Below B W w
section
variable {B : Nat} {W w : World} {b : Nat} {p e : Int}
theorem OG.op {w' : World} {p' e' : Int} (h : OG B W w b p e) (g : PG w' b p' e') (on : Only b w w') (ok : Ok p' e') : OG B W w' b p' e' :=
  ⟨g, ok, h.hb, h.bel.trans (on.below (Nat.le_trans h.hb (Nat.le_of_lt h.g.lt)) h.hb)⟩
theorem OG.below {w' : World} (h : OG B W w b p e) (q : Below w.heap.size w w') : OG B W w' b p e :=
  ⟨h.g.keep (q.block b h.g.lt), h.ok, h.hb, h.bel.trans (q.mono (Nat.le_trans h.hb (Nat.le_of_lt h.g.lt)))⟩
/-- an answer; the guard behind it -/
def OgP (B : Nat) (W : World) (b : Nat) (r : Value) (p e : Int) (E : Ending) (w' : World) : Prop := E = .returned r ∧ OG B W w' b p e
theorem og_release (h : OG B W w b p e) (n : Int) : Calls Tryz.prog 90 #[.pointer (some ⟨b, 0, none⟩), .int .i64 n] w (OgP B W b (.int .i64 (wt e n)) p (rl p e n)) := by
  refine (release_any h.g h.ok n).mono ?_
  rintro E w' ⟨he, hg, ho⟩
  exact ⟨he, h.op hg ho (h.ok.rl n)⟩
theorem og_next (h : OG B W w b p e) : Calls Tryz.prog 92 #[.pointer (some ⟨b, 0, none⟩)] w (IsI e w) := next_any h.g h.ok
end
theorem og_new (w : World) {p : Int} (h : wp p = 0) : Calls Tryz.prog 100 #[.int .i64 p] w (fun E w' => E = .returned (.tuple #[.pointer (some ⟨w.heap.size, 0, none⟩), .int .i64 0]) ∧ OG w.heap.size w w' w.heap.size p 0) := by
  refine (new_yes w h).mono ?_
  rintro E w' ⟨he, hg, hb⟩
  exact ⟨he, hg, Ok.new h, Nat.le_refl _, hb⟩
/-- the program's guard, and the document's, beside each other -/
structure OD (B : Nat) (W w : World) (b c : Nat) (p e : Int) : Prop where
  g : PG w b p e
  d : DG w c p e
  ok : Ok p e
  ne : b ≠ c
  hb : B ≤ b ∧ B ≤ c
  bel : Below B W w
/-- only the program's has been asked -/
structure OE (B : Nat) (W w : World) (b c : Nat) (p e p' e' : Int) : Prop where
  g : PG w b p' e'
  d : DG w c p e
  ok : Ok p e
  ok' : Ok p' e'
  ne : b ≠ c
  hb : B ≤ b ∧ B ≤ c
  bel : Below B W w
section
variable {B : Nat} {W w : World} {b c : Nat} {p e : Int}
def OeP (B : Nat) (W : World) (b c : Nat) (r : Value) (p e p' e' : Int) (E : Ending) (w' : World) : Prop := E = .returned r ∧ OE B W w' b c p e p' e'
def OdP (B : Nat) (W : World) (b c : Nat) (r : Value) (p e : Int) (E : Ending) (w' : World) : Prop := E = .returned r ∧ OD B W w' b c p e
theorem od_release (h : OD B W w b c p e) (n : Int) : Calls Tryz.prog 90 #[.pointer (some ⟨b, 0, none⟩), .int .i64 n] w (OeP B W b c (.int .i64 (wt e n)) p e p (rl p e n)) := by
  refine (release_any h.g h.ok n).mono ?_
  rintro E w' ⟨he, hg, ho⟩
  exact ⟨he, hg, h.d.keep (ho.block c h.d.lt (Ne.symm h.ne)), h.ok, h.ok.rl n, h.ne, h.hb, h.bel.trans (ho.below (Nat.le_trans h.hb.1 (Nat.le_of_lt h.g.lt)) h.hb.1)⟩
theorem oe_release {p' e' : Int} (h : OE B W w b c p e p' e') (n : Int) (hp : p' = p) (he : e' = rl p e n) : Calls Tryz.prog 104 #[.pointer (some ⟨c, 0, none⟩), .int .i64 n] w (OdP B W b c (.int .i64 (wt e n)) p (rl p e n)) := by
  subst hp; subst he
  refine (rrelease_any h.d h.ok n).mono ?_
  rintro E w' ⟨he, hg, ho⟩
  exact ⟨he, h.g.keep (ho.block b h.g.lt h.ne), hg, h.ok', h.ne, h.hb, h.bel.trans (ho.below (Nat.le_trans h.hb.1 (Nat.le_of_lt h.g.lt)) h.hb.2)⟩
theorem od_next (h : OD B W w b c p e) : Calls Tryz.prog 92 #[.pointer (some ⟨b, 0, none⟩)] w (IsI e w) := next_any h.g h.ok
theorem od_rnext (h : OD B W w b c p e) : Calls Tryz.prog 119 #[.pointer (some ⟨c, 0, none⟩)] w (IsI e w) := rnext_any h.d
end
theorem od_new {W w : World} {b : Nat} {B : Nat} {p : Int} (h : OG B W w b p 0) (q : wp p = 0) : Calls Tryz.prog 41 #[.int .i64 p] w (fun E w' => E = .returned (.tuple #[.pointer (some ⟨w.heap.size, 0, none⟩), .int .i64 0]) ∧ OD B W w' b w.heap.size p 0) := by
  refine (rnew_yes w q).mono ?_
  rintro E w' ⟨he, hg, hb⟩
  have hl := h.g.lt
  have hB := h.hb
  exact ⟨he, h.g.keep (hb.block b hl), hg, h.ok, by omega, ⟨hB, by omega⟩, h.bel.trans (hb.mono (by omega))⟩
end Go.Proofs.YtkkmfpllgjoceaaGreat.Sg
