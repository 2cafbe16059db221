/- What CopyInts and EqInts do. -/
import Derived.Test.YtldnlioafneejaaWalksG
namespace Go.Proofs.Ytldnlioafneejaa
open Go.RowKit Tk
set_option linter.unusedVariables false

theorem info3 : (Try.prog.info? 3).map (fun i => (i.zero, i.size, i.bytes)) = some (some (.int .i64 0), 1, 8) := by kernel_rfl

/-- a slice of these numbers is answered; what was there is as it was -/
def Rowed (n : Nat) (zs : List Int) (w : World) (e : Ending) (w' : World) : Prop :=
  ∃ a c, e = .returned (.slice a n c) ∧ Row w' a zs ∧ (a = none → n = 0 ∧ c = 0) ∧ Below w.heap.size w w'

theorem rowed_of {n : Nat} {zs : List Int} {w' : World} {base : Nat} {v : Value} (hn : n = zs.length) (h : w'.ownsRow base 3 1 v n (zs.map (Value.int .i64))) : ∃ a c, v = .slice a n c ∧ Row w' a zs ∧ (a = none → n = 0 ∧ c = 0) := by
  have hc := h
  rcases h.2 with ⟨rfl, rfl⟩ | ⟨g, cap, cur, rfl, hg, hh, hnc, _⟩
  · obtain rfl : zs = [] := List.eq_nil_of_length_eq_zero hn.symm
    exact ⟨none, 0, rfl, Or.inl rfl, fun _ => ⟨rfl, rfl⟩⟩
  · refine ⟨some ⟨g, 0, none⟩, cap, rfl, Or.inr ⟨g, 0, rfl, fun i hi => ?_⟩, fun h => by cases h⟩
    have := hc.cells (g := g) rfl i (.int .i64 (zs.getD i 0)) (by simp [List.getElem?_eq_getElem hi, List.getD])
    rw [Addr.add_lit] at this; exact this

/-! EqInts of two rows that hold the same -/
set_option maxHeartbeats 400000 in
theorem eq_nil (a a' : Option Addr) (c c' : Nat) (w : World) : Calls Try.prog 14 #[.slice a 0 c, .slice a' 0 c'] w (TrueB w) := by
  go_enter Try.func14, Try.ntmps14
  go_wp2
  go_loop [5] (fun i => i = .int .i64 0) (fun _ => 0)
  case atStart => rfl
  case round =>
    subst hrel
    go_wp2
    go_ret
    exact ⟨rfl, Below.refl _ _⟩

set_option maxHeartbeats 400000 in
theorem eq_some (b off b' off' c c' n : Nat) (zs : List Int) (w : World) (hn : n = zs.length) (hl : n ≤ 9223372036854775807) (hc : ∀ i, i < zs.length → w.cell? ⟨b, off + i, none⟩ = some (.int .i64 (zs.getD i 0))) (hc' : ∀ i, i < zs.length → w.cell? ⟨b', off' + i, none⟩ = some (.int .i64 (zs.getD i 0))) :
    Calls Try.prog 14 #[.slice (some ⟨b, off, none⟩) n c, .slice (some ⟨b', off', none⟩) n c'] w (TrueB w) := by
  have HN := Lib.hid hn; clear hn
  have HC := Lib.hid hc; clear hc
  have HC' := Lib.hid hc'; clear hc'
  go_enter Try.func14, Try.ntmps14
  go_wp2
  go_loopw [5] (fun i wr => ∃ k : Nat, k ≤ n ∧ i = .int .i64 k ∧ Below w.heap.size w wr) (fun i _ => n - (intOf i).toNat)
  case atStart => exact ⟨0, Nat.zero_le _, rfl, Below.refl _ _⟩
  case round =>
    obtain ⟨k, hk, rfl, HB⟩ := hrel
    by_cases hlt : k < n
    · have hkz : k < zs.length := by have := HN.out; omega
      have e1 := HC.out k hkz
      have e2 := HC'.out k hkz
      have hcell := (HB.cell (p := ⟨b, off + k, none⟩) (lt_of_cell e1)).trans e1
      have hcell' := (HB.cell (p := ⟨b', off' + k, none⟩) (lt_of_cell e2)).trans e2
      clear e1 e2 hkz
      generalize zs.getD k 0 = z at *
      go_wp2
      go_quiet (fail)
      go_wp2
      go_roundw
      case rel => exact ⟨k + 1, by omega, by go_num, below_drewN HB _⟩
      case measure => simp [intOf]; omega
    · go_wp2
      go_ret
      exact ⟨rfl, HB⟩
theorem eq_any (a a' : Option Addr) (c c' n : Nat) (zs : List Int) (w : World) (hn : n = zs.length) (hl : n ≤ 9223372036854775807) (hr : Row w a zs) (hr' : Row w a' zs) : Calls Try.prog 14 #[.slice a n c, .slice a' n c'] w (TrueB w) := by
  rcases hr with rfl | ⟨b, off, rfl, hc⟩
  · obtain rfl : n = 0 := by simpa using hn
    exact eq_nil a a' c c' w
  · rcases hr' with rfl | ⟨b', off', rfl, hc'⟩
    · obtain rfl : n = 0 := by simpa using hn
      exact eq_nil _ a' c c' w
    · exact eq_some b off b' off' c c' n zs w hn hl hc hc'

/-! The laws TicksTwo and TicksMany, as calls -/
end Go.Proofs.Ytldnlioafneejaa
