/- What CopyInts and EqInts do. -/
import Derived.Test.YtdlhnkjghiphoaaWalksG
namespace Go.Proofs.Ytdlhnkjghiphoaa
open Go.RowKit Tk
set_option linter.unusedVariables false

theorem info3 : (Try.prog.info? 3).map (fun i => (i.zero, i.size, i.bytes)) = some (some (.int .i64 0), 1, 8) := by kernel_rfl

/-- a slice of these numbers is answered; what was there is as it was -/
def Rowed (n : Nat) (zs : List Int) (w : World) (e : Ending) (w' : World) : Prop :=
  ∃ a c, e = .returned (.slice a n c) ∧ Row w' a zs ∧ (a = none → n = 0 ∧ c = 0) ∧ Below w.heap.size w w'

theorem rowed_of {n : Nat} {zs : List Int} {w' : World} {base : Nat} {v : Value} (hn : n = zs.length) (h : w'.ownsRow base 3 1 v n (zs.map (Value.int .i64))) : ∃ a c, v = .slice a n c ∧ Row w' a zs ∧ (a = none → n = 0 ∧ c = 0) := by
  have hc := h
  rcases h.2 with ⟨rfl, rfl⟩ | ⟨g, cap, cur, rfl, hg, hh, hnc, _⟩
  · obtain rfl : zs = [] := List.eq_nil_of_length_eq_zero hn.symm
    exact ⟨none, 0, rfl, Or.inl rfl, fun _ => ⟨rfl, rfl⟩⟩
  · refine ⟨some ⟨g, 0, none⟩, cap, rfl, Or.inr ⟨g, 0, rfl, fun i hi => ?_⟩, fun h => by cases h⟩
    have := hc.cells (g := g) rfl i (.int .i64 (zs.getD i 0)) (by simp [List.getElem?_eq_getElem hi, List.getD])
    rw [Addr.add_lit] at this; exact this

set_option maxHeartbeats 400000 in
theorem copy_none (w : World) : Calls Try.prog 8 #[.slice none 0 0] w (Rowed 0 [] w) := by
  obtain ⟨i0, hi, hz0, hz1, hz2⟩ := info_parts info3
  have h0 := World.ownsRow_nil w w.heap.size 3 1
  go_enter Try.func8, Try.ntmps8
  go_wp2
  go_ret
  exact ⟨none, 0, rfl, Or.inl rfl, fun _ => ⟨rfl, rfl⟩, Below.refl _ _⟩

set_option maxHeartbeats 400000 in
theorem copy_some (ad : Addr) (cap n : Nat) (zs : List Int) (w : World) (hn : n = zs.length) (hl : n * 8 ≤ 140737488351232) (hc : ∀ (j : Nat) (u : Value), (zs.map (Value.int .i64))[j]? = some u → w.cell? (ad.add j) = some u) :
    Calls Try.prog 8 #[.slice (some ad) n cap] w (Rowed n zs w) := by
  obtain ⟨i0, hi, hz0, hz1, hz2⟩ := info_parts info3
  have h0 := World.ownsRow_nil w w.heap.size 3 1
  have HN := Lib.hid hn; clear hn
  have HC := Lib.hid hc; clear hc
  go_enter Try.func8, Try.ntmps8
  go_wp2_with (at_builtin; refine wpList_append_own _ rfl _ _ 23 rfl w.heap.size 3 i0 (.int .i64 0) 1 8 Try.underlying23 hi hz0 hz1 hz2 rfl (by decide) (.slice none 0 0) 0 [] rfl h0 ad n cap (zs.map (Value.int .i64)) rfl ?c0 ?c1 ?c2 ?c3 ?c4 ?c5 ?_)
  case c0 => simp [HN.out]
  case c1 => exact HC.out
  case c2 => intro u hu; obtain ⟨z, _, rfl⟩ := List.mem_map.1 hu; rfl
  case c3 => unfold maxLen; omega
  case c4 => omega
  case c5 => exact Nat.le_refl _
  intro v' w1 hown hgrow _
  have hown' : w1.ownsRow w.heap.size 3 1 v' n (zs.map (Value.int .i64)) := by simpa using hown
  obtain ⟨a', c', hv, hr, hno⟩ := rowed_of HN.out hown'
  have hb := (Below.refl w.heap.size w).grown hgrow (Nat.le_refl _) (fun k hk => by simp [Value.ownBlock] at hk)
  have HRR := Lib.hid hr; have HNO := Lib.hid hno; have HB := Lib.hid hb
  clear hr hno hb hown hgrow h0 hown'
  rw [hv]
  clear hv
  go_wp2
  go_ret
  exact ⟨a', c', rfl, HRR.out, HNO.out, HB.out⟩

theorem copy_any (a : Option Addr) (cap n : Nat) (zs : List Int) (w : World) (hn : n = zs.length) (hl : n * 8 ≤ 140737488351232) (hr : Row w a zs) (hx : a = none → n = 0 ∧ cap = 0) : Calls Try.prog 8 #[.slice a n cap] w (Rowed n zs w) := by
  rcases a with _ | ad
  · obtain ⟨rfl, rfl⟩ := hx rfl
    obtain rfl : zs = [] := List.eq_nil_of_length_eq_zero hn.symm
    exact copy_none w
  · refine copy_some ad cap n zs w hn hl ?_
    intro j u hu
    have hj : j < zs.length := by have := (List.getElem?_eq_some_iff.1 hu).1; simpa using this
    rcases hr with rfl | ⟨b, off, he, hc⟩
    · simp at hj
    · obtain rfl := Option.some.inj he
      rw [Addr.add_lit, hc j hj, ← hu]; simp [List.getElem?_eq_getElem hj, List.getD]

/-! EqInts of two rows that hold the same -/
set_option maxHeartbeats 400000 in
theorem eq_nil (a a' : Option Addr) (c c' : Nat) (w : World) : Calls Try.prog 13 #[.slice a 0 c, .slice a' 0 c'] w (TrueB w) := by
  go_enter Try.func13, Try.ntmps13
  go_wp2
  go_loop [5] (fun i => i = .int .i64 0) (fun _ => 0)
  case atStart => rfl
  case round =>
    subst hrel
    go_wp2
    go_ret
    exact ⟨rfl, Below.refl _ _⟩

set_option maxHeartbeats 400000 in
theorem eq_some (b off b' off' c c' n : Nat) (zs : List Int) (w : World) (hn : n = zs.length) (hl : n ≤ 9223372036854775807) (hc : ∀ i, i < zs.length → w.cell? ⟨b, off + i, none⟩ = some (.int .i64 (zs.getD i 0))) (hc' : ∀ i, i < zs.length → w.cell? ⟨b', off' + i, none⟩ = some (.int .i64 (zs.getD i 0))) :
    Calls Try.prog 13 #[.slice (some ⟨b, off, none⟩) n c, .slice (some ⟨b', off', none⟩) n c'] w (TrueB w) := by
  have HN := Lib.hid hn; clear hn
  have HC := Lib.hid hc; clear hc
  have HC' := Lib.hid hc'; clear hc'
  go_enter Try.func13, Try.ntmps13
  go_wp2
  go_loopw [5] (fun i wr => ∃ k : Nat, k ≤ n ∧ i = .int .i64 k ∧ Below w.heap.size w wr) (fun i _ => n - (intOf i).toNat)
  case atStart => exact ⟨0, Nat.zero_le _, rfl, Below.refl _ _⟩
  case round =>
    obtain ⟨k, hk, rfl, HB⟩ := hrel
    by_cases hlt : k < n
    · have hkz : k < zs.length := by have := HN.out; omega
      have e1 := HC.out k hkz
      have e2 := HC'.out k hkz
      have hcell := (HB.cell (p := ⟨b, off + k, none⟩) (lt_of_cell e1)).trans e1
      have hcell' := (HB.cell (p := ⟨b', off' + k, none⟩) (lt_of_cell e2)).trans e2
      clear e1 e2 hkz
      generalize zs.getD k 0 = z at *
      go_wp2
      go_quiet (fail)
      go_wp2
      go_roundw
      case rel => exact ⟨k + 1, by omega, by go_num, below_drewN HB _⟩
      case measure => simp [intOf]; omega
    · go_wp2
      go_ret
      exact ⟨rfl, HB⟩
theorem eq_any (a a' : Option Addr) (c c' n : Nat) (zs : List Int) (w : World) (hn : n = zs.length) (hl : n ≤ 9223372036854775807) (hr : Row w a zs) (hr' : Row w a' zs) : Calls Try.prog 13 #[.slice a n c, .slice a' n c'] w (TrueB w) := by
  rcases hr with rfl | ⟨b, off, rfl, hc⟩
  · obtain rfl : n = 0 := by simpa using hn
    exact eq_nil a a' c c' w
  · rcases hr' with rfl | ⟨b', off', rfl, hc'⟩
    · obtain rfl : n = 0 := by simpa using hn
      exact eq_nil _ a' c c' w
    · exact eq_some b off b' off' c c' n zs w hn hl hc hc'

/-! The laws TicksTwo and TicksMany, as calls -/
end Go.Proofs.Ytdlhnkjghiphoaa
