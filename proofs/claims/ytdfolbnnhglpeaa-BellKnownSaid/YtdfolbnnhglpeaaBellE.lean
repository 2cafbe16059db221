/- Bring; the document's Same. -/
import Derived.Test.YtdfolbnnhglpeaaBellD
import Derived.Laws.StructEq
namespace Go.Proofs.Ytdfolbnnhglpeaa
open Go.RowKit Rk
set_option linter.unusedVariables false

/-- a number, brought to be from 0 to below n -/
def bringN (a n : Int) : Int := if a.tmod n < 0 then a.tmod n + n else a.tmod n
theorem bring_bd (a n : Int) (h : 1 ≤ n) : 0 ≤ bringN a n ∧ bringN a n < n := by
  unfold bringN
  have h1 := Int.lt_tmod_of_pos a (by omega : 0 < n)
  have h2 := Int.tmod_lt_of_pos a (by omega : 0 < n)
  split <;> omega
theorem bring_fix {a n : Int} (h0 : 0 ≤ a) (h : a < n) : bringN a n = a := by
  unfold bringN
  rw [Int.tmod_eq_emod_of_nonneg h0, Int.emod_eq_of_lt h0 h, if_neg (by omega)]
set_option maxHeartbeats 400000 in
theorem bring_any (a n : Int) (w : World) (h : 1 ≤ n) (hn : n ≤ 100000) : Calls Try.prog 18 #[.int .i64 a, .int .i64 n] w (IsN (bringN a n) w) := by
  unfold bringN
  have h1 := Int.lt_tmod_of_pos a (by omega : 0 < n)
  have h2 := Int.tmod_lt_of_pos a (by omega : 0 < n)
  have hz : (n == 0) = false := by simp; omega
  have hw64 : wrap64 (a.tmod n) = a.tmod n := IntWalk.wrap64_in _ ⟨by omega, by omega⟩
  by_cases hr : a.tmod n < 0
  · rw [if_pos hr]
    have hd : decide (a.tmod n < 0) = true := by simpa using hr
    go_enter Try.func18, Try.ntmps18
    go_wp2
    go_ret
    exact ⟨rfl, rfl⟩
  · rw [if_neg hr]
    have hd : decide (a.tmod n < 0) = false := by simpa using hr
    go_enter Try.func18, Try.ntmps18
    go_wp2
    go_ret
    exact ⟨rfl, rfl⟩
theorem bring_fit (a n r : Int) (w : World) (h : 1 ≤ n) (hn : n ≤ 100000) (hr : bringN a n = r) : Calls Try.prog 18 #[.int .i64 a, .int .i64 n] w (IsN r w) := by subst hr; exact bring_any a n w h hn

/-- the answer true; what was there is as it was -/
def TrueB (w : World) (e : Ending) (w' : World) : Prop := e = .returned (.bool true) ∧ Below w.heap.size w w'
set_option maxHeartbeats 2000000 in
theorem same_any (w : World) (ga gb : Nat) (va vb : Value) (l : List En) (ha : RL w ga va l) (hb : RL w gb vb l) (hN : l.length ≤ 100000) :
    Calls Try.prog 14 #[va, vb] w (TrueB w) := by
  obtain ⟨a, ca, hva⟩ := ha.slice
  obtain ⟨b, cb, hvb⟩ := hb.slice
  obtain ⟨n, hn⟩ : ∃ n, l.length = n := ⟨_, rfl⟩
  have HN' := Lib.hid hn
  have hpa : Hid (∀ i (hi : i < l.length), ∃ off : Nat, a = some ⟨ga, off, none⟩ ∧ n ≤ ca ∧ ca ≤ 9223372036854775807 ∧ ga < w.heap.size ∧ w.cell? ⟨ga, off + i * 3, none⟩ = some (.int .i64 (l[i]).2) ∧ w.cell? ⟨ga, off + i * 3 + 1, none⟩ = some (.int .i64 ((l[i]).1 / 16)) ∧ w.cell? ⟨ga, off + i * 3 + 2, none⟩ = some (.int .i64 ((l[i]).1 % 16))) := fun i hin => by
    obtain ⟨off, cap', hv', hle, hmx, hlt, hc⟩ := ha.form (by omega)
    rw [hva] at hv'
    injection hv' with e1 e2 e3
    unfold maxLen at hmx
    obtain ⟨c1, c2, c3⟩ := hc i hin
    exact ⟨off, e1, by omega, by omega, hlt, c1, c2, c3⟩
  have hpb : Hid (∀ i (hi : i < l.length), ∃ off : Nat, b = some ⟨gb, off, none⟩ ∧ n ≤ cb ∧ cb ≤ 9223372036854775807 ∧ gb < w.heap.size ∧ w.cell? ⟨gb, off + i * 3, none⟩ = some (.int .i64 (l[i]).2) ∧ w.cell? ⟨gb, off + i * 3 + 1, none⟩ = some (.int .i64 ((l[i]).1 / 16)) ∧ w.cell? ⟨gb, off + i * 3 + 2, none⟩ = some (.int .i64 ((l[i]).1 % 16))) := fun i hin => by
    obtain ⟨off, cap', hv', hle, hmx, hlt, hc⟩ := hb.form (by omega)
    rw [hvb] at hv'
    injection hv' with e1 e2 e3
    unfold maxLen at hmx
    obtain ⟨c1, c2, c3⟩ := hc i hin
    exact ⟨off, e1, by omega, by omega, hlt, c1, c2, c3⟩
  rw [hn] at hva hvb hN
  subst hva hvb
  clear ha hb hn
  go_enter Try.func14, Try.ntmps14
  go_wp2
  go_loopw [5] (fun i wr => ∃ k : Nat, k ≤ n ∧ i = .int .i64 k ∧ Hid (Below w.heap.size w wr)) (fun i _ => n - (intOf i).toNat)
  case atStart => exact ⟨0, Nat.zero_le _, rfl, Below.refl _ _⟩
  case round =>
    obtain ⟨k, hk, rfl, HB⟩ := hrel
    by_cases hlt : k < n
    · have hkl : k < l.length := by rw [HN'.out]; exact hlt
      obtain ⟨oa, ea, la1, la2, la3, a1, a2, a3⟩ := hpa.out k hkl
      obtain ⟨ob, eb, lb1, lb2, lb3, b1, b2, b3⟩ := hpb.out k hkl
      subst ea eb
      have c1 := (HB.out.cell (p := ⟨ga, oa + k * 3, none⟩) la3).trans a1
      have c2 := (HB.out.cell (p := ⟨ga, oa + k * 3 + 1, none⟩) la3).trans a2
      have c3 := (HB.out.cell (p := ⟨ga, oa + k * 3 + 2, none⟩) la3).trans a3
      have d1 := (HB.out.cell (p := ⟨gb, ob + k * 3, none⟩) lb3).trans b1
      have d2 := (HB.out.cell (p := ⟨gb, ob + k * 3 + 1, none⟩) lb3).trans b2
      have d3 := (HB.out.cell (p := ⟨gb, ob + k * 3 + 2, none⟩) lb3).trans b3
      clear a1 a2 a3 b1 b2 b3
      generalize l[k] = x at c1 c2 c3 d1 d2 d3
      obtain ⟨x1, x2⟩ := x
      dsimp only at c1 c2 c3 d1 d2 d3
      generalize x1 / 16 = q at c2 d2
      generalize x1 % 16 = r at c3 d3
      have s1 := Try.eqGuardType44
      have s2 := Try.stoodInHeld44
      go_wp2
      go_quiet (fail)
      go_wp2
      go_roundw
      case rel => exact ⟨k + 1, by omega, by go_num, below_drewN HB.out _⟩
      case measure => simp [intOf]; omega
    · go_wp2
      go_ret
      exact ⟨rfl, HB.out⟩

end Go.Proofs.Ytdfolbnnhglpeaa
