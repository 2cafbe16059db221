/- What package ticks answers of many numbers: slices.Contains, Sum, Lcm. -/
import Derived.Test.YthhdfmpoebedcaaWalksD
namespace Go.Proofs.Ythhdfmpoebedcaa
open Go.RowKit Tk
set_option linter.unusedVariables false

def has (v : Int) (zs : List Int) : Bool := zs.contains v
/-- a place in a list, or none -/
def IdxP (zs : List Int) (v : Int) (w : World) (e : Ending) (w' : World) : Prop := ∃ r : Int, e = .returned (.int .i64 r) ∧ decide (0 ≤ r) = zs.contains v ∧ w = w'

set_option maxHeartbeats 400000 in
theorem index_nil (v : Int) (a : Option Addr) (cap : Nat) (w : World) : Calls Try.prog 66 #[.slice a 0 cap, .int .i64 v] w (IdxP [] v w) := by
  go_enter Try.func66, Try.ntmps66
  go_wp2
  go_loop [8] (fun i => i = .int .i64 0) (fun _ => 0)
  case atStart => rfl
  case round =>
    subst hrel
    go_wp2
    go_ret
    exact ⟨-1, rfl, by simp, rfl⟩
set_option maxHeartbeats 400000 in
theorem index_some (v : Int) (b off cap n : Nat) (zs : List Int) (w : World) (hn : n = zs.length) (hl : n ≤ 9223372036854775807) (hc : ∀ i, i < zs.length → w.cell? ⟨b, off + i, none⟩ = some (.int .i64 (zs.getD i 0))) :
    Calls Try.prog 66 #[.slice (some ⟨b, off, none⟩) n cap, .int .i64 v] w (IdxP zs v w) := by
  have HCC := Lib.hid hc; clear hc
  have HN := Lib.hid hn; clear hn
  go_enter Try.func66, Try.ntmps66
  go_wp2
  go_loop [8] (fun i => ∃ k : Nat, k ≤ n ∧ i = .int .i64 k ∧ Hid ((zs.take k).contains v = false)) (fun i => n - (intOf i).toNat)
  case atStart => exact ⟨0, Nat.zero_le _, rfl, by simp [Hid]⟩
  case round =>
    obtain ⟨k, hk, rfl, HT⟩ := hrel
    by_cases hlt : k < n
    · have hkz : k < zs.length := by have := HN.out; omega
      have hcell := HCC.out k hkz
      cases hv : (v == zs.getD k 0) with
      | true =>
        have HF := Lib.hid (has_at hkz hv)
        clear hkz
        generalize zs.getD k 0 = z at *
        go_wp2
        go_ret
        exact ⟨k, rfl, by rw [HF.out]; simp, rfl⟩
      | false =>
        have HF := Lib.hid (take_has_step hkz HT.out hv)
        clear hkz
        generalize zs.getD k 0 = z at *
        go_wp2
        go_round
        case rel => exact ⟨k + 1, by omega, by go_num, HF⟩
        case measure => simp [intOf]; omega
    · have HF : Hid (zs.contains v = false) := by
        have := HT.out; rw [List.take_of_length_le (by have := HN.out; omega)] at this; exact this
      go_wp2
      go_ret
      exact ⟨-1, rfl, by rw [HF.out]; decide, rfl⟩
theorem index_any (v : Int) (a : Option Addr) (cap n : Nat) (zs : List Int) (w : World) (hn : n = zs.length) (hl : n ≤ 9223372036854775807) (hr : Row w a zs) : Calls Try.prog 66 #[.slice a n cap, .int .i64 v] w (IdxP zs v w) := by
  rcases hr with rfl | ⟨b, off, rfl, hc⟩
  · obtain rfl : n = 0 := by simpa using hn
    exact index_nil v a cap w
  · exact index_some v b off cap n zs w hn hl hc

set_option maxHeartbeats 400000 in
theorem contains_any (v : Int) (a : Option Addr) (cap n : Nat) (zs : List Int) (w : World) (hn : n = zs.length) (hl : n ≤ 9223372036854775807) (hr : Row w a zs) : Calls Try.prog 55 #[.slice a n cap, .int .i64 v] w (IsB (has v zs) w) := by
  have H := Lib.hid (index_any v a cap n zs w hn hl hr)
  clear hn hr
  go_enter Try.func55, Try.ntmps55
  go_wp2_with fail
  refine H.out.mono ?_
  rintro e w1 ⟨r, rfl, hd, rfl⟩
  have HD := Lib.hid hd; clear hd
  go_wp2_with fail
  go_ret
  exact ⟨by rw [has, ← HD.out]; rfl, rfl⟩

set_option maxHeartbeats 400000 in
theorem sum_any (a : Option Addr) (cap n : Nat) (zs : List Int) (w : World) (hn : n = zs.length) (hl : n ≤ 9223372036854775807) (hr : Row w a zs) : Calls Try.prog 44 #[.slice a n cap] w (TwoB (sumR zs).1 (sumR zs).2 w) := by
  have HN := Lib.hid hn; clear hn
  have HR := Lib.hid hr; clear hr
  cases ht : zs.all tk with
  | false =>
    rw [sumR_no ht]
    go_enter Try.func44, Try.ntmps44
    go_wp2_with fail
    refine (areTicks_any _ _ _ zs _ HN.out hl HR.out).mono ?_
    rintro e w1 ⟨rfl, rfl⟩
    go_wp2_with fail
    go_ret2
    exact ⟨rfl, Below.refl _ _⟩
  | true =>
    rw [sumR_yes ht]
    have HK := Lib.hid (reckon_add_any w.heap.size 0 a cap n zs (w.alloc (.cells #[.int .i64 0] 97)) HN.out hl (HR.out.under.below (below_alloc _ _)) (Ctr.made w 0) (tk_yes (by decide) (by decide)) ht)
    rcases sumAll_or zs 0 with ⟨m, hm⟩ | hm
    · rw [hm] at HK ⊢
      clear hm
      go_enter Try.func44, Try.ntmps44
      go_wp2_with fail
      refine (areTicks_any _ _ _ zs _ HN.out hl HR.out).mono ?_
      rintro e w1 ⟨rfl, rfl⟩
      go_wp2_with fail
      refine HK.out.mono ?_
      rintro e w2 ⟨rfl, hC, hb⟩
      have hcell := (hC rfl).cell
      clear hC
      go_wp2_with fail
      go_ret2
      exact ⟨rfl, (below_alloc _ _).trans hb⟩
    · rw [hm] at HK ⊢
      clear hm
      go_enter Try.func44, Try.ntmps44
      go_wp2_with fail
      refine (areTicks_any _ _ _ zs _ HN.out hl HR.out).mono ?_
      rintro e w1 ⟨rfl, rfl⟩
      go_wp2_with fail
      refine HK.out.mono ?_
      rintro e w2 ⟨rfl, hC, hb⟩
      clear hC
      go_wp2_with fail
      go_ret2
      exact ⟨rfl, (below_alloc _ _).trans hb⟩

set_option maxHeartbeats 1000000 in
theorem lcm_any (limit : Int) (a : Option Addr) (cap n : Nat) (zs : List Int) (w : World) (hn : n = zs.length) (hl : n ≤ 9223372036854775807) (hr : Row w a zs) :
    Calls Try.prog 42 #[.int .i64 limit, .slice a n cap] w (TwoB (lcmR limit zs).1 (lcmR limit zs).2 w) := by
  have HN := Lib.hid hn; clear hn
  have HR := Lib.hid hr; clear hr
  cases hlim : tk limit with
  | false =>
    rw [lcmR_no1 hlim]
    go_enter Try.func42, Try.ntmps42
    go_wp2_with fail
    refine (areTicks_one _ _).mono ?_
    rintro e w1 ⟨rfl, rfl⟩
    go_wp2_with fail
    go_ret2
    exact ⟨rfl, below_alloc _ _⟩
  | true =>
    cases ht : zs.all tk with
    | false =>
      rw [lcmR_no2 (by rw [all_ok1, ht]; rfl)]
      go_enter Try.func42, Try.ntmps42
      go_wp2_with fail
      refine (areTicks_one _ _).mono ?_
      rintro e w1 ⟨rfl, rfl⟩
      go_wp2_with fail
      refine (areTicks_any _ _ _ zs _ HN.out hl (HR.out.below (below_alloc _ _))).mono ?_
      rintro e w1 ⟨rfl, rfl⟩
      go_wp2_with fail
      go_ret2
      exact ⟨rfl, below_alloc _ _⟩
    | true =>
      cases hz : has 0 zs with
      | true =>
        rw [lcmR_no2 (by rw [all_ok1, ht, show zs.contains 0 = _ from hz]; rfl)]
        go_enter Try.func42, Try.ntmps42
        go_wp2_with fail
        refine (areTicks_one _ _).mono ?_
        rintro e w1 ⟨rfl, rfl⟩
        go_wp2_with fail
        refine (areTicks_any _ _ _ zs _ HN.out hl (HR.out.below (below_alloc _ _))).mono ?_
        rintro e w1 ⟨rfl, rfl⟩
        go_wp2_with fail
        refine (contains_any 0 _ _ _ zs _ HN.out hl (HR.out.below (below_alloc _ _))).mono ?_
        rintro e w1 ⟨rfl, rfl⟩
        go_wp2_with fail
        go_ret2
        exact ⟨rfl, below_alloc _ _⟩
      | false =>
        have hall : zs.all ok1 = true := by rw [all_ok1, ht, show zs.contains 0 = _ from hz]; rfl
        rw [lcmR_yes hlim hall]
        have HK : Hid (Calls Try.prog 56 #[.func (Fn.func 57) #[.pointer (some ⟨w.heap.size + 1, 0, none⟩)] #[], .slice a n cap] ((w.alloc (.cells #[.int .i64 limit] 3)).alloc (.cells #[.int .i64 1] 97)) (Reck (w.heap.size + 1) (lcmAll 1 zs) ((w.alloc (.cells #[.int .i64 limit] 3)).alloc (.cells #[.int .i64 1] 97)))) := by
          have h := reckon_mul_any (w.alloc (.cells #[.int .i64 limit] 3)).heap.size 1 a cap n zs ((w.alloc (.cells #[.int .i64 limit] 3)).alloc (.cells #[.int .i64 1] 97)) HN.out hl ((HR.out.below (below_alloc _ _)).under.below (below_alloc _ _)) (Ctr.made _ 1) (by decide) hall
          rw [show (w.alloc (.cells #[.int .i64 limit] 3)).heap.size = w.heap.size + 1 from by simp] at h
          exact h
        have HB := Lib.hid ((below_alloc w (.cells #[.int .i64 limit] 3)).alloc (by simp) (.cells #[.int .i64 1] 97))
        clear hall
        rcases lcmAll_or zs 1 with ⟨m, hm⟩ | hm
        · rw [hm] at HK ⊢
          clear hm
          by_cases hlm : m ≤ limit
          · rw [show cutTo limit (m, 0) = (m, 0) from by simp [cutTo, hlm]]
            have hd : decide (limit < m) = false := by simp; omega
            go_enter Try.func42, Try.ntmps42
            go_wp2_with fail
            refine (areTicks_one _ _).mono ?_
            rintro e w1 ⟨rfl, rfl⟩
            go_wp2_with fail
            refine (areTicks_any _ _ _ zs _ HN.out hl (HR.out.below (below_alloc _ _))).mono ?_
            rintro e w1 ⟨rfl, rfl⟩
            go_wp2_with fail
            refine (contains_any 0 _ _ _ zs _ HN.out hl (HR.out.below (below_alloc _ _))).mono ?_
            rintro e w1 ⟨rfl, rfl⟩
            go_wp2_with fail
            refine HK.out.mono ?_
            rintro e w2 ⟨rfl, hC, hb⟩
            have hcell := (hC rfl).cell
            clear hC
            go_wp2_with fail
            go_ret2
            exact ⟨rfl, HB.out.trans (hb.mono (Nat.le_succ _))⟩
          · rw [show cutTo limit (m, 0) = (0, 10) from by simp [cutTo, hlm]]
            have hlm' : limit < m := by omega
            clear hlm
            go_enter Try.func42, Try.ntmps42
            go_wp2_with fail
            refine (areTicks_one _ _).mono ?_
            rintro e w1 ⟨rfl, rfl⟩
            go_wp2_with fail
            refine (areTicks_any _ _ _ zs _ HN.out hl (HR.out.below (below_alloc _ _))).mono ?_
            rintro e w1 ⟨rfl, rfl⟩
            go_wp2_with fail
            refine (contains_any 0 _ _ _ zs _ HN.out hl (HR.out.below (below_alloc _ _))).mono ?_
            rintro e w1 ⟨rfl, rfl⟩
            go_wp2_with fail
            refine HK.out.mono ?_
            rintro e w2 ⟨rfl, hC, hb⟩
            have hcell := (hC rfl).cell
            clear hC
            go_wp2_with fail
            go_ret2
            exact ⟨rfl, HB.out.trans (hb.mono (Nat.le_succ _))⟩
        · rw [hm] at HK ⊢
          clear hm
          rw [show cutTo limit (0, 10) = (0, 10) from rfl]
          go_enter Try.func42, Try.ntmps42
          go_wp2_with fail
          refine (areTicks_one _ _).mono ?_
          rintro e w1 ⟨rfl, rfl⟩
          go_wp2_with fail
          refine (areTicks_any _ _ _ zs _ HN.out hl (HR.out.below (below_alloc _ _))).mono ?_
          rintro e w1 ⟨rfl, rfl⟩
          go_wp2_with fail
          refine (contains_any 0 _ _ _ zs _ HN.out hl (HR.out.below (below_alloc _ _))).mono ?_
          rintro e w1 ⟨rfl, rfl⟩
          go_wp2_with fail
          refine HK.out.mono ?_
          rintro e w2 ⟨rfl, hC, hb⟩
          clear hC
          go_wp2_with fail
          go_ret2
          exact ⟨rfl, HB.out.trans (hb.mono (Nat.le_succ _))⟩

end Go.Proofs.Ythhdfmpoebedcaa
