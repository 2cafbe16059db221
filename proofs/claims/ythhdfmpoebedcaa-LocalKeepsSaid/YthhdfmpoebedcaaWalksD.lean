/- What package ticks reckons of many numbers: Lcm and Sum. -/
import Derived.Test.YthhdfmpoebedcaaWalksC
namespace Go.Proofs.Ythhdfmpoebedcaa
open Go.RowKit Tk
set_option linter.unusedVariables false

/-- what reckoning with all of a list comes to: the error's number; the counter, if there is none -/
def Reck (g : Nat) (R : Int × Int) (w : World) (e : Ending) (w' : World) : Prop := e = .returned (.int .i64 R.2) ∧ (R.2 = 0 → Ctr w' g R.1) ∧ Below g w w'

set_option maxHeartbeats 400000 in
theorem reckon_add_nil (g : Nat) (n0 : Int) (a : Option Addr) (cap : Nat) (w : World) (hC : Ctr w g n0) :
    Calls Try.prog 56 #[.func (Fn.func 58) #[.pointer (some ⟨g, 0, none⟩)] #[], .slice a 0 cap] w (Reck g (n0, 0) w) := by
  have HC := Lib.hid hC; clear hC
  go_enter Try.func56, Try.ntmps56
  go_wp2
  go_loop [10] (fun i => i = .int .i64 0) (fun _ => 0)
  case atStart => rfl
  case round =>
    subst hrel
    go_wp2
    go_ret
    exact ⟨rfl, fun _ => HC.out, Below.refl _ _⟩

set_option maxHeartbeats 1000000 in
theorem reckon_add_some (g : Nat) (n0 : Int) (b off cap n : Nat) (zs : List Int) (w : World) (hn : n = zs.length) (hl : n ≤ 9223372036854775807) (hbg : b < g) (hc : ∀ i, i < zs.length → w.cell? ⟨b, off + i, none⟩ = some (.int .i64 (zs.getD i 0)))
    (hC : Ctr w g n0) (h0 : tk n0 = true) (hall : zs.all tk = true) :
    Calls Try.prog 56 #[.func (Fn.func 58) #[.pointer (some ⟨g, 0, none⟩)] #[], .slice (some ⟨b, off, none⟩) n cap] w (Reck g (sumAll n0 zs) w) := by
  obtain ⟨R, HR⟩ : ∃ R : Int × Int, Hid (R = sumAll n0 zs) := ⟨_, rfl⟩
  rw [← HR.out]
  have HCC := Lib.hid hc; clear hc
  have HN := Lib.hid hn; clear hn
  have HC := Lib.hid hC; clear hC
  have H0 := Lib.hid h0; clear h0
  have HALL := Lib.hid hall; clear hall
  go_enter Try.func56, Try.ntmps56
  go_wp2
  go_loopw [10] (fun i wr => ∃ (k : Nat) (m : Int), k ≤ n ∧ i = .int .i64 k ∧ Hid (tk m = true) ∧ Hid (Ctr wr g m) ∧ Below g w wr ∧ Hid (R = sumAll m (zs.drop k))) (fun i _ => n - (intOf i).toNat)
  case atStart => exact ⟨0, n0, Nat.zero_le _, rfl, H0, HC, Below.refl _ _, HR⟩
  case round =>
    clear HC H0 HR
    obtain ⟨k, m, hk, rfl, HT, HC, HB, HR⟩ := hrel
    by_cases hlt : k < n
    · have hkz : k < zs.length := by have := HN.out; omega
      have hcell := (HB.cell (p := ⟨b, off + k, none⟩) hbg).trans (HCC.out k hkz)
      have HX := Lib.hid (all_at HALL.out hkz)
      by_cases hs : m + zs.getD k 0 ≤ 1099511627776
      · have HG : Hid (R = _) := HR.out.trans (sum_go hkz hs)
        have HS := Lib.hid hs
        clear HR hs hkz
        generalize zs.getD k 0 = z at *
        have HNEW : Hid (tk (m + z) = true) := by
          have a1 := (tk_iff _).1 HT.out
          have a2 := (tk_iff _).1 HX.out
          exact tk_yes (by omega) HS.out
        go_wp2_with fail
        refine (cadd_ok _ _ _ _ HC.out (HT.out) HX.out HS.out).mono ?_
        rintro e w1 ⟨rfl, hC1, hb1⟩
        have HC1 := Lib.hid hC1; clear hC1 HC
        go_wp2_with fail
        go_roundw
        case rel => exact ⟨k + 1, _, by omega, by go_num, HNEW, HC1, HB.trans hb1, HG⟩
        case measure => simp [intOf]; omega
      · have hs' : 1099511627776 < m + zs.getD k 0 := by omega
        have HG : Hid (R = _) := HR.out.trans (sum_halt hkz hs')
        have HS := Lib.hid hs'
        clear HR hs hs' hkz
        generalize zs.getD k 0 = z at *
        go_wp2_with fail
        refine (cadd_over _ _ _ _ HC.out HT.out HX.out HS.out).mono ?_
        rintro e w1 ⟨rfl, hC1, hb1⟩
        have HC1 := Lib.hid hC1; clear hC1 HC
        go_wp2_with fail
        go_ret
        exact ⟨by rw [HG.out]; rfl, fun h => by rw [HG.out] at h; exact absurd h (by decide), HB.trans hb1⟩
    · have HG : Hid (R = _) := HR.out.trans (sum_end (by have := HN.out; omega))
      go_wp2
      go_ret
      exact ⟨by rw [HG.out]; rfl, fun _ => by rw [HG.out]; exact HC.out, HB⟩

theorem reckon_add_any (g : Nat) (n0 : Int) (a : Option Addr) (cap n : Nat) (zs : List Int) (w : World) (hn : n = zs.length) (hl : n ≤ 9223372036854775807) (hr : Under g w a zs)
    (hC : Ctr w g n0) (h0 : tk n0 = true) (hall : zs.all tk = true) :
    Calls Try.prog 56 #[.func (Fn.func 58) #[.pointer (some ⟨g, 0, none⟩)] #[], .slice a n cap] w (Reck g (sumAll n0 zs) w) := by
  rcases hr with rfl | ⟨b, off, rfl, hb, hc⟩
  · obtain rfl : n = 0 := by simpa using hn
    exact reckon_add_nil g n0 a cap w hC
  · exact reckon_add_some g n0 b off cap n zs w hn hl hb hc hC h0 hall

set_option maxHeartbeats 400000 in
theorem reckon_mul_nil (g : Nat) (n0 : Int) (a : Option Addr) (cap : Nat) (w : World) (hC : Ctr w g n0) :
    Calls Try.prog 56 #[.func (Fn.func 57) #[.pointer (some ⟨g, 0, none⟩)] #[], .slice a 0 cap] w (Reck g (n0, 0) w) := by
  have HC := Lib.hid hC; clear hC
  go_enter Try.func56, Try.ntmps56
  go_wp2
  go_loop [10] (fun i => i = .int .i64 0) (fun _ => 0)
  case atStart => rfl
  case round =>
    subst hrel
    go_wp2
    go_ret
    exact ⟨rfl, fun _ => HC.out, Below.refl _ _⟩

set_option maxHeartbeats 1000000 in
theorem reckon_mul_some (g : Nat) (n0 : Int) (b off cap n : Nat) (zs : List Int) (w : World) (hn : n = zs.length) (hl : n ≤ 9223372036854775807) (hbg : b < g) (hc : ∀ i, i < zs.length → w.cell? ⟨b, off + i, none⟩ = some (.int .i64 (zs.getD i 0)))
    (hC : Ctr w g n0) (h0 : ok1 n0 = true) (hall : zs.all ok1 = true) :
    Calls Try.prog 56 #[.func (Fn.func 57) #[.pointer (some ⟨g, 0, none⟩)] #[], .slice (some ⟨b, off, none⟩) n cap] w (Reck g (lcmAll n0 zs) w) := by
  obtain ⟨R, HR⟩ : ∃ R : Int × Int, Hid (R = lcmAll n0 zs) := ⟨_, rfl⟩
  rw [← HR.out]
  have HCC := Lib.hid hc; clear hc
  have HN := Lib.hid hn; clear hn
  have HC := Lib.hid hC; clear hC
  have H0 := Lib.hid h0; clear h0
  have HALL := Lib.hid hall; clear hall
  go_enter Try.func56, Try.ntmps56
  go_wp2
  go_loopw [10] (fun i wr => ∃ (k : Nat) (m : Int), k ≤ n ∧ i = .int .i64 k ∧ Hid (ok1 m = true) ∧ Hid (Ctr wr g m) ∧ Below g w wr ∧ Hid (R = lcmAll m (zs.drop k))) (fun i _ => n - (intOf i).toNat)
  case atStart => exact ⟨0, n0, Nat.zero_le _, rfl, H0, HC, Below.refl _ _, HR⟩
  case round =>
    clear HC H0 HR
    obtain ⟨k, m, hk, rfl, HT, HC, HB, HR⟩ := hrel
    by_cases hlt : k < n
    · have hkz : k < zs.length := by have := HN.out; omega
      have hcell := (HB.cell (p := ⟨b, off + k, none⟩) hbg).trans (HCC.out k hkz)
      have HX := Lib.hid (all_at HALL.out hkz)
      by_cases hs : lcm2 m (zs.getD k 0) ≤ 1099511627776
      · have HG : Hid (R = _) := HR.out.trans (lcm_go hkz hs)
        have HS := Lib.hid hs
        clear HR hs hkz
        generalize zs.getD k 0 = z at *
        have HNEW : Hid (ok1 (lcm2 m z) = true) := (ok1_iff _).2 ⟨(gcd_ok_pos HT.out HX.out).2.2.2.2.2.2, HS.out⟩
        go_wp2_with fail
        refine (cmul_ok _ _ _ _ HC.out (HT.out) HX.out HS.out).mono ?_
        rintro e w1 ⟨rfl, hC1, hb1⟩
        have HC1 := Lib.hid hC1; clear hC1 HC
        go_wp2_with fail
        go_roundw
        case rel => exact ⟨k + 1, _, by omega, by go_num, HNEW, HC1, HB.trans hb1, HG⟩
        case measure => simp [intOf]; omega
      · have hs' : 1099511627776 < lcm2 m (zs.getD k 0) := by omega
        have HG : Hid (R = _) := HR.out.trans (lcm_halt hkz hs')
        have HS := Lib.hid hs'
        clear HR hs hs' hkz
        generalize zs.getD k 0 = z at *
        go_wp2_with fail
        refine (cmul_over _ _ _ _ HC.out HT.out HX.out HS.out).mono ?_
        rintro e w1 ⟨rfl, hC1, hb1⟩
        have HC1 := Lib.hid hC1; clear hC1 HC
        go_wp2_with fail
        go_ret
        exact ⟨by rw [HG.out]; rfl, fun h => by rw [HG.out] at h; exact absurd h (by decide), HB.trans hb1⟩
    · have HG : Hid (R = _) := HR.out.trans (lcm_end (by have := HN.out; omega))
      go_wp2
      go_ret
      exact ⟨by rw [HG.out]; rfl, fun _ => by rw [HG.out]; exact HC.out, HB⟩

theorem reckon_mul_any (g : Nat) (n0 : Int) (a : Option Addr) (cap n : Nat) (zs : List Int) (w : World) (hn : n = zs.length) (hl : n ≤ 9223372036854775807) (hr : Under g w a zs)
    (hC : Ctr w g n0) (h0 : ok1 n0 = true) (hall : zs.all ok1 = true) :
    Calls Try.prog 56 #[.func (Fn.func 57) #[.pointer (some ⟨g, 0, none⟩)] #[], .slice a n cap] w (Reck g (lcmAll n0 zs) w) := by
  rcases hr with rfl | ⟨b, off, rfl, hb, hc⟩
  · obtain rfl : n = 0 := by simpa using hn
    exact reckon_mul_nil g n0 a cap w hC
  · exact reckon_mul_some g n0 b off cap n zs w hn hl hb hc hC h0 hall

end Go.Proofs.Ythhdfmpoebedcaa
