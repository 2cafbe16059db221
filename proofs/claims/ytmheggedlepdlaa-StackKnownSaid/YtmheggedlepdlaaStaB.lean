/- The document's stack: Len, Top, Ceiling. -/
import Derived.Test.YtmheggedlepdlaaStaA
import Derived.Test.YtmheggedlepdlaaLevB
import Derived.Lib.QuietBelow
import Derived.IntWalk
namespace Go.Proofs.Ytmheggedlepdlaa
open Go.RowKit Lv Sk Go.Sort
set_option linter.unusedVariables false

theorem rlen_any {w : World} {mb n : Nat} {z : Nat → Nat → Int} {l : List En} {tv lv : Value} (h : RS w mb n z l tv lv) : Calls Try.prog 30 #[.pointer (some ⟨mb, 0, none⟩)] w (YI l.length w) := by
  obtain ⟨a, cap, rfl, hn1, hn2⟩ := h.es.slice
  obtain ⟨c0, c1⟩ := h.cells
  clear h
  go_enter Try.func30, Try.ntmps30
  go_wp2_with fail
  go_ret
  exact ⟨rfl, Below.refl _ _⟩
/-- a number and a bool -/
def TopP (x : Int) (b : Bool) (w : World) (e : Ending) (w' : World) : Prop := e = .returned (.tuple #[.int .i64 x, .bool b]) ∧ Below w.heap.size w w'
/-- the task of the last entry -/
def topT (l : List En) : Int := if l.length = 0 then 0 else (l.getD (l.length - 1) e0).1
def topB (l : List En) : Bool := decide (0 < l.length)
set_option maxHeartbeats 1000000 in
theorem rtop_any {w : World} {mb n : Nat} {z : Nat → Nat → Int} {l : List En} {tv lv : Value} (h : RS w mb n z l tv lv) (hl : l.length ≤ 1000) : Calls Try.prog 28 #[.pointer (some ⟨mb, 0, none⟩)] w (TopP (topT l) (topB l) w) := by
  obtain ⟨a, cap, rfl, hn1, hn2⟩ := h.es.slice
  obtain ⟨c0, c1⟩ := h.cells
  have HE := Lib.hid h.es
  obtain ⟨m, hm⟩ : ∃ m, m = l.length := ⟨_, rfl⟩
  have HA : Hid (topT l = (if m = 0 then 0 else (l.getD (m - 1) e0).1) ∧ topB l = decide (0 < m)) := by rw [hm]; exact ⟨rfl, rfl⟩
  have hmx : m ≤ 9223372036854775807 := by omega
  rw [← hm] at hl hn1 HE c1
  clear h hm
  by_cases h0 : m = 0
  · subst h0
    go_enter Try.func28, Try.ntmps28
    go_wp2_with fail
    go_ret2
    exact ⟨by rw [HA.out.1, HA.out.2]; rfl, Below.refl _ _⟩
  · obtain ⟨k, rfl⟩ : ∃ k, m = k + 1 := ⟨m - 1, by omega⟩
    obtain ⟨b, off, rfl, d0, d1⟩ := HE.out.at (Nat.lt_succ_self k)
    have HA2 : Hid (topT l = (l.getD k e0).1 ∧ topB l = true) := ⟨by rw [HA.out.1, if_neg h0]; rfl, by rw [HA.out.2]; simp⟩
    have hs : ((k + 1 : Nat) : Int) - 1 = k := by omega
    have hw : IntKind.i64.wrap (k : Int) = k := IntWalk.i64_in _ (by omega)
    have hz : decide (((k + 1 : Nat) : Int) = 0) = false := by simp; omega
    have hz2 : (((k + 1 : Nat) : Int) == 0) = false := by simp; omega
    have hk1 : (k : Int) < ((k + 1 : Nat) : Int) := by omega
    generalize (l.getD k e0).1 = x at *
    generalize (l.getD k e0).2 = y at *
    obtain ⟨j, hj⟩ : ∃ j, j = k + 1 := ⟨_, rfl⟩
    rw [← hj] at *
    clear HA h0 HE
    have mixed : Try.prog.follows .mixedOrders = true := by kernel_rfl
    go_enter Try.func28, Try.ntmps28
    go_wp2_with fail
    go_quiet (fail)
    go_wp2_with fail
    go_ret2
    exact ⟨by rw [HA2.out.1, HA2.out.2]; rfl, below_drewN (Below.refl _ _) _⟩
/-- the ceiling of a stack -/
def cls (c : Int → Int) (l : List En) : Nat → Int
  | 0 => 0
  | k + 1 => max (cls c l k) (c (l.getD k e0).2)
set_option maxHeartbeats 1000000 in
theorem rcls_any {w : World} {mb n : Nat} {z : Nat → Nat → Int} {l : List En} {tv lv : Value} (h : RS w mb n z l tv lv) (hl : l.length ≤ 1000) (hnm : n ≤ 1000000) : Calls Try.prog 29 #[.pointer (some ⟨mb, 0, none⟩)] w (YI (cls (ceil n (dl z) (lo z)) l l.length) w) := by
  obtain ⟨a, cap, rfl, hn1, hn2⟩ := h.es.slice
  obtain ⟨ta, tcap, rfl, ht1, ht2⟩ := h.tk.slice
  have HP := Lib.hid h
  obtain ⟨m, hm⟩ : ∃ m, m = l.length := ⟨_, rfl⟩
  rw [← hm] at hl hn1 HP ⊢
  clear h hm
  obtain ⟨c, hc⟩ : ∃ c, c = ceil n (dl z) (lo z) := ⟨_, rfl⟩
  have HC := Lib.hid hc
  rw [← hc]
  clear hc
  have mixed : Try.prog.follows .mixedOrders = true := by kernel_rfl
  go_enter Try.func29, Try.ntmps29
  go_wp2_with fail
  go_loopw [3, 4] (fun s i wr => ∃ (k : Nat) (q : Int), k ≤ m ∧ i = .int .i64 k ∧ s = .int .i64 q ∧ Hid (q = cls c l k) ∧ Hid (Below w.heap.size w wr)) (fun _ i _ => m - (intOf i).toNat)
  case atStart => exact ⟨0, 0, by omega, rfl, rfl, rfl, Below.refl _ _⟩
  case round =>
    obtain ⟨k, q, hk, rfl, rfl, HQ, HB⟩ := hrel
    obtain ⟨c0, c1⟩ := (HP.out.below HB.out).cells
    by_cases hlt : k < m
    · obtain ⟨b, off, rfl, d0, d1⟩ := (HP.out.below HB.out).es.at hlt
      have HL := Lib.hid (fun W (b : Below wr.heap.size wr W) => rceil_any ((HP.out.below HB.out).tk.below b) hnm (l.getD k e0).2)
      rw [← HC.out] at HL
      have HN : Hid ((if q < c (l.getD k e0).2 then c (l.getD k e0).2 else q) = cls c l (k + 1)) := by unfold Hid; rw [← max_if, HQ.out]; rfl
      generalize c (l.getD k e0).2 = x at *
      generalize (l.getD k e0).2 = r at *
      have k0 := cell_regrown c0; have k1 := cell_regrown c1; have k3 := cell_regrown d1
      have cQ := Lib.hid (fun d os => Calls.regrown_of (HL.out _ (below_regrown wr d os)))
      clear d0 HL
      go_wp2_with fail
      clear c0 c1 d1
      refine wp_region_quiet_below (by assumption) (by kernel_rfl) ?_
      repeat (quiet_step (first | exact cQ.out _ _))
      refine wpQuiet_nil ?_
      intro _ hw'
      obtain ⟨⟨dq, osq⟩, hw''⟩ := hw'
      subst hw''
      have HF := Lib.hid (HB.out.trans ((below_regrown wr dq osq).mono HB.out.size))
      clear k0 k1 k3 cQ
      go_wp2_with fail
      go_roundw
      case rel => exact ⟨k + 1, _, by omega, by go_num, rfl, HN, HF.out⟩
      case measure => simp [intOf]; omega
    · obtain rfl : k = m := by omega
      go_wp2_with fail
      go_ret
      exact ⟨by rw [HQ.out]; rfl, HB.out⟩
end Go.Proofs.Ytmheggedlepdlaa
