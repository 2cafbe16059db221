/- What is heaped, call by call: mayBe, place, set, swap. -/
import Derived.Test.YtfjeoefnpcgnnaaRkMemA
import Derived.BigRegion
namespace Go.Proofs.Ytfjeoefnpcgnnaa.Rq
open Go.RowKit Rk
set_option linter.unusedVariables false
set_option maxRecDepth 100000

def IsB (b : Bool) (w : World) (e : Ending) (w' : World) : Prop := e = .returned (.bool b) ∧ w = w'
theorem mayBe_yes (i : Nat) (w : World) (h : i < 64) : Calls Try.prog 59 #[.int .i64 i] w (IsB true w) := by
  have h1 : decide ((i : Int) < 64) = true := by simp; omega
  go_enter Try.func59, Try.ntmps59
  go_wp2
  go_ret
  exact ⟨rfl, rfl⟩
theorem mayBe_lo (i : Int) (w : World) (h : i < 0) : Calls Try.prog 59 #[.int .i64 i] w (IsB false w) := by
  have h1 : decide (0 ≤ i) = false := by simp; omega
  go_enter Try.func59, Try.ntmps59
  go_wp2
  go_ret
  exact ⟨rfl, rfl⟩
theorem mayBe_hi (i : Int) (w : World) (h : 64 ≤ i) : Calls Try.prog 59 #[.int .i64 i] w (IsB false w) := by
  have h1 : decide (i < 64) = false := by simp; omega
  go_enter Try.func59, Try.ntmps59
  go_wp2
  go_ret
  exact ⟨rfl, rfl⟩

def Plc (r : Int) (b : Bool) (w : World) (e : Ending) (w' : World) : Prop := e = .returned (.tuple #[.int .i64 r, .bool b]) ∧ w = w'
set_option maxHeartbeats 400000 in
theorem place_no (hb : Nat) (v : Value) (pl : Int → Int) (i : Nat) (w : World) (h : PL w hb v pl) (hi : i < 64) (hz : pl (i : Nat) = 0) : Calls Try.prog 60 #[.pointer (some ⟨hb, 0, none⟩), .int .i64 i] w (Plc 0 false w) := by
  have hc := h.cell hi
  rw [hz] at hc
  clear h hz
  go_enter Try.func60, Try.ntmps60
  go_wp2_with (go_at_call 59; refine (mayBe_yes _ _ hi).mono ?_; rintro e w' ⟨rfl, rfl⟩)
  go_ret2
  exact ⟨rfl, rfl⟩
set_option maxHeartbeats 400000 in
theorem place_yes (hb : Nat) (v : Value) (pl : Int → Int) (i p : Nat) (w : World) (h : PL w hb v pl) (hi : i < 64) (hz : pl (i : Nat) = p + 1) (hp : p < 4611686018427387904) : Calls Try.prog 60 #[.pointer (some ⟨hb, 0, none⟩), .int .i64 i] w (Plc p true w) := by
  have hc := h.cell hi
  rw [hz] at hc
  clear h hz
  go_enter Try.func60, Try.ntmps60
  go_wp2_with (go_at_call 59; refine (mayBe_yes _ _ hi).mono ?_; rintro e w' ⟨rfl, rfl⟩)
  go_ret2
  exact ⟨rfl, rfl⟩

def SetP (hb g cap n : Nat) (f : Nat → En) (pl : Int → Int) (w : World) (e : Ending) (w' : World) : Prop := e = .returned (.tuple #[]) ∧ HM w' hb g cap n f pl ∧ Only (Two hb g) w w'
set_option maxHeartbeats 1000000 in
theorem set_any (w : World) (hb g cap n : Nat) (f : Nat → En) (pl : Int → Int) (p i : Nat) (k : Int) (h : HM w hb g cap n f pl) (hp : p < n) (hi : i < 64) :
    Calls Try.prog 62 #[.pointer (some ⟨hb, 0, none⟩), .int .i64 p, .agg #[.int .i64 i, .int .i64 k]] w (SetP hb g cap n (up f p (i, k)) (updp pl i (p + 1)) w) := by
  have H := Lib.hid h
  have hle := h.le
  have hmx := h.max
  have hlh := h.P.lt
  have hlg := h.E.lt
  have hne := h.ne
  have c0 := h.P.cell0
  have c1 := h.P.cell hi
  have f1 := h.P.free (1 + i)
  have e1 := h.E.cell1 hp
  have e2 := h.E.cell2 hp
  have f2 := h.E.free (p * 2)
  have f3 := h.E.free (p * 2 + 1)
  unfold maxLen at hmx
  clear h
  go_enter Try.func62, Try.ntmps62
  go_wp2
  go_region
  go_wp2
  go_region
  go_wp2
  go_end0
  exact ⟨rfl, ((((H.out.set hp (i, k)).setp hi (p + 1)).alloc _).drew).drew, ((((((Only.refl _ _).setCell (Or.inl (Or.inr rfl)) _).setCell (Or.inl (Or.inr rfl)) _).setCell (Or.inl (Or.inl rfl)) _).alloc _).drew).drew⟩

set_option maxHeartbeats 1000000 in
theorem swap_any (w : World) (hb g cap n : Nat) (f : Nat → En) (pl : Int → Int) (a b i j : Nat) (h : HM w hb g cap n f pl) (ha : a < n) (hb' : b < n) (hi : (f a).1 = i) (hj : (f b).1 = j) (hi' : i < 64) (hj' : j < 64) :
    Calls Try.prog 65 #[.pointer (some ⟨hb, 0, none⟩), .int .i64 a, .int .i64 b] w (SetP hb g cap n (sw f a b) (updp (updp pl (f b).1 (a + 1)) (f a).1 (b + 1)) w) := by
  have H := Lib.hid h
  have HI := Lib.hid hi
  have HJ := Lib.hid hj
  have hle := h.le
  have hmx := h.max
  have hlh := h.P.lt
  have hlg := h.E.lt
  have hne := h.ne
  have c0 := h.P.cell0
  have e1 := h.E.cell1 ha
  have e2 := h.E.cell2 ha
  have e3 := h.E.cell1 hb'
  have e4 := h.E.cell2 hb'
  rw [hi] at e1
  rw [hj] at e3
  have KA := Lib.hid (rfl : (f a).2 = (f a).2)
  generalize hka : (f a).2 = ka at e2
  generalize hkb : (f b).2 = kb at e4
  have HKA := Lib.hid hka
  have HKB := Lib.hid hkb
  unfold maxLen at hmx
  clear h hi hj hka hkb KA
  go_enter Try.func65, Try.ntmps65
  go_wp2_with fail
  go_region
  all_goals
    go_wp2_with fail
    refine (set_any _ hb g cap n f pl a j kb (((H.out.alloc _).alloc _).drew) ha hj').mono ?_
    rintro e w1 ⟨rfl, hm1, ho1⟩
    have hkm := keep_made ho1 (by rintro (e | e) <;> omega) (by rintro (e | e) <;> omega)
    have k1 := hkm.1.1
    have k2 := hkm.1.2
    have k3 := hkm.2.1
    have k4 := hkm.2.2
    have HO := Lib.hid ho1
    clear ho1 hkm
    go_wp2_with fail
    refine (set_any _ hb g cap n _ _ b i ka hm1 hb' hi').mono ?_
    rintro e w2 ⟨rfl, hm2, ho2⟩
    have HM2 := Lib.hid hm2
    clear hm2 hm1
    go_wp2_with fail
    go_end0
    refine ⟨rfl, ?_, ((((Only.refl _ _).alloc _).alloc _).drew).trans (HO.out.trans ho2)⟩
    have fa : f a = ((i : Int), ka) := Prod.ext HI.out HKA.out
    have fb : f b = ((j : Int), kb) := Prod.ext HJ.out HKB.out
    have := HM2.out
    rw [← fa, ← fb, sw_up] at this
    rw [HI.out, HJ.out]
    exact this

end Go.Proofs.Ytfjeoefnpcgnnaa.Rq
