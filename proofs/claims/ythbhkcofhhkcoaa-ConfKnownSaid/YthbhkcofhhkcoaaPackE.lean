/- A reader: Read, Num, Text, Left, Err, End. -/
import Derived.Test.YthbhkcofhhkcoaaPackD
import Derived.Deep.RegionWith
import Derived.Deep.RegionHeld3
import Derived.Deep.RegionLaw
namespace Go.Proofs.Ythbhkcofhhkcoaa
open Go.RowKit Pk
set_option linter.unusedVariables false

/-- a reader at a block: what is left, the error -/
def RD (w : World) (rb : Nat) (xs : List Int) (er : Int) : Prop :=
  ∃ v, w.heap[rb]? = some (.cells #[v, .int .i64 er] 81 (0, 0)) ∧ BS w v xs ∧ Bys xs
theorem RD.lt {w : World} {rb : Nat} {xs : List Int} {er : Int} (h : RD w rb xs er) : rb < w.heap.size := by obtain ⟨v, h1, _⟩ := h; exact (Array.getElem?_eq_some_iff.1 h1).1
theorem RD.below {w w' : World} {rb : Nat} {xs : List Int} {er : Int} (h : RD w rb xs er) (b : Below w.heap.size w w') : RD w' rb xs er := by
  have hl := h.lt
  obtain ⟨v, h1, h2, h3⟩ := h
  exact ⟨v, (b.block rb hl).trans h1, h2.below b, h3⟩
theorem RD.cell0 {w : World} {rb : Nat} {v : Value} {er : Int} (h : w.heap[rb]? = some (.cells #[v, .int .i64 er] 81 (0, 0))) : w.cell? ⟨rb, 0, none⟩ = some v := cell_of_row w rb 0 _ 81 _ h
theorem RD.cell1 {w : World} {rb : Nat} {v : Value} {er : Int} (h : w.heap[rb]? = some (.cells #[v, .int .i64 er] 81 (0, 0))) : w.cell? ⟨rb, 1, none⟩ = some (.int .i64 er) := cell_of_row w rb 1 _ 81 _ h

/-- a new reader is answered -/
def ReadP (xs : List Int) (w : World) (e : Ending) (w' : World) : Prop := ∃ rb, e = .returned (.pointer (some ⟨rb, 0, none⟩)) ∧ w.heap.size ≤ rb ∧ RD w' rb xs 0 ∧ Below w.heap.size w w'
set_option maxHeartbeats 400000 in
theorem read_any {w : World} {v : Value} {xs : List Int} (hv : BS w v xs) (hb : Bys xs) (hl : xs.length ≤ 140737488355328) : Calls Try.prog 47 #[v] w (ReadP xs w) := by
  have H := Lib.hid (clone_any hv hl)
  have HB := Lib.hid hb
  obtain ⟨a, cap, rfl, _⟩ := hv
  clear hb
  go_enter Try.func47, Try.ntmps47
  go_wp2_with fail
  refine H.out.mono ?_
  rintro e w1 ⟨v1, rfl, ho, hb1⟩
  obtain ⟨a1, cap1, rfl⟩ := ho.slice
  have HO := Lib.hid ho; have HB1 := Lib.hid hb1
  clear ho hb1
  go_wp2_with fail
  go_ret
  exact ⟨_, rfl, HB1.out.size, ⟨_, heap_alloc_new w1 _, HO.out.bs.alloc _, HB.out⟩, HB1.out.alloc HB1.out.size _⟩

set_option maxHeartbeats 400000 in
theorem left_any {w : World} {rb : Nat} {xs : List Int} {er : Int} (h : RD w rb xs er) : Calls Try.prog 57 #[.pointer (some ⟨rb, 0, none⟩)] w (IsI xs.length w) := by
  obtain ⟨v, h1, ⟨a, cap, rfl, _⟩, _⟩ := h
  have hc := RD.cell0 h1
  generalize xs.length = n at *
  clear h1
  go_enter Try.func57, Try.ntmps57
  go_wp2_with fail
  go_ret
  exact ⟨rfl, rfl⟩
set_option maxHeartbeats 400000 in
theorem err_any {w : World} {rb : Nat} {xs : List Int} {er : Int} (h : RD w rb xs er) : Calls Try.prog 58 #[.pointer (some ⟨rb, 0, none⟩)] w (IsI er w) := by
  obtain ⟨v, h1, ⟨a, cap, rfl, _⟩, _⟩ := h
  have hc := RD.cell1 h1
  clear h1
  go_enter Try.func58, Try.ntmps58
  go_wp2_with fail
  go_ret
  exact ⟨rfl, rfl⟩
/-- what End answers -/
def endOf (xs : List Int) (er : Int) : Int := if xs.length > 0 then 4 else er
set_option maxHeartbeats 400000 in
theorem end_any {w : World} {rb : Nat} {xs : List Int} {er : Int} (h : RD w rb xs er) : Calls Try.prog 50 #[.pointer (some ⟨rb, 0, none⟩)] w (IsI (endOf xs er) w) := by
  have HL := Lib.hid (left_any h); have HE := Lib.hid (err_any h)
  clear h
  unfold endOf
  cases hn : decide (xs.length > 0) with
  | true =>
    rw [if_pos (of_decide_eq_true hn)]
    go_enter Try.func50, Try.ntmps50
    go_wp2_with fail
    refine HL.out.mono ?_
    rintro e w1 ⟨rfl, rfl⟩
    go_wp2_with fail
    go_ret
    exact ⟨rfl, rfl⟩
  | false =>
    rw [if_neg (of_decide_eq_false hn)]
    go_enter Try.func50, Try.ntmps50
    go_wp2_with fail
    refine HL.out.mono ?_
    rintro e w1 ⟨rfl, rfl⟩
    go_wp2_with fail
    refine HE.out.mono ?_
    rintro e w1 ⟨rfl, rfl⟩
    go_wp2_with fail
    go_ret
    exact ⟨rfl, rfl⟩

theorem heap_set_same {w : World} {b i : Nat} {c : Array Value} {t : TypeId} {v : Value} (h : w.heap[b]? = some (.cells c t (0, 0))) : (w.setCell ⟨b, i, none⟩ v).heap[b]? = some (.cells (c.setIfInBounds i v) t (0, 0)) := heap_setCell_same w b i c t v h
theorem heap_set_other {w : World} {b b' i : Nat} {v : Value} (h : b' ≠ b) : (w.setCell ⟨b, i, none⟩ v).heap[b']? = w.heap[b']? := Below.heap_setCell _ _ _ _ h
theorem clo_end {w : World} {rb bn : Nat} {v v1 x y : Value} {t : TypeId} {er : Int} (k1 : w.heap[rb]? = some (.cells #[v, .int .i64 er] 81 (0, 0))) (h3 : w.heap[bn]? = some (.cells #[x] t (0, 0))) (d3 : bn ≠ rb) (m : Nat)
    (hx : ∀ z, x ≠ .int .u8 z) (hv : ∀ z, v ≠ .int .u8 z) :
    (((w.drewN m).setCell ⟨bn, 0, none⟩ y).setCell ⟨rb, 0, none⟩ v1).heap[rb]? = some (.cells #[v1, .int .i64 er] 81 (0, 0)) ∧
    (((w.drewN m).setCell ⟨bn, 0, none⟩ y).setCell ⟨rb, 0, none⟩ v1).heap[bn]? = some (.cells #[y] t (0, 0)) ∧
    Only (fun k => k = rb ∨ k = bn) w (((w.drewN m).setCell ⟨bn, 0, none⟩ y).setCell ⟨rb, 0, none⟩ v1) ∧
    ∀ (p : Addr) (z : Int), w.cell? p = some (.int .u8 z) → (((w.drewN m).setCell ⟨bn, 0, none⟩ y).setCell ⟨rb, 0, none⟩ v1).cell? p = some (.int .u8 z) := by
  have k1' : (w.drewN m).heap[rb]? = some (.cells #[v, .int .i64 er] 81 (0, 0)) := k1
  have h3' : (w.drewN m).heap[bn]? = some (.cells #[x] t (0, 0)) := h3
  have ho : Only (fun k => k = rb ∨ k = bn) w (((w.drewN m).setCell ⟨bn, 0, none⟩ y).setCell ⟨rb, 0, none⟩ v1) := (((Only.refl _ w).drewN m).setCell (Or.inl (Or.inr rfl)) _).setCell (Or.inl (Or.inl rfl)) _
  refine ⟨?_, ?_, ho, fun p z hp => ?_⟩
  · exact heap_set_same ((heap_set_other (Ne.symm d3)).trans k1')
  · exact (heap_set_other d3).trans (heap_set_same h3')
  · refine (ho.cell (lt_of_cell hp) ?_).trans hp
    rintro (hb | hb)
    · obtain ⟨b, o, f⟩ := p
      simp only at hb
      subst hb
      simp only [World.cell?, k1] at hp
      split at hp
      · cases hp
      · match o, hp with
        | 0, hp => exact hv z (Option.some.inj hp)
        | 1, hp => cases hp
        | o + 2, hp => simp at hp
    · obtain ⟨b, o, f⟩ := p
      simp only at hb
      subst hb
      simp only [World.cell?, h3] at hp
      split at hp
      · cases hp
      · match o, hp with
        | 0, hp => exact hx z (Option.some.inj hp)
        | o + 1, hp => simp at hp

/-- what the closure of Num does -/
def NumClo (rb bn : Nat) (er : Int) (r : Int × List Int × Int) (w : World) (e : Ending) (w' : World) : Prop :=
  e = .returned (.int .i64 r.2.2) ∧ RD w' rb r.2.1 er ∧ w'.heap[bn]? = some (.cells #[.int .i64 r.1] 3 (0, 0)) ∧ Only (fun k => k = rb ∨ k = bn) w w'
set_option maxHeartbeats 1000000 in
theorem numClo_any {w : World} {rb bp bm bn : Nat} {xs : List Int} {er most : Int} (h : RD w rb xs er) (h1 : w.heap[bp]? = some (.cells #[.pointer (some ⟨rb, 0, none⟩)] 71 (0, 0))) (h2 : w.heap[bm]? = some (.cells #[.int .i64 most] 3 (0, 0)))
    (h3 : ∃ x, (∀ z, x ≠ .int .u8 z) ∧ w.heap[bn]? = some (.cells #[x] 3 (0, 0))) (d1 : bp ≠ rb) (d2 : bp ≠ bn) (d3 : bn ≠ rb) :
    Calls Try.prog 60 #[.pointer (some ⟨bp, 0, none⟩), .pointer (some ⟨bm, 0, none⟩), .pointer (some ⟨bn, 0, none⟩)] w (NumClo rb bn er (cutN xs most) w) := by
  obtain ⟨v, k1, k2, k3⟩ := h
  obtain ⟨x, hx, h3⟩ := h3
  have c1 : w.cell? ⟨bp, 0, none⟩ = _ := cell_of_row w bp 0 _ 71 _ h1
  have c2 : w.cell? ⟨bm, 0, none⟩ = _ := cell_of_row w bm 0 _ 3 _ h2
  have c3 : w.cell? ⟨bn, 0, none⟩ = _ := cell_of_row w bn 0 _ 3 _ h3
  have c4 := RD.cell0 k1
  have f3 : w.frozen? ⟨bn, 0, none⟩ = false := frozen_of_row w bn 0 _ 3 h3
  have f4 : w.frozen? ⟨rb, 0, none⟩ = false := frozen_of_row w rb 0 _ 81 k1
  have HC := fun m => cutN_any (w := w.drewN m) (k2.drewN m) k3 most
  obtain ⟨a, cap, rfl, _⟩ := k2
  have hrb := (cutN_nonneg k3 most).2
  generalize cutN xs most = r at *
  obtain ⟨n, rest, e0⟩ := r
  simp at c1 c2 c3
  go_enter Try.func60, Try.ntmps60
  go_wp2_with fail
  go_region_law (go_simp; go_at_call 61; refine (HC _).mono ?_; rintro e w1 ⟨v1, k, rfl, hbs, rfl⟩; have HBS := Lib.hid hbs; obtain ⟨a1, cap1, hv1, _⟩ := hbs; subst hv1)
  all_goals
    go_wp2_with fail
    go_ret
    obtain ⟨q1, q2, q3, q4⟩ := clo_end (v1 := .slice a1 rest.length cap1) (y := .int .i64 n) k1 h3 d3 (1 + k) hx (fun z h => by cases h)
    exact ⟨rfl, ⟨_, q1, BS.cells (HBS.out) q4, hrb⟩, q2, q3⟩
theorem cutT_bys {xs : List Int} (hb : Bys xs) (most : Int) : Bys (cutT xs most).2.1 := by
  unfold cutT
  split
  · exact Bys.nil
  · split
    · exact Bys.nil
    · exact (cutN_nonneg hb most).2.drop _
/-- what the closure of Text does -/
def TxtClo (rb bn : Nat) (er : Int) (r : List Int × List Int × Int) (w : World) (e : Ending) (w' : World) : Prop :=
  e = .returned (.int .i64 r.2.2) ∧ RD w' rb r.2.1 er ∧ w'.heap[bn]? = some (.cells #[.string (strOfNums r.1)] 9 (0, 0)) ∧ Only (fun k => k = rb ∨ k = bn) w w'
end Go.Proofs.Ythbhkcofhhkcoaa
