/- push, lower, take. -/
import Derived.Test.YtfjeoefnpcgnnaaRkWalksC
import Derived.Test.YtfjeoefnpcgnnaaRkMemB
namespace Go.Proofs.Ytfjeoefnpcgnnaa.Rq
open Go.RowKit Rk
set_option linter.unusedVariables false
set_option maxRecDepth 100000

def PushP (hb g n : Nat) (m : Mp) (w : World) (e : Ending) (w' : World) : Prop :=
  e = .returned (.tuple #[]) ∧ (∃ g' cap f pl, HM w' hb g' cap n f pl ∧ Rep f n pl m ∧ Heap f n ∧ (g' = g ∨ w.heap.size ≤ g')) ∧ Only (Two hb g) w w'

set_option maxHeartbeats 2000000 in
theorem push_any (w : World) (hb g n : Nat) (f : Nat → En) (pl : Int → Int) (v : Value) (m : Mp) (i : Nat) (k : Int) (h : HN w hb g n f pl v) (r : Rep f n pl m) (hh : Heap f n) (hi : i < 64) (hm : m i = none) (hN : n ≤ 100000) :
    Calls Try.prog 61 #[.pointer (some ⟨hb, 0, none⟩), .agg #[.int .i64 i, .int .i64 k]] w (PushP hb g (n + 1) (upd m i (some k)) w) := by
  have hlh := h.P.lt
  have hlg := h.ltg
  obtain ⟨a, cap, hv⟩ := h.slice
  have c0 := h.P.cell0
  rw [hv] at c0
  have H := Lib.hid h
  have HR := Lib.hid r
  have HH := Lib.hid hh
  have HM0 := Lib.hid hm
  have mc := made_cells (w := w) (x := .int .i64 i) (y := .int .i64 k) (t := 95) (o := .cells #[.int .i64 i, .int .i64 k] 95)
  have mc0 := made_cells0 (w := w) (x := .int .i64 i) (y := .int .i64 k) (t := 95) (o := .cells #[.int .i64 i, .int .i64 k] 95)
  have hW : HN ((w.alloc (.cells #[.int .i64 i, .int .i64 k] 95)).alloc (.cells #[.int .i64 i, .int .i64 k] 95)).drew hb g n f pl v := ((h.alloc _).alloc _).drew
  obtain ⟨g', cap', w1, hrun, hE, hle, hmx, hg', hO⟩ := push_mem hW ((i : Int), k) 99 ⟨w.heap.size + 1, 0, none⟩ (by rw [Addr.add_lit]; exact mc.1) (by rw [Addr.add_lit]; exact mc.2) (by omega)
  have hS : ¬ (fun q => q = g ∧ g ≠ hb) hb := fun e => e.2 e.1.symm
  have hP1 : PL w1 hb v pl := hW.P.keep (hO.block _ hW.P.lt hS)
  have k1 : w1.cell? ⟨w.heap.size, 0, none⟩ = some (.int .i64 i) := (hO.cell (by show _ < ((w.alloc _).alloc _).heap.size; simp; omega) (fun e => by have := e.1; simp only at this; omega)).trans mc0.1
  have k2 : w1.cell? ⟨w.heap.size, 1, none⟩ = some (.int .i64 k) := (hO.cell (by show _ < ((w.alloc _).alloc _).heap.size; simp; omega) (fun e => by have := e.1; simp only at this; omega)).trans mc0.2
  have d0 := hP1.cell0
  rw [hv] at d0
  have d1 := hP1.free 0
  rw [hv] at hrun
  have hsz : w.heap.size + 2 ≤ w1.heap.size := by have := hO.size; simp [World.drew] at this; omega
  have HRUN := Lib.hid hrun
  have HP1 := Lib.hid hP1
  have HE := Lib.hid hE
  have HO := Lib.hid hO
  have HG := Lib.hid hg'
  have HV := Lib.hid hv
  have HMX := Lib.hid hmx
  clear h r hh hm mc mc0 hW hrun hE hg' hO hS hP1 hv hmx
  go_enter Try.func61, Try.ntmps61
  go_wp2_with fail
  go_region_law (refine step_append_eq rfl (.tmp 14) (.tmp 16) 99 rfl _ _ _ (by simp [Act.eval]) (by simp [Act.eval]) HRUN.out ?_)
  all_goals
    go_wp2_with fail
    have hg1 : (g' = g ∧ g ≠ hb) ∨ w.heap.size + 2 ≤ g' := by have := HG.out; simp [World.drew] at this; omega
    have hne : hb ≠ g' := by omega
    have hgg : g' = g ∨ w.heap.size ≤ g' := by omega
    have HM3 : Hid (HM (w1.setCell ⟨hb, 0, none⟩ (.slice (some ⟨g', 0, none⟩) (n + 1) cap')) hb g' cap' (n + 1) (up f n (i, k)) pl) := ⟨hne, hle, HMX.out, HP1.out.set0 _, HE.out.other (Ne.symm hne) _⟩
    refine (set_any _ hb g' cap' (n + 1) _ pl n i k HM3.out (Nat.lt_succ_self n) hi).mono ?_
    rintro e w2 ⟨rfl, hm2, ho2⟩
    rw [up_up] at hm2
    have HM2 := Lib.hid hm2
    have HO2 := Lib.hid ho2
    clear hm2 ho2
    go_wp2_with fail
    have hx := put_hx (x := ((i : Int), k)) HH.out
    refine (rise_any _ hb g' cap' (n + 1) _ _ (upd m i (some k)) n HM2.out (HR.out.put (by omega) (by omega) HM0.out) hx.1 (Nat.lt_succ_self n)).mono ?_
    rintro e w3 ⟨rfl, ⟨f3, pl3, hm3, hr3, _, _, hh3⟩, ho3⟩
    have HF : Hid (PushP hb g (n + 1) (upd m i (some k)) w (.returned (.tuple #[])) w3) := by
      refine ⟨rfl, ⟨g', cap', f3, pl3, hm3, hr3, hh3 hx.2, hgg⟩, ?_⟩
      have t1 : Only (Two hb g) w w1 := ((((Only.refl _ w).alloc _).alloc _).drew).trans' (HO.out) (fun j hj e => Or.inr e.1)
      have t2 : Only (Two hb g) w (w1.setCell ⟨hb, 0, none⟩ (.slice (some ⟨g', 0, none⟩) (n + 1) cap')) := t1.setCell (Or.inl (Or.inl rfl)) _
      have t3 := t2.trans' (HO2.out.trans ho3) (fun j hj e => by
        rcases e with e | e
        · exact Or.inl e
        · exact Or.inr (by omega))
      exact t3
    clear hm3 hr3 ho3 hh3 hx
    go_wp2_with fail
    go_end0
    exact HF

/-- what is heaped, behind a change that leaves its blocks -/
def HpP (hb g cap n : Nat) (m : Mp) (w : World) (e : Ending) (w' : World) : Prop :=
  e = .returned (.tuple #[]) ∧ (∃ f pl, HM w' hb g cap n f pl ∧ Rep f n pl m ∧ Heap f n) ∧ Only (Two hb g) w w'

end Go.Proofs.Ytfjeoefnpcgnnaa.Rq
