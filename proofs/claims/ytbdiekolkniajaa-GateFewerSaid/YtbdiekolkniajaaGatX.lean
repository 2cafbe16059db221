/- Who is in: bits of a number. -/
import Derived.Test.YtbdiekolkniajaaGatQ
import Derived.Test.YtbdiekolkniajaaGatW
import Derived.OwnWalk
namespace Go.Proofs.Ytbdiekolkniajaa
open Go.RowKit Tk De Dl
set_option linter.unusedVariables false

/-- who is in, of the first k -/
def whoL (N k : Nat) : List Bool := (List.range k).map fun i => decide (N / 2 ^ i % 2 = 1)
theorem who_len (N k : Nat) : (whoL N k).length = k := by simp [whoL]
theorem who_snoc (N k : Nat) : whoL N (k + 1) = whoL N k ++ [decide (N / 2 ^ k % 2 = 1)] := by simp [whoL, List.range_succ]
theorem infoB : (Try.prog.info? 4).map (fun i => (i.zero, i.size, i.bytes)) = some (some (.bool false), 1, 1) := by kernel_rfl
/-- a row of bools of the call's own -/
def OB (W : World) (g : Nat) (v : Value) (bs : List Bool) : Prop := W.ownsRow g 4 1 v bs.length (bs.map Value.bool)
theorem one_b (b : Bool) : ∀ u ∈ ([Value.bool b] : List Value), u.oneCell' = true := by intro u hu; simp at hu; subst hu; rfl
/-- bools that can be read -/
def BV (W : World) (u : Value) (bs : List Bool) : Prop := ∃ a cap, u = .slice a bs.length cap ∧ bs.length ≤ cap ∧ cap ≤ maxLen ∧ (0 < bs.length → ∃ g off, a = some ⟨g, off, none⟩ ∧ ∀ i, i < bs.length → W.cell? ⟨g, off + i, none⟩ = some (.bool (bs.getD i false)))
theorem BV.slice {W : World} {u : Value} {bs : List Bool} (h : BV W u bs) : ∃ a cap, u = .slice a bs.length cap ∧ bs.length ≤ cap ∧ cap ≤ maxLen := by obtain ⟨a, cap, h1, h2, h3, _⟩ := h; exact ⟨a, cap, h1, h2, h3⟩
theorem BV.below {W W' : World} {u : Value} {bs : List Bool} (h : BV W u bs) (q : Below W.heap.size W W') : BV W' u bs := by
  obtain ⟨a, cap, e, h1, h2, h3⟩ := h
  exact ⟨a, cap, e, h1, h2, fun hn => by obtain ⟨g, off, e2, hc⟩ := h3 hn; exact ⟨g, off, e2, fun i hi => (q.cell (World.block_lt_of_cell? W _ (hc i hi))).trans (hc i hi)⟩⟩
theorem OB.bv {W : World} {B : Nat} {u : Value} {bs : List Bool} (h : OB W B u bs) : BV W u bs := by
  have hc := h
  rcases h.2 with ⟨rfl, h0⟩ | ⟨g, cap, cur, rfl, hg, hh, hnc, hcm, _⟩
  · exact ⟨none, 0, by rw [h0], by omega, Nat.zero_le _, fun h => by omega⟩
  · refine ⟨_, cap, rfl, hnc, hcm, fun _ => ⟨g, 0, rfl, fun i hi => ?_⟩⟩
    have := World.ownsRow.cells hc (g := g) rfl i (.bool (bs.getD i false)) (by simp [List.getElem?_map, List.getElem?_eq_getElem hi, List.getD])
    rw [Addr.add_lit] at this
    exact this
theorem and_one : ∀ M : Nat, M < 16 → (bits BinOp.and IntKind.i64 (M : Int) 1 == 1) = decide (M % 2 = 1) := by decide
theorem bit_eq {N k : Nat} (hN : N < 16) : (bits BinOp.and IntKind.i64 ((N : Int) / 2 ^ k) 1 == 1) = decide (N / 2 ^ k % 2 = 1) := by
  have e : ((N : Int) / 2 ^ k) = ((N / 2 ^ k : Nat) : Int) := by push_cast; rfl
  rw [e]
  exact and_one _ (Nat.lt_of_le_of_lt (Nat.div_le_self _ _) hN)
theorem OB.mono {W : World} {B C : Nat} {u : Value} {bs : List Bool} (h : OB W B u bs) (hC : C ≤ B) : OB W C u bs := by
  refine ⟨h.1, ?_⟩
  rcases h.2 with h0 | ⟨g, cap, cur, h1, h2, h3⟩
  · exact Or.inl h0
  · exact Or.inr ⟨g, cap, cur, h1, Nat.le_trans hC h2, h3⟩
def WhoP (w : World) (bs : List Bool) (e : Ending) (w' : World) : Prop := ∃ u, e = .returned u ∧ OB w' w.heap.size u bs ∧ Below w.heap.size w w'
set_option maxHeartbeats 2000000 in
theorem who_any {w : World} {pv : Value} {ps : List Pn} (h : PS w pv ps) (hl : ps.length ≤ 4) (N : Nat) (hN : N < 16) : Calls Try.prog 8 #[.agg #[pv, .slice none 0 0], .int .i64 N] w (WhoP w (whoL N ps.length)) := by
  obtain ⟨a, cap, rfl, hn1, hn2⟩ := h.slice
  obtain ⟨i0, hi, hz0, hz1, hz2⟩ := info_parts infoB
  have HI := Lib.hid (⟨hi, hz0, hz1, hz2⟩ : _ ∧ _ ∧ _ ∧ _)
  generalize ps.length = n at *
  have hmx : n ≤ 9223372036854775807 := by omega
  have HNN := Lib.hid hN
  obtain ⟨cb, hcb⟩ : ∃ cb, cb = w.heap.size := ⟨_, rfl⟩
  have HA0 : Hid (Below cb w (w.alloc (.cells #[.slice a n cap, .slice none 0 0] 25))) := by rw [hcb]; exact below_alloc w _
  have HC0 : Hid (CB (w.alloc (.cells #[.slice a n cap, .slice none 0 0] 25)) cb (.slice a n cap)) := by rw [hcb]; exact heap_alloc_new w _
  have HCE := Lib.hid hcb
  clear h hn1 hn2 hi hz0 hz1 hz2
  go_enter Try.func8, Try.ntmps8
  go_wp2_with fail
  rw [← hcb]
  clear hcb
  go_loopw [5, 6] (fun o i W => ∃ (k : Nat) (a5 : Option Addr) (cap5 : Nat), k ≤ n ∧ i = .int .i64 k ∧ o = .slice a5 k cap5 ∧ Hid (OB W (cb + 1) (.slice a5 k cap5) (whoL N k)) ∧ Hid (CB W cb (.slice a n cap)) ∧ Hid (Below cb w W)) (fun _ i _ => n - (intOf i).toNat)
  case atStart => exact ⟨0, none, 0, Nat.zero_le _, rfl, rfl, World.ownsRow_nil _ _ _ _, HC0.out, HA0.out⟩
  case round =>
    clear HC0 HA0
    obtain ⟨k, a5, cap5, hk, rfl, rfl, HO, HC, HB⟩ := hrel
    have x0 : wr.cell? ⟨cb, 0, none⟩ = some (.slice a n cap) := cell_of_row _ _ 0 _ _ _ HC.out
    by_cases hlt : k < n
    · have hkI : (k : Int) < n := by omega
      have hk0 : (0 : Int) ≤ k := by omega
      have hb := bit_eq (k := k) HNN.out
      have HSN := Lib.hid (who_snoc N k)
      generalize decide (N / 2 ^ k % 2 = 1) = b at *
      have HOX := HO.out
      unfold OB at HOX
      rw [who_len] at HOX
      have HO2 := Lib.hid HOX
      have Hm1 : Hid (k + 1 ≤ maxLen) := by unfold Hid maxLen; omega
      have Hm2 : Hid ((k + 1) * 1 ≤ 140737488355328) := by unfold Hid; omega
      have HCL : Hid (cb < wr.heap.size) := lt_of_block HC.out
      clear HOX
      go_wp2_with (at_builtin; refine wpList_append_own _ rfl _ _ 31 rfl (cb + 1) 4 i0 (.bool false) 1 1 Try.underlying31 HI.out.1 HI.out.2.1 HI.out.2.2.1 HI.out.2.2.2 rfl (by decide) _ k _ rfl (World.ownsRow.alloc HO2.out _) ⟨wr.heap.size, 0, none⟩ 1 1 [.bool b] rfl rfl (lit_add rfl _ _) (one_b _) Hm1.out Hm2.out (by have := HCL.out; rw [World.size_alloc]; omega) ?_)
      intro v' w5 hown hgrow _
      have hbw := (HB.out.alloc (by have := HCL.out; omega) (.cells #[.bool b] 4)).grown hgrow (by rw [World.size_alloc]; have := HCL.out; omega) (fun q hq => by have := (HO2.out.lt q hq).1; omega)
      have hc5 : CB w5 cb (.slice a n cap) := (hgrow.block cb (by rw [World.size_alloc]; have := HCL.out; omega) (fun e => by have := (HO2.out.lt _ e.symm).1; omega)).trans ((Below.heap_alloc _ _ _ (lt_of_block HC.out)).trans HC.out)
      have hown2 : OB w5 (cb + 1) v' (whoL N (k + 1)) := by unfold OB; rw [who_len, HSN.out, List.map_append]; exact hown
      obtain ⟨a6, cap6, rfl⟩ : ∃ a cap, v' = .slice a (k + 1) cap := by
        rcases hown.2 with ⟨h0, h1⟩ | ⟨g, cap, cur, h0, _⟩
        · cases h1
        · exact ⟨_, cap, h0⟩
      have HO5 := Lib.hid hown2; have HC5 := Lib.hid hc5; have HB5 := Lib.hid hbw
      clear hown hgrow hown2 hc5 hbw x0
      go_wp2_with fail
      go_roundw
      case rel => exact ⟨k + 1, _, _, by omega, by go_num, rfl, HO5.out, HC5.out, HB5.out⟩
      case measure => simp [intOf]; omega
    · obtain rfl : k = n := by omega
      go_wp2_with fail
      go_ret
      exact ⟨_, rfl, OB.mono HO.out (by rw [HCE.out]; exact Nat.le_succ _), by rw [← HCE.out]; exact HB.out⟩
end Go.Proofs.Ytbdiekolkniajaa
