/- Tasks that are brought to be such. -/
import Derived.Test.YtdlhnkjghiphoaaDemJ
import Derived.Lib.SmallJoins
namespace Go.Proofs.Ytdlhnkjghiphoaa
open Go.RowKit Tk De
set_option linter.unusedVariables false

theorem bring_eq (a : Int) {n : Int} (h : 0 < n) : (if a.tmod n < 0 then a.tmod n + n else a.tmod n) = a % n := by
  by_cases ha : 0 ≤ a
  · rw [Int.tmod_eq_emod_of_nonneg ha, if_neg (by have := Int.emod_nonneg a (show n ≠ 0 by omega); omega)]
  · rw [tmod_neg a n (by omega) (by omega), emod_neg a n (by omega)]
    have h1 := Int.emod_nonneg (-a) (show n ≠ 0 by omega)
    have h2 := Int.emod_lt_of_pos (-a) h
    by_cases h0 : (-a) % n = 0
    · rw [h0]; simp
    · rw [if_pos (by omega), if_neg h0]; omega
set_option maxHeartbeats 400000 in
theorem brings_any (a n : Int) (w : World) (h : 1 ≤ n) (hn : n ≤ 9007199254740992) : Calls Try.prog 20 #[.int .i64 a, .int .i64 n] w (IsN (a % n) w) := by
  rw [← bring_eq a (show 0 < n by omega)]
  have h1 := Int.lt_tmod_of_pos a (by omega : 0 < n)
  have h2 := Int.tmod_lt_of_pos a (by omega : 0 < n)
  have hz : (n == 0) = false := by simp; omega
  have hw64 : wrap64 (a.tmod n) = a.tmod n := by unfold wrap64; omega
  by_cases hr : a.tmod n < 0
  · rw [if_pos hr]
    have hd : decide (a.tmod n < 0) = true := by simpa using hr
    have hw2 : wrap64 (a.tmod n + n) = a.tmod n + n := by unfold wrap64; omega
    go_enter Try.func20, Try.ntmps20
    go_wp2
    go_ret
    exact ⟨rfl, rfl⟩
  · rw [if_neg hr]
    have hd : decide (a.tmod n < 0) = false := by simpa using hr
    go_enter Try.func20, Try.ntmps20
    go_wp2
    go_ret
    exact ⟨rfl, rfl⟩
theorem wrap_nat {x : Nat} (h : x ≤ 1000000) : wrap64 (x : Int) = x := by unfold wrap64; omega
/-- a number, brought to be a natural below n -/
def bn (a : Int) (n : Nat) : Nat := (a % (n : Int)).toNat
theorem bn_lt (a : Int) {n : Nat} (h : 0 < n) : bn a n < n := by
  unfold bn
  have h1 := Int.emod_nonneg a (show (n : Int) ≠ 0 by omega)
  have h2 := Int.emod_lt_of_pos a (show (0 : Int) < n by omega)
  omega
theorem bring_bn (a : Int) (n : Nat) (w : World) (h : 0 < n) (hn : n ≤ 1000000) : Calls Try.prog 20 #[.int .i64 a, .int .i64 n] w (IsN (bn a n : Nat) w) := by
  have e : ((bn a n : Nat) : Int) = a % (n : Int) := by
    unfold bn
    have h1 := Int.emod_nonneg a (show (n : Int) ≠ 0 by omega)
    omega
  rw [e]
  exact brings_any a n w (by omega) (by omega)
/-- the tasks that they are made -/
def mP (z : Nat → Nat → Int) (i : Nat) : Nat := 1 + bn (z i 0) 64
def mD (z : Nat → Nat → Int) (i : Nat) : Nat := 1 + bn (z i 1) (mP z i)
def mB (z : Nat → Nat → Int) (i : Nat) : Nat := 1 + bn (z i 2) (mD z i)
def mz (z : Nat → Nat → Int) : Nat → Nat → Int := fun i j => match j with
  | 0 => mP z i
  | 1 => mD z i
  | 2 => mB z i
  | _ => 0
theorem mP_int (z : Nat → Nat → Int) (i : Nat) : (1 : Int) + (bn (z i 0) 64 : Nat) = (mP z i : Int) := (Int.natCast_add 1 _).symm
theorem mD_int (z : Nat → Nat → Int) (i : Nat) : (1 : Int) + (bn (z i 1) (mP z i) : Nat) = (mD z i : Int) := (Int.natCast_add 1 _).symm
theorem mB_int (z : Nat → Nat → Int) (i : Nat) : (1 : Int) + (bn (z i 2) (mD z i) : Nat) = (mB z i : Int) := (Int.natCast_add 1 _).symm
theorem mz_bd (z : Nat → Nat → Int) (i : Nat) : 1 ≤ mP z i ∧ mP z i ≤ 64 ∧ 1 ≤ mD z i ∧ mD z i ≤ mP z i ∧ 1 ≤ mB z i ∧ mB z i ≤ mD z i := by
  have h1 := bn_lt (z i 0) (show 0 < 64 by decide)
  have h2 := bn_lt (z i 1) (show 0 < mP z i by unfold mP; omega)
  have h3 := bn_lt (z i 2) (show 0 < mD z i by unfold mD; omega)
  unfold mB
  have e2 : mD z i = 1 + bn (z i 1) (mP z i) := rfl
  have e1 : mP z i = 1 + bn (z i 0) 64 := rfl
  omega
theorem mz_le (z : Nat → Nat → Int) (i : Nat) : mP z i ≤ 1000000 ∧ mD z i ≤ 1000000 ∧ mB z i ≤ 1000000 := by
  have := mz_bd z i
  omega
theorem mz_good (z : Nat → Nat → Int) {n : Nat} (h : n ≤ 4) : De.Good n (mz z) := by
  refine ⟨h, fun i hi => ?_⟩
  have := mz_bd z i
  have e0 : mz z i 0 = (mP z i : Int) := rfl
  have e1 : mz z i 1 = (mD z i : Int) := rfl
  have e2 : mz z i 2 = (mB z i : Int) := rfl
  unfold per dea
  rw [e0, e1, e2]
  omega
def mrow (z : Nat → Nat → Int) (i : Nat) : List Value := [.int .i64 (mP z i), .int .i64 (mD z i), .int .i64 (mB z i), .int .i64 0, .int .i64 0, .int .i64 0, .int .i64 0, .int .i64 0]
def mflat (z : Nat → Nat → Int) : Nat → List Value
  | 0 => []
  | k + 1 => mflat z k ++ mrow z k
theorem mflat_len (z : Nat → Nat → Int) : ∀ k, (mflat z k).length = k * 8
  | 0 => rfl
  | k + 1 => by rw [mflat, List.length_append, mflat_len]; simp [mrow]; omega
theorem mflat_at (z : Nat → Nat → Int) : ∀ {n i : Nat}, i < n → ∀ j, j < 8 → (mflat z n)[i * 8 + j]? = some (.int .i64 (mz z i j))
  | 0, _, h, _, _ => by cases h
  | n + 1, i, h, j, hj => by
    have hl := mflat_len z n
    rw [mflat]
    by_cases hc : i < n
    · rw [List.getElem?_append_left (by omega)]
      exact mflat_at z hc j hj
    · obtain rfl : i = n := by omega
      rw [List.getElem?_append_right (by omega), show i * 8 + j - (mflat z i).length = j by omega]
      match j, hj with
      | 0, _ => rfl | 1, _ => rfl | 2, _ => rfl | 3, _ => rfl | 4, _ => rfl | 5, _ => rfl | 6, _ => rfl | 7, _ => rfl
theorem infoTk : (Try.prog.info? 36).map (fun i => (i.zero, i.size, i.bytes)) = some (some (.agg #[.int .i64 0, .int .i64 0, .int .i64 0, .int .i64 0, .int .i64 0, .int .i64 0, .int .i64 0, .int .i64 0]), 8, 64) := by kernel_rfl
theorem tk_of_own {W : World} {B k : Nat} {v : Value} {z : Nat → Nat → Int} (h : W.ownsRow B 36 8 v k (mflat z k)) : TK W v k (mz z) := by
  rcases h.2 with ⟨rfl, h0⟩ | ⟨g, cap, cur, rfl, hg, hh, hnc, hcm, _⟩
  · subst h0
    exact TK.nil _ _
  · refine ⟨some ⟨g, 0, none⟩, cap, rfl, hnc, hcm, (fun h => by cases h), fun _ => ⟨g, 0, rfl, fun i hi j hj => ?_⟩⟩
    have := h.cells (g := g) rfl (i * 8 + j) _ (mflat_at z hi j hj)
    rw [Addr.add_lit, ← Nat.add_assoc] at this
    exact this
theorem cells_eight (w : World) (t0 t1 t2 t3 t4 t5 t6 t7 : Value) : ∀ j u, ([t0, t1, t2, t3, t4, t5, t6, t7] : List Value)[j]? = some u → (w.alloc (.cells #[t0, t1, t2, t3, t4, t5, t6, t7] 36)).cell? ((⟨w.heap.size, 0, none⟩ : Addr).add j) = some u := by
  intro j u hj
  rw [Addr.add_lit, cell_of_row _ _ (0 + j) _ _ _ (heap_alloc_new w _), Nat.zero_add]
  rw [← List.getElem?_toArray] at hj
  exact hj
theorem ones_eight (a0 a1 a2 a3 a4 a5 a6 a7 : Int) : ∀ u ∈ ([.int .i64 a0, .int .i64 a1, .int .i64 a2, .int .i64 a3, .int .i64 a4, .int .i64 a5, .int .i64 a6, .int .i64 a7] : List Value), u.oneCell' = true := by
  intro u hu
  simp only [List.mem_cons, List.not_mem_nil, or_false] at hu
  rcases hu with rfl | rfl | rfl | rfl | rfl | rfl | rfl | rfl <;> rfl
set_option maxRecDepth 100000 in
set_option maxHeartbeats 2000000 in
theorem made_any {w : World} {v : Value} {n : Nat} {z : Nat → Nat → Int} (h : TK w v n z) :
    Calls Try.prog 19 #[v] w (fun e w' => ∃ r m, e = .returned r ∧ m ≤ 4 ∧ TK w' r m (mz z) ∧ Below w.heap.size w w') := by
  obtain ⟨i0, hi, hz0, hz1, hz2⟩ := info_parts infoTk
  have HI := Lib.hid (⟨hi, hz0, hz1, hz2⟩ : _ ∧ _ ∧ _ ∧ _)
  obtain ⟨a, cap, rfl, hn1, hn2⟩ := h.slice
  have HP := Lib.hid h
  have hmx : n ≤ 9223372036854775807 := by unfold maxLen at hn2; omega
  have HO := Lib.hid (World.ownsRow_nil w w.heap.size 36 8)
  clear h hi hz0 hz1 hz2 hn2
  go_enter Try.func19, Try.ntmps19
  go_wp2_with fail
  go_loopw [3, 4] (fun o i wr => ∃ k : Nat, k ≤ n ∧ k ≤ 4 ∧ i = .int .i64 k ∧ Hid (wr.ownsRow w.heap.size 36 8 o k (mflat z k)) ∧ Hid (Below w.heap.size w wr)) (fun _ i _ => 4 - (intOf i).toNat)
  case atStart => exact ⟨0, by omega, by omega, rfl, HO.out, Below.refl _ _⟩
  case round =>
    clear HO
    rename_i o _
    obtain ⟨k, hk, hk4, rfl, HO, HB⟩ := hrel
    by_cases hlt : k < n ∧ k < 4
    · obtain ⟨hlt, hl4⟩ := hlt
      have hd4 : decide ((k : Int) < 4) = true := by simp; omega
      obtain ⟨b1, off, rfl, c⟩ := (HP.out.below HB.out).at hlt
      obtain ⟨c0, c1, c2, _, _, _, _, _⟩ := c
      have hbd := mz_bd z k
      have hle := mz_le z k
      obtain ⟨hl1, hl2, hl3⟩ := hle
      have B0 := Lib.hid (fun w => bring_bn (z k 0) 64 w (by decide) (by decide))
      have B1 := Lib.hid (fun w => bring_bn (z k 1) (mP z k) w hbd.1 hl1)
      have B2 := Lib.hid (fun w => bring_bn (z k 2) (mD z k) w hbd.2.2.1 hl2)
      have hr : mrow z k = [.int .i64 (mP z k), .int .i64 (mD z k), .int .i64 (mB z k), .int .i64 0, .int .i64 0, .int .i64 0, .int .i64 0, .int .i64 0] := rfl
      have HF : Hid (mflat z (k + 1) = mflat z k ++ mrow z k) := rfl
      rw [hr] at HF
      have e1 : (1 : Int) + (bn (z k 0) 64 : Nat) = (mP z k : Int) := mP_int z k
      have e2 : (1 : Int) + (bn (z k 1) (mP z k) : Nat) = (mD z k : Int) := mD_int z k
      have e3 : (1 : Int) + (bn (z k 2) (mD z k) : Nat) = (mB z k : Int) := mB_int z k
      generalize z k 0 = z0 at *
      generalize z k 1 = z1 at *
      generalize z k 2 = z2 at *
      generalize mP z k = P at *
      generalize mD z k = D at *
      generalize mB z k = B at *
      generalize bn z0 64 = q0 at *
      generalize bn z1 P = q1 at *
      generalize bn z2 D = q2 at *
      have w1 : wrap64 ((1 : Int) + q0) = P := by rw [e1]; exact wrap_nat hl1
      have w2 : wrap64 ((1 : Int) + q1) = D := by rw [e2]; exact wrap_nat hl2
      have w3 : wrap64 ((1 : Int) + q2) = B := by rw [e3]; exact wrap_nat hl3
      clear e1 e2 e3 hr hbd hl1 hl2 hl3
      go_wp2_with fail
      refine (B0.out _).mono ?_
      rintro e w' ⟨rfl, rfl⟩
      go_wp2_with fail
      refine (B1.out _).mono ?_
      rintro e w' ⟨rfl, rfl⟩
      go_wp2_with fail
      refine (B2.out _).mono ?_
      rintro e w' ⟨rfl, rfl⟩
      have Hm1 : Hid (k + 1 ≤ maxLen) := by unfold Hid maxLen; omega
      have Hm2 : Hid ((k + 1) * 64 ≤ 140737488355328) := by unfold Hid; omega
      have Hm3 : Hid (w.heap.size ≤ (wr.alloc (.cells #[.int .i64 P, .int .i64 D, .int .i64 B, .int .i64 0, .int .i64 0, .int .i64 0, .int .i64 0, .int .i64 0] 36)).heap.size) := by have := HB.out.size; unfold Hid; simp; omega
      go_wp2_with (at_builtin; refine wpList_append_own _ rfl _ _ 22 rfl w.heap.size 36 i0 (.agg #[.int .i64 0, .int .i64 0, .int .i64 0, .int .i64 0, .int .i64 0, .int .i64 0, .int .i64 0, .int .i64 0]) 8 64 Try.underlying22 HI.out.1 HI.out.2.1 HI.out.2.2.1 HI.out.2.2.2 rfl (by decide) _ k _ rfl (World.ownsRow.alloc HO.out _) ⟨wr.heap.size, 0, none⟩ 1 1 [.int .i64 P, .int .i64 D, .int .i64 B, .int .i64 0, .int .i64 0, .int .i64 0, .int .i64 0, .int .i64 0] rfl rfl (cells_eight _ _ _ _ _ _ _ _ _) (ones_eight _ _ _ _ _ _ _ _) Hm1.out Hm2.out Hm3.out ?_)
      intro v' w1' hown hgrow _
      have HO2 : Hid (w1'.ownsRow w.heap.size 36 8 v' (k + 1) (mflat z (k + 1))) := by rw [HF.out]; exact hown
      have HB2 : Hid (Below w.heap.size w w1') := Below.grown (HB.out.alloc HB.out.size _) hgrow Hm3.out (fun q hq => (HO.out.lt q hq).1)
      clear hown hgrow
      go_wp2_with fail
      go_roundw
      case rel => exact ⟨k + 1, by omega, by omega, by go_num, HO2, HB2⟩
      case measure => simp [intOf]; omega
    · have HT := Lib.hid (tk_of_own HO.out)
      obtain ⟨a', c', rfl, _, _⟩ := HT.out.slice
      by_cases h1 : k < n
      · have hd4 : decide ((k : Int) < 4) = false := by simp; omega
        go_wp2_with fail
        go_ret
        exact ⟨_, k, rfl, hk4, HT.out, HB.out⟩
      · obtain rfl : k = n := by omega
        go_wp2_with fail
        go_ret
        exact ⟨_, k, rfl, hk4, HT.out, HB.out⟩
end Go.Proofs.Ytdlhnkjghiphoaa
