/- Put and PutText are the document's. -/
import Derived.Test.YtpdniickflenoaaPackG
namespace Go.Proofs.Ytpdniickflenoaa
open Go.RowKit Pk
set_option linter.unusedVariables false

/-- what Put answers -/
def putX (b l : List Int) : List Int := if l.all isN = true then b ++ nums l else []
def putE (l : List Int) : Int := if l.all isN = true then 0 else 2
def txtX (b : List Int) (s : ByteArray) : List Int := if s.size ≤ 65536 then b ++ (num s.size ++ txt s) else []
def txtE (s : ByteArray) : Int := if s.size ≤ 65536 then 0 else 5
theorem PutP.uni {xs l : List Int} {w w' : World} {e : Ending} (h : PutP xs l w e w') : ∃ v, e = .returned (.tuple #[v, .int .i64 (putE l)]) ∧ Ow w' w.heap.size v (putX xs l) ∧ Below w.heap.size w w' := by
  unfold putX putE
  obtain ⟨hb, ⟨h0, v, h1, h2⟩ | ⟨h0, h1⟩⟩ := h
  · rw [if_pos h0, if_pos h0]; exact ⟨v, h1, h2, hb⟩
  · rw [if_neg (by rw [h0]; decide), if_neg (by rw [h0]; decide)]; exact ⟨_, h1, Ow.nil _ _, hb⟩
theorem TxtP.uni {xs : List Int} {s : ByteArray} {w w' : World} {e : Ending} (h : TxtP xs s w e w') : ∃ v, e = .returned (.tuple #[v, .int .i64 (txtE s)]) ∧ Ow w' w.heap.size v (txtX xs s) ∧ Below w.heap.size w w' := by
  unfold txtX txtE
  obtain ⟨hb, ⟨h0, v, h1, h2⟩ | ⟨h0, h1⟩⟩ := h
  · rw [if_pos h0, if_pos h0]; exact ⟨v, h1, h2, hb⟩
  · rw [if_neg (by omega), if_neg (by omega)]; exact ⟨_, h1, Ow.nil _ _, hb⟩
theorem step_less {k n : Nat} (h : wrap64 ((k : Int) + 1) = ((k + 1 : Nat) : Int)) (hk : k < n) : n - (intOf (.int .i64 (wrap64 ((k : Int) + 1)))).toNat < n - (intOf (.int .i64 (k : Int))).toNat := by
  rw [h]; simp only [intOf, Int.toNat_natCast]; omega
theorem Ow.form {w : World} {B : Nat} {v : Value} {xs : List Int} (h : Ow w B v xs) (hp : 0 < xs.length) : ∃ g cap, v = .slice (some ⟨g, 0, none⟩) xs.length cap ∧ B ≤ g ∧ xs.length ≤ cap ∧ cap ≤ maxLen := by
  rcases h.2 with ⟨_, h'⟩ | ⟨g, cap, cur, h', hb, _, h1, h2, _⟩
  · omega
  · exact ⟨g, cap, h', hb, h1, h2⟩

set_option maxRecDepth 100000 in
set_option maxHeartbeats 4000000 in
theorem puts_law {w : World} {x u : Value} {b l : List Int} (s : ByteArray) (hv : BS w x b) (hu : IS w u l) (hsz : b.length + l.length + s.size ≤ 1048576) : Calls Try.prog 3 #[x, u, .string s] w (TrueB w) := by
  have HV := Lib.hid hv; have HU := Lib.hid hu; have HSZ := Lib.hid hsz
  have H1 := Lib.hid (copy_any hv (by omega))
  obtain ⟨av, cv, rfl, p1, p2, _⟩ := hv
  obtain ⟨au, cu, rfl, q1, q2, _⟩ := hu
  generalize hbl : b.length = bl at *
  generalize hll : l.length = ll at *
  have HBL := Lib.hid hbl; have HLL := Lib.hid hll
  clear hbl hll
  go_enter Try.func3, Try.ntmps3
  go_wp2_with fail
  refine H1.out.mono ?_
  rintro e w1 ⟨vi, rfl, ho1, hb1⟩
  have HO1 := Lib.hid ho1; have HB1 := Lib.hid hb1
  have H2 := Lib.hid (put_any ho1.bs (HU.out.below hb1) (by have := HSZ.out; have := HBL.out; have := HLL.out; omega))
  clear ho1 hb1 H1
  go_wp2_with fail
  refine H2.out.mono ?_
  intro e w2 hp
  obtain ⟨v1, rfl, ho2, hb2⟩ := hp.uni
  have HO2 := Lib.hid ho2; have HB2 := Lib.hid hb2
  have HB2' := Lib.hid (chain HB1.out hb2)
  have H3 := Lib.hid (rput_any (HV.out.below HB2'.out) (HU.out.below HB2'.out) (by have := HSZ.out; have := HBL.out; have := HLL.out; omega))
  clear hp ho2 hb2 H2
  go_wp2_with fail
  refine H3.out.mono ?_
  intro e w3 hp
  obtain ⟨v2, rfl, ho3, hb3⟩ := hp.uni
  have HO3 := Lib.hid ho3; have HB3 := Lib.hid (chain HB2.out hb3)
  have HX3 := Lib.hid (HO2.out.below hb3)
  have HB3' := Lib.hid (chain HB1.out HB3.out)
  have H4 := Lib.hid (putText_any s (HO1.out.bs.below HB3.out) (by have := HSZ.out; have := HBL.out; have := HLL.out; omega))
  clear hp ho3 hb3 H3 HB2 HB2' HO2
  go_wp2_with fail
  refine H4.out.mono ?_
  intro e w4 hp
  obtain ⟨v3, rfl, ho4, hb4⟩ := hp.uni
  have HO4 := Lib.hid ho4; have HB4 := Lib.hid (chain HB3.out hb4)
  have HX4 := Lib.hid (HX3.out.below hb4); have HY4 := Lib.hid (HO3.out.bs.below hb4)
  have HB4' := Lib.hid (chain HB1.out HB4.out)
  have H5 := Lib.hid (rputText_any s (HV.out.below HB4'.out) (by have := HSZ.out; have := HBL.out; have := HLL.out; omega))
  clear hp ho4 hb4 H4 HB3 HB3' HX3 HO3
  go_wp2_with fail
  refine H5.out.mono ?_
  intro e w5 hp
  obtain ⟨v4, rfl, ho5, hb5⟩ := hp.uni
  have HB5 := Lib.hid (chain HB4.out hb5)
  have HX5 := Lib.hid (HX4.out.below hb5); have HY5 := Lib.hid (HY4.out.below hb5)
  have HE1 := Lib.hid (eq_any HX5.out.bs HY5.out); have HE2 := Lib.hid (eq_any (HO4.out.bs.below hb5) ho5.bs)
  obtain ⟨a1, c1, rfl⟩ := HX5.out.slice
  obtain ⟨n, hn⟩ : ∃ n, n = (putX b l).length := ⟨_, rfl⟩
  rw [← hn] at HE1 HX5 ⊢
  have HN := Lib.hid hn
  have hnm : Hid (n ≤ maxLen) := by rw [hn]; exact HX5.out.bs.len
  clear hp ho5 hb5 H5 HB4 HB4' HX4 HY4 HO4 hn
  go_wp2_with fail
  refine HE1.out.mono ?_
  rintro e w6 ⟨rfl, rfl⟩
  go_wp2_with fail
  refine HE2.out.mono ?_
  rintro e w6 ⟨rfl, rfl⟩
  go_wp2_with fail
  go_loopw [16] (fun i wr => ∃ (k : Nat) (X : List Int), k ≤ n ∧ i = .int .i64 k ∧ Hid (X.length = n) ∧ Hid (Ow wr w1.heap.size (.slice a1 n c1) X) ∧ Hid (Below w1.heap.size w1 wr)) (fun i _ => n - (intOf i).toNat)
  case atStart => exact ⟨0, putX b l, by omega, rfl, HN.out.symm, HX5, HB5⟩
  case round =>
    obtain ⟨k, X, hk, rfl, HXL, HX, HB⟩ := hrel
    by_cases hkn : k < n
    · obtain ⟨g, cap, he, hg1, hg2, hg3⟩ := HX.out.form (by have := HXL.out; omega)
      obtain ⟨rfl, hnn, rfl⟩ : a1 = some ⟨g, 0, none⟩ ∧ n = X.length ∧ c1 = cap := by simpa using he
      have hrow : wr.ownsRow w1.heap.size 5 1 (.slice (some ⟨g, 0, none⟩) n c1) n (X.map (Value.int .u8)) := ow_to HX.out HXL.out.symm
      have hc : wr.cell? ⟨g, k, none⟩ = some (.int .u8 (X.getD k 0)) := by
        rw [hrow.cellAt k (by omega)]
        simp [List.getElem?_eq_getElem (show k < X.length by have := HXL.out; omega), List.getD]
      have hf : wr.frozen? ⟨g, k, none⟩ = false := hrow.frozenAt k
      have hc' : wr.cell? ⟨g, 0 + k, none⟩ = some (.int .u8 (X.getD k 0)) := by rw [Nat.zero_add]; exact hc
      have hf' : wr.frozen? ⟨g, 0 + k, none⟩ = false := by rw [Nat.zero_add]; exact hf
      obtain ⟨y, hy⟩ : ∃ y, y = X.getD k 0 := ⟨_, rfl⟩
      rw [← hy] at hc hc'
      have HROW := Lib.hid hrow
      have hnm2 : n ≤ 9223372036854775807 := by have := hnm.out; unfold maxLen at this; omega
      have HW1 : Hid (wrap64 ((k : Int) + 1) = ((k + 1 : Nat) : Int)) := by unfold Hid wrap64; omega
      clear hnm2
      obtain ⟨z, hz⟩ : ∃ z, bits BinOp.xor IntKind.u8 y 90 = z := ⟨_, rfl⟩
      have h3 := (hrow.stored k (.int .u8 z)).1
      have e3 : (X.map (Value.int .u8)).set k (.int .u8 z) = (X.set k z).map (Value.int .u8) := by rw [List.map_set]
      rw [e3] at h3
      have HXL2 : Hid ((X.set k z).length = n) := by have := HXL.out; unfold Hid; rw [List.length_set]; exact this
      have HX2 := Lib.hid (ow_of h3 HXL2.out.symm)
      have HB2 := Lib.hid (HB.out.setCell hg1 (p := ⟨g, k, none⟩) (.int .u8 z))
      clear hrow he hy HX hnn h3 e3
      go_wp2_with fail
      go_roundw
      case rel =>
        exact ⟨k + 1, X.set k z, by omega, by rw [HW1.out], HXL2, HX2, HB2⟩
      case measure => exact step_less HW1.out hkn
    · go_wp2_with fail
      have HIN := Lib.hid (eq_any (HO1.out.bs.below HB.out) ((HV.out.below HB1.out).below HB.out))
      refine HIN.out.mono ?_
      rintro e w6 ⟨rfl, rfl⟩
      have HW := Lib.hid (works_any wr)
      go_wp2_with fail
      refine HW.out.mono ?_
      rintro e w7 ⟨rfl, hb7⟩
      have HB7 := Lib.hid (chain (chain HB1.out HB.out) hb7)
      clear hb7
      go_wp2_with fail
      go_ret
      exact ⟨rfl, HB7.out⟩
end Go.Proofs.Ytpdniickflenoaa
