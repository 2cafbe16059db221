/- TicksAll: the Lcm of several is divided by each, and no less number is; Sum is Add of all. -/
import Derived.Test.YtebgfemnfbfnpaaWalksH
import Derived.Test.YtebgfemnfbfnpaaPlainB
namespace Go.Proofs.Ytebgfemnfbfnpaa
open Go.RowKit Tk
set_option linter.unusedVariables false

/-- one more round of the first loop: what the append leaves -/
theorem grown_one {w1 : World} {B : Nat} {v' : Value} {j : Nat} {l : List Int} {x : Int} (hlen : j < l.length) (hx : l[j]? = some x) (h : w1.ownsRow B 3 1 v' (j + 1) ((l.take j).map (Value.int .i64) ++ [.int .i64 x])) :
    w1.ownsRow B 3 1 v' (j + 1) ((l.take (j + 1)).map (Value.int .i64)) ∧ ∃ g c, v' = .slice (some ⟨g, 0, none⟩) (j + 1) c ∧ w1.cell? ⟨g, j, none⟩ = some (.int .i64 x) := by
  have e : (l.take (j + 1)).map (Value.int .i64) = (l.take j).map (Value.int .i64) ++ [.int .i64 x] := by rw [take_snoc l j x hx]; simp
  rw [e]
  refine ⟨h, ?_⟩
  rcases h.2 with ⟨_, h0⟩ | ⟨g, c, cur, hv, _⟩
  · omega
  · refine ⟨g, c, hv, ?_⟩
    have := h.cells (g := g) (by rw [hv]; rfl) j (.int .i64 x) (by
      have el : ((l.take j).map (Value.int .i64)).length = j := by simp; omega
      rw [List.getElem?_append_right (by omega), el]; simp)
    rw [Addr.add_lit] at this
    simpa using this

theorem lcm_fit (limit : Int) (a : Option Addr) (cap n : Nat) (zs : List Int) (r e : Int) (w : World) (hn : n = zs.length) (hl : n ≤ 9223372036854775807) (hr : Row w a zs) (h : lcmR limit zs = (r, e)) :
    Calls Try.prog 22 #[.int .i64 limit, .slice a n cap] w (TwoB r e w) := by
  have k := lcm_any limit a cap n zs w hn hl hr
  rw [h] at k; exact k
theorem sum_fit (a : Option Addr) (cap n : Nat) (zs : List Int) (r e : Int) (w : World) (hn : n = zs.length) (hl : n ≤ 9223372036854775807) (hr : Row w a zs) (h : sumR zs = (r, e)) :
    Calls Try.prog 24 #[.slice a n cap] w (TwoB r e w) := by
  have k := sum_any a cap n zs w hn hl hr
  rw [h] at k; exact k

set_option maxRecDepth 100000 in
set_option maxHeartbeats 2000000 in
theorem all_some (b off cap n : Nat) (zs : List Int) (w : World) (hn : n = zs.length) (hl : n ≤ 9223372036854775807) (hw : ∀ i, -9223372036854775808 ≤ zs.getD i 0) (hc : ∀ i, i < zs.length → w.cell? ⟨b, off + i, none⟩ = some (.int .i64 (zs.getD i 0))) :
    Calls Try.prog 7 #[.slice (some ⟨b, off, none⟩) n cap] w (TrueB w) := by
  obtain ⟨i0, hi, hz0, hz1, hz2⟩ := info_parts info3
  have HN := Lib.hid hn; clear hn
  have HW := Lib.hid hw; clear hw
  have HC := Lib.hid hc; clear hc
  have HI := Lib.hid (⟨hi, hz0, hz1, hz2⟩ : _ ∧ _ ∧ _ ∧ _)
  clear hi hz0 hz1 hz2
  have H0 := Lib.hid (World.ownsRow_nil w w.heap.size 3 1)
  go_enter Try.func7, Try.ntmps7
  go_wp2
  go_loopw [3, 4, 5] (fun v s i wr => ∃ (j : Nat) (t : Int), j ≤ n ∧ j ≤ 10 ∧ i = .int .i64 j ∧ s = .int .i64 t ∧ 0 ≤ t ∧ t ≤ 12 * (j : Int) ∧ Hid (t = sumL ((ks zs).take j)) ∧ Hid (wr.ownsRow w.heap.size 3 1 v j (((ks zs).take j).map (Value.int .i64))) ∧ Below w.heap.size w wr) (fun _ _ i _ => n - (intOf i).toNat)
  case atStart => exact ⟨0, 0, Nat.zero_le _, Nat.zero_le _, rfl, rfl, by omega, by omega, rfl, H0, Below.refl _ _⟩
  case round =>
    clear H0
    obtain ⟨j, t, hj, hj', rfl, rfl, ht0, ht1, HS, HO, HB⟩ := hrel
    by_cases hlt : j < n ∧ j < 10
    · obtain ⟨h1, h2⟩ := hlt
      have hjz : j < zs.length := by have := HN.out; omega
      have hcell := (HB.cell (p := ⟨b, off + j, none⟩) (lt_of_cell (HC.out j hjz))).trans (HC.out j hjz)
      have HX := Lib.hid (ks_at zs j hjz h2)
      have HLO := Lib.hid (HW.out j)
      have HJL : Hid (j < (ks zs).length) := by rw [Hid, ks_len]; omega
      clear hjz
      generalize zs.getD j 0 = z at *
      go_wp2_with fail
      refine (bring_any z 12 _ HLO.out (by omega) (by omega)).mono ?_
      rintro e w0 ⟨rfl, rfl⟩
      have hx0 : 0 ≤ z % 12 := Int.emod_nonneg _ (by omega)
      have hx1 : z % 12 ≤ 11 := by have := Int.emod_lt_of_pos z (by omega : (0 : Int) < 12); omega
      go_wp2_with (at_builtin; refine wpList_append_own _ rfl _ _ 28 rfl w.heap.size 3 i0 (.int .i64 0) 1 8 Try.underlying28 HI.out.1 HI.out.2.1 HI.out.2.2.1 HI.out.2.2.2 rfl (by decide) _ j _ rfl (HO.out.alloc _) ⟨wr.heap.size, 0, none⟩ 1 1 [.int .i64 (1 + z % 12)] rfl rfl ?c1 ?c2 ?c3 ?c4 ?c5 ?_)
      case c1 => exact cell_one_new _ _ _
      case c2 => intro u hu; simp at hu; subst hu; rfl
      case c3 => unfold maxLen; omega
      case c4 => omega
      case c5 => have := HB.size; simp; omega
      intro v' w1 hown hgrow _
      rw [← List.map_take] at hown
      obtain ⟨hown2, g, c, hv, hcell2⟩ := grown_one HJL.out HX.out hown
      have hb1 : Below w.heap.size w w1 := (HB.alloc HB.size _).grown hgrow (by have := HB.size; simp; omega) (fun k hk => by
        rcases HO.out.2 with ⟨h0, _⟩ | ⟨g', c', cur, h0, hg, _⟩ <;> rw [h0] at hk <;> simp [Value.ownBlock] at hk
        omega)
      rw [show small z = 1 + z % 12 from rfl] at hcell2
      have HO2 := Lib.hid hown2
      have HS2 : Hid (t + (1 + z % 12) = sumL ((ks zs).take (j + 1))) := by rw [Hid, take_snoc _ j _ HX.out, sumL_snoc, ← HS.out]; rfl
      clear hown hown2 hgrow HS HO HB hcell HX HLO
      rw [hv] at HO2 ⊢
      clear hv
      go_wp2
      go_roundw
      case rel => exact ⟨j + 1, _, by omega, by omega, by go_num, rfl, by omega, by omega, HS2, HO2, hb1⟩
      case measure => simp [intOf]; omega
    · have HL : Hid (j = (ks zs).length) := by rw [Hid, ks_len]; have := HN.out; omega
      have HSA : Hid (sumL (ks zs) = t) := by have := HS.out; rw [List.take_of_length_le (by have := HL.out; omega)] at this; exact this.symm
      have HOA : Hid (wr.ownsRow w.heap.size 3 1 u3 j ((ks zs).map (Value.int .i64))) := by have := HO.out; rw [List.take_of_length_le (by have := HL.out; omega)] at this; exact this
      obtain ⟨N, n1, n2, L1, S1, L2, D⟩ := small_facts (ks zs) (ks_bd zs) (by have := HL.out; omega)
      rw [HSA.out] at S1
      have HL1 := Lib.hid L1; have HS1 := Lib.hid S1; have HL2 := Lib.hid L2; have HD := Lib.hid D
      clear L1 S1 L2 D HS HO
      obtain ⟨a', c', hv, hr, _⟩ := rowed_of HL.out HOA.out
      have HR := Lib.hid hr
      rw [hv]
      clear hv hr HOA
      have hN1 : decide (N < 1) = false := by simp; omega
      obtain ⟨M, hmin, hM1, hM2, hM3⟩ : ∃ M : Int, (if 4096 < N then (4096 : Int) else N) = M ∧ 1 ≤ M ∧ M ≤ 4096 ∧ M ≤ N := by
        by_cases h : 4096 < N
        · exact ⟨4096, by rw [if_pos h], by omega, by omega, by omega⟩
        · exact ⟨N, by rw [if_neg h], by omega, by omega, by omega⟩
      have hexit : (decide (j < n) = false) ∨ (j < n ∧ ¬ j < 10) := by
        by_cases h : j < n
        · exact Or.inr ⟨h, fun h' => hlt ⟨h, h'⟩⟩
        · exact Or.inl (by simp; omega)
      clear hlt
      rcases hexit with hx | ⟨hx, hx2⟩
      · go_wp2_with fail
        refine (lcm_fit 1099511627776 _ _ _ (ks zs) N 0 _ HL.out (by omega) HR.out HL1.out).mono ?_
        rintro e w2 ⟨rfl, hb2⟩
        have HR2 := Lib.hid (HR.out.below hb2)
        have hs2 : Below w.heap.size w w2 := chain HB hb2
        clear hb2 HR HB
        go_wp2_with fail
        refine (sum_fit _ _ _ (ks zs) t 0 _ HL.out (by omega) HR2.out HS1.out).mono ?_
        rintro e w3 ⟨rfl, hb3⟩
        have HR3 := Lib.hid (HR2.out.below hb3)
        have hs3 : Below w.heap.size w w3 := chain hs2 hb3
        clear hb3 HR2 hs2
        rcases HR3.out with hnil | ⟨g, o, rfl, hcells⟩
        · obtain rfl : j = 0 := by have := HL.out; rw [hnil] at this; simpa using this
          clear hnil
          go_wp2
          go_loop [10] (fun u => ∃ m : Int, 1 ≤ m ∧ m ≤ M + 1 ∧ u = .int .i64 m) (fun u => 30000 - (intOf u).toNat)
          case atStart => exact ⟨1, by omega, by omega, rfl⟩
          case round =>
            obtain ⟨m, hm1, hm2, rfl⟩ := hrel
            by_cases hc : m ≤ M
            · have hmN : m ≤ N := by omega
              go_wp2
              go_loop [11, 12] (fun u v => ∃ (i : Nat) (bb : Bool), i ≤ 0 ∧ v = .int .i64 i ∧ u = .bool bb ∧ Hid (bb = divs m ((ks zs).take i))) (fun _ v => 0 - (intOf v).toNat)
              case atStart => exact ⟨0, true, Nat.zero_le _, rfl, rfl, rfl⟩
              case round =>
                obtain ⟨i, bb, hij, rfl, rfl, HBB⟩ := hrel
                by_cases hlt : i < 0
                · exact absurd hlt (by omega)
                · have HE : Hid (bb = decide (m = N)) := by
                    have := HBB.out; rw [divs_all _ _ _ (by have := HL.out; omega), HD.out m hm1 hmN] at this; exact this
                  by_cases hmn : m = N
                  · obtain rfl : bb = true := by rw [HE.out]; simpa using hmn
                    have hmn' : (m == N) = true := by simpa using hmn
                    clear hmn HE HBB
                    go_wp2
                    go_round
                    case rel => exact ⟨m + 1, by omega, by omega, rfl⟩
                    case measure => simp [intOf]; omega
                  · obtain rfl : bb = false := by rw [HE.out]; simpa using hmn
                    have hmn' : (m == N) = false := by simpa using hmn
                    clear hmn HE HBB
                    go_wp2
                    go_round
                    case rel => exact ⟨m + 1, by omega, by omega, rfl⟩
                    case measure => simp [intOf]; omega
            · have hc' : M < m := by omega
              clear hc
              go_wp2_with fail
              refine (lcm_fit (N - 1) _ _ _ (ks zs) 0 10 _ HL.out (by omega) HR3.out HL2.out).mono ?_
              rintro e w4 ⟨rfl, hb4⟩
              have hs4 : Below w.heap.size w w4 := chain hs3 hb4
              clear hb4 hs3
              go_wp2_with fail
              refine (works_any _).mono ?_
              rintro e w5 ⟨rfl, hb5⟩
              have hs5 : Below w.heap.size w w5 := chain hs4 hb5
              clear hb5 hs4
              go_wp2_with fail
              go_ret
              exact ⟨rfl, hs5⟩
        · have HCE := Lib.hid hcells
          clear hcells
          go_wp2
          go_loop [10] (fun u => ∃ m : Int, 1 ≤ m ∧ m ≤ M + 1 ∧ u = .int .i64 m) (fun u => 30000 - (intOf u).toNat)
          case atStart => exact ⟨1, by omega, by omega, rfl⟩
          case round =>
            obtain ⟨m, hm1, hm2, rfl⟩ := hrel
            by_cases hc : m ≤ M
            · have hmN : m ≤ N := by omega
              go_wp2
              go_loop [11, 12] (fun u v => ∃ (i : Nat) (bb : Bool), i ≤ j ∧ v = .int .i64 i ∧ u = .bool bb ∧ Hid (bb = divs m ((ks zs).take i))) (fun _ v => j - (intOf v).toNat)
              case atStart => exact ⟨0, true, Nat.zero_le _, rfl, rfl, rfl⟩
              case round =>
                obtain ⟨i, bb, hij, rfl, rfl, HBB⟩ := hrel
                by_cases hlt : i < j
                · have hcell := HCE.out i (by have := HL.out; omega)
                  obtain ⟨x, hx⟩ : ∃ x, (ks zs)[i]? = some x := ⟨_, List.getElem?_eq_getElem (by have := HL.out; omega)⟩
                  have hbd := ks_bd zs x (List.mem_of_getElem? hx)
                  obtain ⟨hb1, hb2⟩ := hbd
                  have HST := Lib.hid (divs_step m _ i x hx)
                  rw [show (ks zs).getD i 0 = x from by simp [List.getD, hx]] at hcell
                  clear hx
                  have hx0 : (x == 0) = false := by simp; omega
                  cases bb with
                  | false =>
                    have HN2 : Hid (false = divs m ((ks zs).take (i + 1))) := by rw [Hid, HST.out, ← HBB.out]; rfl
                    clear HBB HST
                    go_wp2
                    go_round
                    case rel => exact ⟨i + 1, false, by omega, by go_num, rfl, HN2⟩
                    case measure => simp [intOf]; omega
                  | true =>
                    cases hq : (m % x == 0) with
                    | false =>
                      have HN2 : Hid (false = divs m ((ks zs).take (i + 1))) := by rw [Hid, HST.out, ← HBB.out, hq]; rfl
                      clear HBB HST
                      go_wp2
                      go_round
                      case rel => exact ⟨i + 1, false, by omega, by go_num, rfl, HN2⟩
                      case measure => simp [intOf]; omega
                    | true =>
                      have HN2 : Hid (true = divs m ((ks zs).take (i + 1))) := by rw [Hid, HST.out, ← HBB.out, hq]; rfl
                      clear HBB HST
                      go_wp2
                      go_round
                      case rel => exact ⟨i + 1, true, by omega, by go_num, rfl, HN2⟩
                      case measure => simp [intOf]; omega
                · have HE : Hid (bb = decide (m = N)) := by
                    have := HBB.out; rw [divs_all _ _ _ (by have := HL.out; omega), HD.out m hm1 hmN] at this; exact this
                  by_cases hmn : m = N
                  · obtain rfl : bb = true := by rw [HE.out]; simpa using hmn
                    have hmn' : (m == N) = true := by simpa using hmn
                    clear hmn HE HBB
                    go_wp2
                    go_round
                    case rel => exact ⟨m + 1, by omega, by omega, rfl⟩
                    case measure => simp [intOf]; omega
                  · obtain rfl : bb = false := by rw [HE.out]; simpa using hmn
                    have hmn' : (m == N) = false := by simpa using hmn
                    clear hmn HE HBB
                    go_wp2
                    go_round
                    case rel => exact ⟨m + 1, by omega, by omega, rfl⟩
                    case measure => simp [intOf]; omega
            · have hc' : M < m := by omega
              clear hc
              go_wp2_with fail
              refine (lcm_fit (N - 1) _ _ _ (ks zs) 0 10 _ HL.out (by omega) HR3.out HL2.out).mono ?_
              rintro e w4 ⟨rfl, hb4⟩
              have hs4 : Below w.heap.size w w4 := chain hs3 hb4
              clear hb4 hs3
              go_wp2_with fail
              refine (works_any _).mono ?_
              rintro e w5 ⟨rfl, hb5⟩
              have hs5 : Below w.heap.size w w5 := chain hs4 hb5
              clear hb5 hs4
              go_wp2_with fail
              go_ret
              exact ⟨rfl, hs5⟩
      · obtain rfl : j = 10 := by omega
        clear hx2
        go_wp2_with fail
        refine (lcm_fit 1099511627776 _ _ _ (ks zs) N 0 _ HL.out (by omega) HR.out HL1.out).mono ?_
        rintro e w2 ⟨rfl, hb2⟩
        have HR2 := Lib.hid (HR.out.below hb2)
        have hs2 : Below w.heap.size w w2 := chain HB hb2
        clear hb2 HR HB
        go_wp2_with fail
        refine (sum_fit _ _ _ (ks zs) t 0 _ HL.out (by omega) HR2.out HS1.out).mono ?_
        rintro e w3 ⟨rfl, hb3⟩
        have HR3 := Lib.hid (HR2.out.below hb3)
        have hs3 : Below w.heap.size w w3 := chain hs2 hb3
        clear hb3 HR2 hs2
        rcases HR3.out with hnil | ⟨g, o, rfl, hcells⟩
        · exact absurd HL.out (by rw [hnil]; decide)
        · have HCE := Lib.hid hcells
          clear hcells
          go_wp2
          go_loop [10] (fun u => ∃ m : Int, 1 ≤ m ∧ m ≤ M + 1 ∧ u = .int .i64 m) (fun u => 30000 - (intOf u).toNat)
          case atStart => exact ⟨1, by omega, by omega, rfl⟩
          case round =>
            obtain ⟨m, hm1, hm2, rfl⟩ := hrel
            by_cases hc : m ≤ M
            · have hmN : m ≤ N := by omega
              go_wp2
              go_loop [11, 12] (fun u v => ∃ (i : Nat) (bb : Bool), i ≤ 10 ∧ v = .int .i64 i ∧ u = .bool bb ∧ Hid (bb = divs m ((ks zs).take i))) (fun _ v => 10 - (intOf v).toNat)
              case atStart => exact ⟨0, true, Nat.zero_le _, rfl, rfl, rfl⟩
              case round =>
                obtain ⟨i, bb, hij, rfl, rfl, HBB⟩ := hrel
                by_cases hlt : i < 10
                · have hcell := HCE.out i (by have := HL.out; omega)
                  obtain ⟨x, hx⟩ : ∃ x, (ks zs)[i]? = some x := ⟨_, List.getElem?_eq_getElem (by have := HL.out; omega)⟩
                  have hbd := ks_bd zs x (List.mem_of_getElem? hx)
                  obtain ⟨hb1, hb2⟩ := hbd
                  have HST := Lib.hid (divs_step m _ i x hx)
                  rw [show (ks zs).getD i 0 = x from by simp [List.getD, hx]] at hcell
                  clear hx
                  have hx0 : (x == 0) = false := by simp; omega
                  cases bb with
                  | false =>
                    have HN2 : Hid (false = divs m ((ks zs).take (i + 1))) := by rw [Hid, HST.out, ← HBB.out]; rfl
                    clear HBB HST
                    go_wp2
                    go_round
                    case rel => exact ⟨i + 1, false, by omega, by go_num, rfl, HN2⟩
                    case measure => simp [intOf]; omega
                  | true =>
                    cases hq : (m % x == 0) with
                    | false =>
                      have HN2 : Hid (false = divs m ((ks zs).take (i + 1))) := by rw [Hid, HST.out, ← HBB.out, hq]; rfl
                      clear HBB HST
                      go_wp2
                      go_round
                      case rel => exact ⟨i + 1, false, by omega, by go_num, rfl, HN2⟩
                      case measure => simp [intOf]; omega
                    | true =>
                      have HN2 : Hid (true = divs m ((ks zs).take (i + 1))) := by rw [Hid, HST.out, ← HBB.out, hq]; rfl
                      clear HBB HST
                      go_wp2
                      go_round
                      case rel => exact ⟨i + 1, true, by omega, by go_num, rfl, HN2⟩
                      case measure => simp [intOf]; omega
                · have HE : Hid (bb = decide (m = N)) := by
                    have := HBB.out; rw [divs_all _ _ _ (by have := HL.out; omega), HD.out m hm1 hmN] at this; exact this
                  by_cases hmn : m = N
                  · obtain rfl : bb = true := by rw [HE.out]; simpa using hmn
                    have hmn' : (m == N) = true := by simpa using hmn
                    clear hmn HE HBB
                    go_wp2
                    go_round
                    case rel => exact ⟨m + 1, by omega, by omega, rfl⟩
                    case measure => simp [intOf]; omega
                  · obtain rfl : bb = false := by rw [HE.out]; simpa using hmn
                    have hmn' : (m == N) = false := by simpa using hmn
                    clear hmn HE HBB
                    go_wp2
                    go_round
                    case rel => exact ⟨m + 1, by omega, by omega, rfl⟩
                    case measure => simp [intOf]; omega
            · have hc' : M < m := by omega
              clear hc
              go_wp2_with fail
              refine (lcm_fit (N - 1) _ _ _ (ks zs) 0 10 _ HL.out (by omega) HR3.out HL2.out).mono ?_
              rintro e w4 ⟨rfl, hb4⟩
              have hs4 : Below w.heap.size w w4 := chain hs3 hb4
              clear hb4 hs3
              go_wp2_with fail
              refine (works_any _).mono ?_
              rintro e w5 ⟨rfl, hb5⟩
              have hs5 : Below w.heap.size w w5 := chain hs4 hb5
              clear hb5 hs4
              go_wp2_with fail
              go_ret
              exact ⟨rfl, hs5⟩

set_option maxRecDepth 100000 in
set_option maxHeartbeats 2000000 in
theorem all_nil (a : Option Addr) (cap : Nat) (w : World) : Calls Try.prog 7 #[.slice a 0 cap] w (TrueB w) := by
  go_enter Try.func7, Try.ntmps7
  go_wp2
  go_loop [3, 4, 5] (fun v s i => v = .slice none 0 0 ∧ s = .int .i64 0 ∧ i = .int .i64 0) (fun _ _ _ => 0)
  case atStart => exact ⟨rfl, rfl, rfl⟩
  case round =>
    obtain ⟨rfl, rfl, rfl⟩ := hrel
    go_wp2_with fail
    refine (lcm_fit 1099511627776 _ _ _ [] 1 0 _ rfl (by simp) (Or.inl rfl) (by decide)).mono ?_
    rintro e w2 ⟨rfl, hs2⟩
    go_wp2_with fail
    refine (sum_fit _ _ _ [] 0 0 _ rfl (by simp) (Or.inl rfl) (by decide)).mono ?_
    rintro e w3 ⟨rfl, hb3⟩
    have hs3 : Below w.heap.size w w3 := chain hs2 hb3
    clear hb3 hs2
    go_wp2
    go_loop [10] (fun u => ∃ m : Int, 1 ≤ m ∧ m ≤ 2 ∧ u = .int .i64 m) (fun u => 30000 - (intOf u).toNat)
    case atStart => exact ⟨1, by omega, by omega, rfl⟩
    case round =>
      obtain ⟨m, hm1, hm2, rfl⟩ := hrel
      by_cases hc : m = 1
      · subst hc
        go_wp2
        go_loop [11, 12] (fun u v => v = .int .i64 0 ∧ u = .bool true) (fun _ _ => 0)
        case atStart => exact ⟨rfl, rfl⟩
        case round =>
          obtain ⟨rfl, rfl⟩ := hrel
          go_wp2
          go_round
          case rel => exact ⟨2, by omega, by omega, rfl⟩
          case measure => simp [intOf]
      · obtain rfl : m = 2 := by omega
        clear hc
        go_wp2_with fail
        refine (lcm_fit 0 _ _ _ [] 0 10 _ rfl (by simp) (Or.inl rfl) (by decide)).mono ?_
        rintro e w4 ⟨rfl, hb4⟩
        have hs4 : Below w.heap.size w w4 := chain hs3 hb4
        clear hb4 hs3
        go_wp2_with fail
        refine (works_any _).mono ?_
        rintro e w5 ⟨rfl, hb5⟩
        have hs5 : Below w.heap.size w w5 := chain hs4 hb5
        clear hb5 hs4
        go_wp2_with fail
        go_ret
        exact ⟨rfl, hs5⟩

theorem all_law (a : Option Addr) (cap n : Nat) (zs : List Int) (w : World) (hn : n = zs.length) (hl : n ≤ 9223372036854775807) (hr : Row w a zs) (hw : ∀ i, -9223372036854775808 ≤ zs.getD i 0) : Calls Try.prog 7 #[.slice a n cap] w (TrueB w) := by
  rcases hr with rfl | ⟨b, off, rfl, hc⟩
  · obtain rfl : n = 0 := by simpa using hn
    exact all_nil a cap w
  · exact all_some b off cap n zs w hn hl hw hc

end Go.Proofs.Ytebgfemnfbfnpaa
