/- Servers are played: have they run for their whole budgets. -/
import Derived.Test.YtlifkclgflfnlaaShaA
import Derived.BigQuiet
import Derived.StillTailTactics
import Derived.RegionTactic
namespace Go.Proofs.Ytlifkclgflfnlaa.Sh
open Go.RowKit Tk De Dl Go.Proofs.Ytlifkclgflfnlaa.Lo Go.Proofs.Ytlifkclgflfnlaa.Ed Go.Proofs.Ytlifkclgflfnlaa.Su
set_option linter.unusedVariables false

/-- they share 1 at most; more than 1, by a common multiple -/
def Fits (n : Nat) (P B : Nat → Nat) : Prop := ∃ M, 0 < M ∧ (∀ i, i < n → P i ∣ M) ∧ sm (fun i => B i * (M / P i)) n ≤ M
def Over (n : Nat) (P B : Nat → Nat) (M : Nat) : Prop := (∀ i, i < n → P i ∣ M) ∧ M < sm (fun i => B i * (M / P i)) n
def KeptP (n : Nat) (P B b : Nat → Nat) (E : Nat) (w : World) (e : Ending) (w' : World) : Prop := ∃ r : Bool, e = .returned (.bool r) ∧ Below w.heap.size w w' ∧ (Fits n P B → r = true) ∧ ((∀ i, i < n → b i = 0) → ∀ M, M < E → Over n P B M → r = false)
theorem cell_other (w : World) {g o g' o' : Nat} (v : Value) (h : g ≠ g') : (w.setCell ⟨g', o', none⟩ v).cell? ⟨g, o, none⟩ = w.cell? ⟨g, o, none⟩ := by
  unfold World.cell?
  rw [Below.heap_setCell _ _ _ _ h]
theorem wr3 {x : Int} {c : Nat} (h : x = (c : Int)) (hc : c ≤ 1099511627776) : wrap64 x = (c : Int) ∧ IntKind.i64.wrap x = (c : Int) := by
  subst h
  exact ⟨(wr2 (by omega) (by omega)).2, (wr2 (by omega) (by omega)).1⟩
theorem fits_late {n : Nat} {P B b : Nat → Nat} {t i : Nat} {l e : Nat → Nat} (hP : ∀ i, i < n → 1 ≤ P i ∧ P i ≤ 64 ∧ 1 ≤ B i ∧ B i ≤ P i) (h : KM n P B b t i l e) (hi : i < n) (hb : b i ≤ t) (hm : (t - b i) % P i = 0) (hl : 0 < l i) (hf : Fits n P B) : False := by
  obtain ⟨M, hM, hd, hs⟩ := hf
  exact km_late hP hM hd hs h hi hb hm hl
set_option maxRecDepth 100000 in
set_option maxHeartbeats 16000000 in
theorem kept_any {w : World} {v vb : Value} {n : Nat} {P B b : Nat → Nat} (hs : SV w v n (fun i => (P i : Nat)) (fun i => (B i : Nat))) (hn : n ≤ 4) (hP : ∀ i, i < n → 1 ≤ P i ∧ P i ≤ 64 ∧ 1 ≤ B i ∧ B i ≤ P i)
    (hb : NV w vb n b) (hb2 : ∀ i, i < n → b i ≤ 1000) (E : Nat) (hE : E ≤ 100000) :
    Calls Try.prog 14 #[v, vb, .int .i64 E] w (KeptP n P B b E w) := by
  obtain ⟨a, cap, rfl, hn1, hn2⟩ := hs.slice
  obtain ⟨ab, cb, rfl, hc1, hc2⟩ := hb.slice
  have HS := Lib.hid hs; have HB0 := Lib.hid hb; have HPB := Lib.hid hP; have HB2 := Lib.hid hb2; have HE := Lib.hid hE
  have mixed : Try.prog.follows .mixedOrders = true := by kernel_rfl
  have hmk := run_make_row' (P := Try.prog) 29 3 (.int .i64 0) 8 Try.underlying29 infoIn rfl .i64 .i64 n (by omega) (by omega)
  clear hs hb hP hb2 hn1 hn2 hc1 hc2 hE
  go_enter Try.func14, Try.ntmps14
  go_wp2_with fail
  go_region
  focus
    have hB : Below w.heap.size w ((w.alloc (.cells (madeCells #[.int .i64 0] n) 3)).alloc (.cells (madeCells #[.int .i64 0] n) 3)).drew := (((Below.refl _ w).alloc (Nat.le_refl _) _).alloc (by simp) _).drew
    have hN0 : NS ((w.alloc (.cells (madeCells #[.int .i64 0] n) 3)).alloc (.cells (madeCells #[.int .i64 0] n) 3)).drew w.heap.size n (fun _ => 0) := ns_made ((Below.heap_alloc _ _ _ (by simp)).trans (heap_alloc_new w _))
    have hN1 : NS ((w.alloc (.cells (madeCells #[.int .i64 0] n) 3)).alloc (.cells (madeCells #[.int .i64 0] n) 3)).drew (w.heap.size + 1) n (fun _ => 0) := NS.drew (W := ((w.alloc (.cells (madeCells #[.int .i64 0] n) 3)).alloc (.cells (madeCells #[.int .i64 0] n) 3))) <| ns_made (by have := heap_alloc_new (w.alloc (.cells (madeCells #[.int .i64 0] n) 3)) (.cells (madeCells #[.int .i64 0] n) 3); simpa using this)
    obtain ⟨lb, hlb⟩ : ∃ lb, lb = w.heap.size := ⟨_, rfl⟩
    obtain ⟨eb, heb⟩ : ∃ eb, eb = w.heap.size + 1 := ⟨_, rfl⟩
    have HNL : Hid (NS ((w.alloc (.cells (madeCells #[.int .i64 0] n) 3)).alloc (.cells (madeCells #[.int .i64 0] n) 3)).drew lb n (fun _ => 0)) := by rw [hlb]; exact hN0
    have HNE : Hid (NS ((w.alloc (.cells (madeCells #[.int .i64 0] n) 3)).alloc (.cells (madeCells #[.int .i64 0] n) 3)).drew eb n (fun _ => 0)) := by rw [heb]; exact hN1
    have HBW := Lib.hid hB
    have HNQ : Hid (w.heap.size ≤ lb ∧ w.heap.size ≤ eb ∧ lb ≠ eb) := by unfold Hid; omega
    rw [← heb, ← hlb]
    clear hB hN0 hN1 hlb heb
  rotate_left
  focus
    have hB : Below w.heap.size w ((w.alloc (.cells (madeCells #[.int .i64 0] n) 3)).alloc (.cells (madeCells #[.int .i64 0] n) 3)).drew := (((Below.refl _ w).alloc (Nat.le_refl _) _).alloc (by simp) _).drew
    have hN0 : NS ((w.alloc (.cells (madeCells #[.int .i64 0] n) 3)).alloc (.cells (madeCells #[.int .i64 0] n) 3)).drew w.heap.size n (fun _ => 0) := ns_made ((Below.heap_alloc _ _ _ (by simp)).trans (heap_alloc_new w _))
    have hN1 : NS ((w.alloc (.cells (madeCells #[.int .i64 0] n) 3)).alloc (.cells (madeCells #[.int .i64 0] n) 3)).drew (w.heap.size + 1) n (fun _ => 0) := NS.drew (W := ((w.alloc (.cells (madeCells #[.int .i64 0] n) 3)).alloc (.cells (madeCells #[.int .i64 0] n) 3))) <| ns_made (by have := heap_alloc_new (w.alloc (.cells (madeCells #[.int .i64 0] n) 3)) (.cells (madeCells #[.int .i64 0] n) 3); simpa using this)
    obtain ⟨eb, heb⟩ : ∃ eb, eb = w.heap.size := ⟨_, rfl⟩
    obtain ⟨lb, hlb⟩ : ∃ lb, lb = w.heap.size + 1 := ⟨_, rfl⟩
    have HNL : Hid (NS ((w.alloc (.cells (madeCells #[.int .i64 0] n) 3)).alloc (.cells (madeCells #[.int .i64 0] n) 3)).drew lb n (fun _ => 0)) := by rw [hlb]; exact hN1
    have HNE : Hid (NS ((w.alloc (.cells (madeCells #[.int .i64 0] n) 3)).alloc (.cells (madeCells #[.int .i64 0] n) 3)).drew eb n (fun _ => 0)) := by rw [heb]; exact hN0
    have HBW := Lib.hid hB
    have HNQ : Hid (w.heap.size ≤ lb ∧ w.heap.size ≤ eb ∧ lb ≠ eb) := by unfold Hid; omega
    rw [← hlb, ← heb]
    clear hB hN0 hN1 hlb heb
  all_goals
    generalize ((w.alloc (.cells (madeCells #[.int .i64 0] n) 3)).alloc (.cells (madeCells #[.int .i64 0] n) 3)).drew = W1 at *
    have HN4 := Lib.hid hn
    have HP1 : Hid (∀ i, i < n → 1 ≤ P i) := fun i hi => (HPB.out i hi).1
    clear hmk hn
    go_wp2_with fail
    go_loopw [9] (fun tv W => ∃ (t : Nat) (l e : Nat → Nat), t ≤ E ∧ tv = .int .i64 t ∧ Hid (KM n P B b t 0 l e) ∧ Hid ((∀ i, i < n → b i = 0) → EI n B t l (fun i => cl (P i) t)) ∧ Hid ((∀ i, i < n → b i = 0) → ∀ M, Over n P B M → t ≤ M) ∧ Hid (NS W lb n l) ∧ Hid (NS W eb n e) ∧ Hid (Below w.heap.size w W)) (fun tv _ => E - (intOf tv).toNat)
    case atStart => exact ⟨0, _, _, Nat.zero_le _, rfl, km_start n P B b, fun _ => em_start n P B HP1.out, fun _ _ _ => Nat.zero_le _, HNL.out, HNE.out, HBW.out⟩
    case round =>
      clear HNL HNE HBW
      obtain ⟨t, l0, e0, ht, rfl, HK, HEI, HOV, HNL, HNE, HBW⟩ := hrel
      have hE := HE.out
      by_cases hlt : t < E
      · have hdt : decide ((t : Int) < E) = true := by simp; omega
        have hdt2 : decide (t < E) = true := by simp; omega
        go_wp2_with fail
        clear hdt hdt2
        obtain ⟨wo, rfl⟩ : ∃ wo, wo = wr := ⟨_, rfl⟩
        go_loopw [10, 11] (fun kv iv W => ∃ (i : Nat) (k : Int) (l e : Nat → Nat), i ≤ n ∧ iv = .int .i64 i ∧ kv = .int .i64 k ∧ Hid (KM n P B b t i l e) ∧ Hid ((∀ i, i < n → b i = 0) → EM n P B t i l l0) ∧ Hid (Near l e i k) ∧ Hid (NS W lb n l) ∧ Hid (NS W eb n e) ∧ Hid (Below w.heap.size w W)) (fun _ iv _ => n - (intOf iv).toNat)
        case atStart => exact ⟨0, -1, l0, e0, Nat.zero_le _, rfl, rfl, HK.out, fun h => em_of (HEI.out h), near_start _ _, HNL.out, HNE.out, HBW.out⟩
        case round =>
          clear HNL HNE HBW HK HEI
          obtain ⟨i, k, l, e, hi, rfl, rfl, HK, HEM, HNR, HNL, HNE, HBW⟩ := hrel
          have hn4 := HN4.out
          by_cases hin : i < n
          · obtain ⟨g, off, ta, tn, tc, rfl, c0, c1, _⟩ := (HS.out.below HBW.out).at hin
            have HGL : Hid (g < w.heap.size) := by obtain ⟨g', _, _, _, _, e', c', _⟩ := HS.out.at hin; injection e' with e'; injection e' with e' _ _; rw [e']; exact World.block_lt_of_cell? _ _ c'
            obtain ⟨gb, offb, rfl, d0⟩ := (HB0.out.below HBW.out).at hin
            obtain ⟨hp1, hp2, hp3, hp4⟩ := HPB.out i hin
            have hbi := HB2.out i hin
            have hiI : (i : Int) < n := by omega
            have hi0 : (0 : Int) ≤ i := by omega
            by_cases hbt : t < b i
            · have hd1 : decide ((t : Int) < (b i : Nat)) = true := by simp; omega
              have hd2 : decide (t < b i) = true := by simp; omega
              have HK2 := Lib.hid (km_same HK.out (nxt_ahead hbt))
              have HEM2 : Hid ((∀ i, i < n → b i = 0) → EM n P B t (i + 1) l l0) := fun h => by have := h i hin; omega
              have HN2 := Lib.hid (near_zero HNR.out (HK.out.nb i hin hbt))
              clear hbt
              generalize b i = bi at *
              go_wp2_with fail
              go_roundw
              case rel => exact ⟨i + 1, k, l, e, by omega, by go_num, rfl, HK2.out, HEM2.out, HN2.out, HNL.out, HNE.out, HBW.out⟩
              case measure => simp [intOf]; omega
            · have hd1 : decide ((t : Int) < (b i : Nat)) = false := by simp; omega
              have hd2 : decide (t < b i) = false := by simp; omega
              obtain ⟨d, hd⟩ : ∃ d, d = t - b i := ⟨_, rfl⟩
              have hdI : (t : Int) - (b i : Nat) = (d : Nat) := by omega
              obtain ⟨ws1, ws2⟩ := wr3 hdI (by omega)
              have hnz : (((P i : Nat) : Int) == 0) = false := by simp; omega
              have hnz2 : ¬ P i = 0 := by omega
              have hmod : (d : Int).tmod ((P i : Nat) : Int) = ((d % P i : Nat) : Int) := by rw [Int.tmod_eq_emod_of_nonneg (by omega)]; rfl
              have hml := Nat.mod_lt d (show 0 < P i by omega)
              have HBT : Hid (b i ≤ t) := by unfold Hid; omega
              have HBZ : Hid (b i = 0 → d = t) := fun h => by omega
              have HDD := Lib.hid hd
              clear hbt
              by_cases hm : d % P i = 0
              · rw [hm] at hmod
                have HM : Hid ((t - b i) % P i = 0) := by rw [← HDD.out]; exact hm
                have HM0 : Hid (b i = 0 → t % P i = 0) := fun h => by rw [← HBZ.out h]; exact hm
                obtain ⟨j0, g0⟩ := HNL.out.at hin
                obtain ⟨j1, g1⟩ := HNE.out.at hin
                by_cases hlp : 0 < l i
                · have hl0 : decide ((0 : Int) < (l i : Nat)) = true := by simp; omega
                  have hl1 : decide (0 < l i) = true := by simp; omega
                  have HLT : Hid (Fits n P B → false = true) := fun hf => (fits_late HPB.out HK.out hin HBT.out HM.out hlp hf).elim
                  clear hlp hd hml hm hbi HDD
                  generalize b i = bi at *
                  generalize P i = pi at *
                  generalize l i = li at *
                  generalize e i = ei at *
                  go_wp2_with fail
                  go_quiet (fail)
                  go_wp2_with fail
                  go_ret
                  exact ⟨false, rfl, below_drewN HBW.out _, HLT.out, fun _ _ _ _ => rfl⟩
                · have hl0 : decide ((0 : Int) < (l i : Nat)) = false := by simp; omega
                  have hl1 : decide (0 < l i) = false := by simp; omega
                  obtain ⟨x1, hx1⟩ : ∃ x1 : Nat, (t : Int) + (P i : Nat) = (x1 : Int) := ⟨t + P i, by push_cast; rfl⟩
                  obtain ⟨wy1, wy2⟩ := wr3 hx1 (by omega)
                  have HX1 : Hid (x1 = t + P i) := by unfold Hid; omega
                  have HK2 : Hid (KM n P B b t (i + 1) (upd l i (B i)) (upd e i x1)) := by rw [HX1.out]; exact km_rel HPB.out HN4.out HK.out hin HBT.out HM.out
                  have HEM2 : Hid ((∀ i, i < n → b i = 0) → EM n P B t (i + 1) (upd l i (B i)) l0) := fun h => em_rel HP1.out (HEM.out h) hin (HM0.out (h i hin)) (by omega)
                  have HNR2 := Lib.hid (near_upd HNR.out (B i) x1)
                  have HBP : Hid (1 ≤ B i) := hp3
                  have hgl : g ≠ lb := by have := HGL.out; have := HNQ.out; omega
                  clear hlp hd hml hm hbi HDD hx1 HX1
                  generalize b i = bi at *
                  generalize hpi : P i = pi at *
                  generalize hBi : B i = Bi at *
                  generalize l i = li at *
                  generalize hei : e i = ei at *
                  go_wp2_with fail
                  go_quiet (fail)
                  have HNL2 := Lib.hid (((HNL.out.drewN nq).set hin Bi).off (o := i) HNQ.out.2.2 (.int .i64 (x1 : Nat)))
                  have HNE2 := Lib.hid (((HNE.out.drewN nq).off (o := i) HNQ.out.2.2.symm (.int .i64 (Bi : Nat))).set hin x1)
                  have HBW2 := Lib.hid (((below_drewN HBW.out nq).setCell (p := ⟨lb, i, none⟩) HNQ.out.1 (.int .i64 (Bi : Nat))).setCell (p := ⟨eb, i, none⟩) HNQ.out.2.1 (.int .i64 (x1 : Nat)))
                  have c0' : ((wr.drewN nq).setCell ⟨lb, i, none⟩ (.int .i64 (Bi : Nat))).cell? ⟨g, off + i * 3, none⟩ = some (.int .i64 (pi : Nat)) := (cell_other _ _ hgl).trans c0
                  have g1' : ((wr.drewN nq).setCell ⟨lb, i, none⟩ (.int .i64 (Bi : Nat))).frozen? ⟨eb, i, none⟩ = false := ((HNE.out.drewN nq).off (o := i) HNQ.out.2.2.symm (.int .i64 (Bi : Nat))).at hin |>.2
                  have j1' : ((wr.drewN nq).setCell ⟨lb, i, none⟩ (.int .i64 (Bi : Nat))).cell? ⟨eb, i, none⟩ = some (.int .i64 (ei : Nat)) := by rw [← hei]; exact (((HNE.out.drewN nq).off (o := i) HNQ.out.2.2.symm (.int .i64 (Bi : Nat))).at hin).1
                  clear hgl
                  go_wp2_with fail
                  clear g1' j1' c0' c0 c1 d0 j0 j1 g0 g1 hpi hBi hei
                  generalize ((wr.drewN nq).setCell ⟨lb, i, none⟩ (.int .i64 (Bi : Nat))).setCell ⟨eb, i, none⟩ (.int .i64 (x1 : Nat)) = W2 at *
                  have hLi := upd_at l i Bi
                  have hXi := upd_at e i x1
                  have HLi := Lib.hid hLi
                  have HXi := Lib.hid hXi
                  generalize upd l i Bi = L at *
                  generalize upd e i x1 = X at *
                  clear HNL HNE HBW HNR HK HEM
                  have hlp : 0 < L i := by have := HBP.out; omega
                  clear hLi hXi HLi HXi
                  obtain ⟨j2, _⟩ := HNL2.out.at hin
                  obtain ⟨j3, _⟩ := HNE2.out.at hin
                  have hl0 : decide ((0 : Int) < (L i : Nat)) = true := by simp; omega
                  have hl1 : decide (0 < L i) = true := by simp; omega
                  rcases HNR2.out with ⟨rfl, _⟩ | ⟨m, rfl, hm1, hm2, hm3⟩
                  · have HN2 := Lib.hid (near_take HNR2.out hlp (Or.inl rfl))
                    generalize L i = li at *
                    generalize X i = ei at *
                    go_quiet (fail)
                    go_wp2_with fail
                    go_roundw
                    case rel => exact ⟨i + 1, i, L, X, by omega, by go_num, rfl, HK2.out, HEM2.out, HN2.out, HNL2.out.drewN _, HNE2.out.drewN _, below_drewN HBW2.out _⟩
                    case measure => simp [intOf]; omega
                  · obtain ⟨q0, _⟩ := HNE2.out.at (i := m) (by omega)
                    have hmI : (m : Int) < n := by omega
                    have hm0 : (0 : Int) ≤ m := by omega
                    have hmn : decide ((m : Int) < 0) = false := by simp
                    cases hem : decide (X i < X m) with
                    | true =>
                      have hemI : decide (((X i : Nat) : Int) < (X m : Nat)) = true := by have := of_decide_eq_true hem; simp; omega
                      have HN2 := Lib.hid (near_take HNR2.out hlp (Or.inr ⟨m, rfl, of_decide_eq_true hem⟩))
                      clear hm2 hm3
                      generalize L i = li at *
                      generalize X i = ei at *
                      generalize X m = em at *
                      go_wp2_with fail
                      go_quiet (fail)
                      go_wp2_with fail
                      go_roundw
                      case rel => exact ⟨i + 1, i, L, X, by omega, by go_num, rfl, HK2.out, HEM2.out, HN2.out, HNL2.out.drewN _, HNE2.out.drewN _, below_drewN HBW2.out _⟩
                      case measure => simp [intOf]; omega
                    | false =>
                      have hemI : decide (((X i : Nat) : Int) < (X m : Nat)) = false := by have := of_decide_eq_false hem; simp; omega
                      have HN2 := Lib.hid (near_keep HNR2.out (by have := of_decide_eq_false hem; omega))
                      clear hm2 hm3
                      generalize L i = li at *
                      generalize X i = ei at *
                      generalize X m = em at *
                      go_wp2_with fail
                      go_quiet (fail)
                      go_wp2_with fail
                      go_roundw
                      case rel => exact ⟨i + 1, m, L, X, by omega, by go_num, rfl, HK2.out, HEM2.out, HN2.out, HNL2.out.drewN _, HNE2.out.drewN _, below_drewN HBW2.out _⟩
                      case measure => simp [intOf]; omega
              · have hmz : ((((d % P i : Nat) : Nat) : Int) == 0) = false := by simp; omega
                have hmz2 : ¬ d % P i = 0 := hm
                have HM : Hid ((t - b i) % P i ≠ 0) := by rw [← HDD.out]; exact hm
                have HM0 : Hid (b i = 0 → t % P i ≠ 0) := fun h => by rw [← HBZ.out h]; exact hm
                have HK2 : Hid (KM n P B b t (i + 1) l e) := km_same HK.out (nxt_not hp1 HBT.out HM.out)
                have HEM2 : Hid ((∀ i, i < n → b i = 0) → EM n P B t (i + 1) l l0) := fun h => em_not HP1.out (HEM.out h) hin (HM0.out (h i hin))
                have HNR2 := HNR
                clear hd hm hbi HDD
                generalize b i = bi at *
                generalize P i = pi at *
                have hmd : d % pi ≤ 64 := by omega
                generalize d % pi = dm at *
                go_wp2_with fail
                go_quiet (fail)
                go_wp2_with fail
                have HNL2 := Lib.hid (HNL.out.drewN nq)
                have HNE2 := Lib.hid (HNE.out.drewN nq)
                have HBW2 := Lib.hid (below_drewN HBW.out nq)
                clear c0 c1 d0 HNL HNE HBW HNR HK HEM
                generalize wr.drewN nq = W2 at *
                obtain ⟨j2, _⟩ := HNL2.out.at hin
                obtain ⟨j3, _⟩ := HNE2.out.at hin
                by_cases hlp : 0 < l i
                · have hl0 : decide ((0 : Int) < (l i : Nat)) = true := by simp; omega
                  have hl1 : decide (0 < l i) = true := by simp; omega
                  rcases HNR2.out with ⟨rfl, _⟩ | ⟨m, rfl, hm1, hm2, hm3⟩
                  · have HN2 := Lib.hid (near_take HNR2.out hlp (Or.inl rfl))
                    generalize l i = li at *
                    generalize e i = ei at *
                    go_wp2_with fail
                    go_quiet (fail)
                    go_wp2_with fail
                    go_roundw
                    case rel => exact ⟨i + 1, i, l, e, by omega, by go_num, rfl, HK2.out, HEM2.out, HN2.out, HNL2.out.drewN _, HNE2.out.drewN _, below_drewN HBW2.out _⟩
                    case measure => simp [intOf]; omega
                  · obtain ⟨q0, _⟩ := HNE2.out.at (i := m) (by omega)
                    have hmI : (m : Int) < n := by omega
                    have hm0 : (0 : Int) ≤ m := by omega
                    have hmn : decide ((m : Int) < 0) = false := by simp
                    cases hem : decide (e i < e m) with
                    | true =>
                      have hemI : decide (((e i : Nat) : Int) < (e m : Nat)) = true := by have := of_decide_eq_true hem; simp; omega
                      have HN2 := Lib.hid (near_take HNR2.out hlp (Or.inr ⟨m, rfl, of_decide_eq_true hem⟩))
                      clear hm2 hm3
                      generalize l i = li at *
                      generalize e i = ei at *
                      generalize e m = em at *
                      go_wp2_with fail
                      go_quiet (fail)
                      go_wp2_with fail
                      go_roundw
                      case rel => exact ⟨i + 1, i, l, e, by omega, by go_num, rfl, HK2.out, HEM2.out, HN2.out, HNL2.out.drewN _, HNE2.out.drewN _, below_drewN HBW2.out _⟩
                      case measure => simp [intOf]; omega
                    | false =>
                      have hemI : decide (((e i : Nat) : Int) < (e m : Nat)) = false := by have := of_decide_eq_false hem; simp; omega
                      have HN2 := Lib.hid (near_keep HNR2.out (by have := of_decide_eq_false hem; omega))
                      clear hm2 hm3
                      generalize l i = li at *
                      generalize e i = ei at *
                      generalize e m = em at *
                      go_wp2_with fail
                      go_quiet (fail)
                      go_wp2_with fail
                      go_roundw
                      case rel => exact ⟨i + 1, m, l, e, by omega, by go_num, rfl, HK2.out, HEM2.out, HN2.out, HNL2.out.drewN _, HNE2.out.drewN _, below_drewN HBW2.out _⟩
                      case measure => simp [intOf]; omega
                · have hl0 : decide ((0 : Int) < (l i : Nat)) = false := by simp; omega
                  have hl1 : decide (0 < l i) = false := by simp; omega
                  have HN2 := Lib.hid (near_zero HNR2.out (by omega))
                  clear hlp
                  generalize l i = li at *
                  generalize e i = ei at *
                  go_quiet (fail)
                  go_wp2_with fail
                  go_roundw
                  case rel => exact ⟨i + 1, k, l, e, by omega, by go_num, rfl, HK2.out, HEM2.out, HN2.out, HNL2.out.drewN _, HNE2.out.drewN _, below_drewN HBW2.out _⟩
                  case measure => simp [intOf]; omega
          · obtain rfl : n = i := by omega
            rcases HNR.out with ⟨rfl, hz⟩ | ⟨m, rfl, hm1, hm2, hm3⟩
            · have HKN := Lib.hid (km_none HK.out hz)
              have HEN : Hid ((∀ i, i < n → b i = 0) → EI n B (t + 1) l (fun i => cl (P i) (t + 1))) := fun h => ei_none (em_end (HEM.out h))
              have HON : Hid ((∀ i, i < n → b i = 0) → ∀ M, Over n P B M → t + 1 ≤ M) := fun h M ho => by
                have h1 := HOV.out h M ho
                rcases Nat.lt_or_ge t M with h2 | h2
                · omega
                · obtain rfl : t = M := by omega
                  exact (em_late HP1.out ho.1 ho.2 (HEM.out h)).elim
              clear hz
              go_wp2_with fail
              go_roundw
              case rel => exact ⟨t + 1, l, e, by omega, by go_num, HKN.out, HEN.out, HON.out, HNL.out, HNE.out, HBW.out⟩
              case measure => simp [intOf]; omega
            · obtain ⟨q0, q1⟩ := HNL.out.at hm1
              have hmI : (m : Int) < n := by omega
              have hm0 : (0 : Int) ≤ m := by omega
              have hmn : decide ((0 : Int) ≤ (m : Nat)) = true := by simp
              obtain ⟨L2, hL2⟩ : ∃ L2 : Nat, ((l m : Nat) : Int) - 1 = (L2 : Int) := ⟨l m - 1, by omega⟩
              have hb1 := HK.out.bd m hm1
              obtain ⟨hw, hw2⟩ := wr3 hL2 (by omega)
              have HL2c : Hid (L2 = l m - 1) := by unfold Hid; omega
              have HKR : Hid (KM n P B b (t + 1) 0 (upd l m L2) e) := by rw [HL2c.out]; exact km_run HK.out hm1 hm2 hm3
              have HEN : Hid ((∀ i, i < n → b i = 0) → EI n B (t + 1) (upd l m L2) (fun i => cl (P i) (t + 1))) := fun h => ei_run (em_end (HEM.out h)) hm1 hm2 (by rw [upd_at]; exact HL2c.out) (fun j hne => upd_ne _ _ hne)
              have HON : Hid ((∀ i, i < n → b i = 0) → ∀ M, Over n P B M → t + 1 ≤ M) := fun h M ho => by
                have h1 := HOV.out h M ho
                rcases Nat.lt_or_ge t M with h2 | h2
                · omega
                · obtain rfl : t = M := by omega
                  exact (em_late HP1.out ho.1 ho.2 (HEM.out h)).elim
              have HJ2 := Lib.hid (HNL.out.set hm1 L2)
              have HN2 := Lib.hid (HNE.out.off (o := m) HNQ.out.2.2.symm (.int .i64 (L2 : Nat)))
              have HBX := Lib.hid (HBW.out.setCell (p := ⟨lb, m, none⟩) HNQ.out.1 (.int .i64 (L2 : Nat)))
              clear hL2 hm2 hm3 hb1 HNL HNE HBW HNR HK HEM HL2c
              generalize l m = lm at *
              go_wp2_with fail
              go_roundw
              case rel => exact ⟨t + 1, _, e, by omega, by go_num, HKR.out, HEN.out, HON.out, HJ2.out, HN2.out, HBX.out⟩
              case measure => simp [intOf]; omega
      · obtain rfl : t = E := by omega
        have hdt : decide ((t : Int) < t) = false := by simp
        have HF : Hid ((Fits n P B → true = true) ∧ ((∀ i, i < n → b i = 0) → ∀ M, M < t → Over n P B M → true = false)) := ⟨fun _ => rfl, fun h0 M hM ho => by have := HOV.out h0 M ho; omega⟩
        go_wp2_with fail
        go_ret
        exact ⟨true, rfl, HBW.out, fun _ => rfl, HF.out.2⟩
end Go.Proofs.Ytlifkclgflfnlaa.Sh
