/- Check and Bytes answer as the document does. -/
import Derived.Test.YthbhkcofhhkcoaaConfT
import Derived.Test.YthbhkcofhhkcoaaConfM
import Derived.Test.YthbhkcofhhkcoaaConfO
import Derived.Test.YthbhkcofhhkcoaaConfR
namespace Go.Proofs.Ythbhkcofhhkcoaa
open Go.RowKit Pk Cn
set_option linter.unusedVariables false

section
variable {H : Type}
theorem weights_all {P : Program} {e : TypeId} {l : List (DataW H)} {d : DataW H} (hd : d ∈ l) : ∀ n ∈ d.weights P e, n ∈ DataW.weightsAll P e l := by
  induction l with
  | nil => cases hd
  | cons x l ih =>
    intro n hn
    simp only [DataW.weightsAll, List.mem_append]
    rcases List.mem_cons.1 hd with rfl | hd
    · exact Or.inl hn
    · exact Or.inr (ih hd n hn)
theorem slice_size {t e : TypeId} {B : Nat} {d : DataW H} (ht : Try.prog.underlying t = some (.slice e)) (hb : Try.prog.bytesOf e = B) (h : ∀ n ∈ d.weights Try.prog t, n ≤ reachBytes) : dLen d * B ≤ reachBytes := by
  cases d with
  | slice el sp =>
    have := h ((el.length + sp.length) * Try.prog.bytesOf e) (by simp [DataW.weights, ht])
    rw [hb] at this
    have h2 : el.length * B ≤ (el.length + sp.length) * B := Nat.mul_le_mul_right _ (by omega)
    simp only [dLen]; omega
  | _ => simp [dLen]
theorem bytes_pt : Try.prog.bytesOf 28 = 40 := by kernel_rfl
theorem bytes_tk : Try.prog.bytesOf 30 = 64 := by kernel_rfl
theorem bytes_po : Try.prog.bytesOf 32 = 48 := by kernel_rfl
theorem cfg_size {c : Cf} {dp dq : DataW H} (h : ∀ n ∈ (DataW.agg [dp, dq]).weights Try.prog 25, n ≤ reachBytes) (l1 : dLen dp = c.ps.length) (l2 : dLen dq = c.os.length)
    (l3 : ∀ el sp, dp = .slice el sp → ∀ i d, i < c.ps.length → el[i]? = some d → dTasks d = (c.ps.getD i pt0).ts.length) : CfgSize c := by
  have hp : ∀ n ∈ dp.weights Try.prog 22, n ≤ reachBytes := fun n hn => h n (by simp [DataW.weights, Try.underlying25, DataW.weightsEach]; exact Or.inl hn)
  have hq : ∀ n ∈ dq.weights Try.prog 23, n ≤ reachBytes := fun n hn => h n (by simp [DataW.weights, Try.underlying25, DataW.weightsEach]; exact Or.inr hn)
  have hr : reachBytes = 140737488351232 := by decide
  refine ⟨?_, ?_, fun i hi => ?_⟩
  · have := slice_size Try.underlying22 bytes_pt hp
    rw [l1, hr] at this; exact this
  · have := slice_size Try.underlying23 bytes_po hq
    rw [l2, hr] at this; exact this
  · cases dp with
    | slice el sp =>
      have hl : el.length = c.ps.length := l1
      have hd := List.getElem?_eq_getElem (l := el) (i := i) (by omega)
      have e := l3 el sp rfl i _ hi hd
      have hw : ∀ n ∈ (el[i]'(by omega)).weights Try.prog 28, n ≤ reachBytes := fun n hn => hp n (by
        simp only [DataW.weights, Try.underlying22, List.mem_cons, List.mem_append]
        exact Or.inr (Or.inl (weights_all (List.getElem_mem (by omega)) n hn)))
      rw [← e, ← hr]
      generalize (el[i]'(by omega)) = d at hw
      match d with
      | .agg [x, y, z] =>
        exact slice_size Try.underlying26 bytes_tk (fun n hn => hw n (by simp [DataW.weights, Try.underlying28, DataW.weightsEach]; exact Or.inr (Or.inr hn)))
      | .agg [] => simp [dTasks]
      | .agg [_] => simp [dTasks]
      | .agg [_, _] => simp [dTasks]
      | .agg (_ :: _ :: _ :: _ :: _) => simp [dTasks]
      | .lit _ => simp [dTasks]
      | .nil => simp [dTasks]
      | .ptr _ => simp [dTasks]
      | .slice _ _ => simp [dTasks]
      | .iface _ _ => simp [dTasks]
      | .map _ => simp [dTasks]
      | .held _ => simp [dTasks]
    | _ => simp [dLen] at l1; omega
end

/-- the bytes and the error of a configuration -/
def bX (c : Cf) : List Int := if may c then nums c.row else []
def bE (c : Cf) : Int := if may c then 0 else 50
theorem BytP.res {c : Cf} {w w' : World} {e : Ending} (h : BytP c w e w') : ∃ av, e = .returned (.tuple #[av, .int .i64 (bE c)]) ∧ BS w' av (bX c) ∧ Below w.heap.size w w' := by
  unfold bX bE
  cases hm : may c with
  | true => obtain ⟨v, h1, h2, h3⟩ := h.yes hm; exact ⟨v, h1, h2.bs, h3⟩
  | false => obtain ⟨h1, h2⟩ := h.no hm; exact ⟨_, h1, BS.nil _, h2⟩

set_option maxRecDepth 100000 in
set_option maxHeartbeats 4000000 in
theorem bytes_law {w : World} {B : Nat} {v : Value} {c : Cf} (h : CF w B v c) (hz : CfgSize c) : Calls Try.prog 6 #[v] w (TrueB w) := by
  obtain ⟨pv, ov, rfl, hp, ho⟩ := h
  have hA := (Below.refl w.heap.size w).alloc (Nat.le_refl _) (.cells #[pv, ov] 25)
  have HCP := Lib.hid (copyC_any (v := .agg #[pv, ov]) ⟨_, _, rfl, hp.below hA, OS.below ho hA⟩ hz)
  obtain ⟨pa, pc, rfl, _⟩ := hp.slice
  obtain ⟨oa, oc, rfl, _⟩ := OS.slice ho
  have HC0 := Lib.hid (fun w' (b : Below w.heap.size w w') => (⟨_, _, rfl, hp.below b, OS.below ho b⟩ : CF w' B (.agg #[.slice pa c.ps.length pc, .slice oa c.os.length oc]) c))
  have HA := Lib.hid hA
  have HB0 := Lib.hid (heap_alloc_new w (.cells #[.slice pa c.ps.length pc, .slice oa c.os.length oc] 25))
  clear hp ho hA hz
  generalize hn : c.ps.length = n at *
  generalize hm : c.os.length = m at *
  have HN := Lib.hid hn; have HM := Lib.hid hm
  clear hn hm
  obtain ⟨xs, hxs⟩ : ∃ xs, bX c = xs := ⟨_, rfl⟩
  obtain ⟨E, hE⟩ : ∃ E, bE c = E := ⟨_, rfl⟩
  obtain ⟨K, hK⟩ : ∃ K, ck c = K := ⟨_, rfl⟩
  have HXS := Lib.hid hxs; have HE := Lib.hid hE; have HK := Lib.hid hK
  clear hxs hE hK
  go_enter Try.func6, Try.ntmps6
  go_wp2_with fail
  refine HCP.out.mono ?_
  rintro e w1 ⟨cv, rfl, ⟨pv, ov, rfl, hp1, ho1⟩, hb1⟩
  obtain ⟨pa1, pc1, rfl, _⟩ := hp1.slice
  obtain ⟨oa1, oc1, rfl, _⟩ := OS.slice ho1
  rw [HN.out, HM.out] at *
  have hA1 := (Below.refl w1.heap.size w1).alloc (Nat.le_refl _) (.cells #[.slice pa1 n pc1, .slice oa1 m oc1] 25)
  obtain ⟨W, hW⟩ : ∃ W, W = w1.alloc (.cells #[.slice pa1 n pc1, .slice oa1 m oc1] 25) := ⟨_, rfl⟩
  rw [← hW] at hA1
  have HC1 : Hid (CF W 0 (.agg #[.slice pa1 n pc1, .slice oa1 m oc1]) c) := CF.mono (C := 0) ⟨_, _, rfl, hp1.below hA1, OS.below ho1 hA1⟩ (Nat.zero_le _)
  have HBX := Lib.hid (HA.out.trans ((hb1.trans (hA1.mono hb1.size)).mono HA.out.size))
  have HB1 := Lib.hid (blk (blk HB0.out hb1) hA1)
  have HB3 : Hid (W.heap[w1.heap.size]? = some (.cells #[.slice pa1 n pc1, .slice oa1 m oc1] 25 (0, 0))) := by rw [hW]; exact heap_alloc_new w1 _
  have H1 := Lib.hid (bytes_any HC1.out)
  clear hp1 ho1 hb1 hA1 HCP HB0
  go_wp2_with fail
  rw [← hW]
  clear hW
  refine H1.out.mono ?_
  intro e w2 hby
  obtain ⟨av, rfl, hav, hb2⟩ := hby.res
  rw [HXS.out] at hav
  rw [HE.out]
  have HBX := Lib.hid (chn HBX.out hb2)
  have HC1 := Lib.hid (HC1.out.below hb2)
  have HB1 := Lib.hid (blk HB1.out hb2)
  have HB3 := Lib.hid (blk HB3.out hb2)
  have HAV := Lib.hid hav
  have H2 := Lib.hid (rbytes_any (HC0.out _ HBX.out))
  obtain ⟨z0, z1⟩ := pz2 HB1.out
  clear hby hav hb2 H1
  go_wp2_with fail
  refine H2.out.mono ?_
  intro e w3 hby
  obtain ⟨bv, rfl, hbv, hb3⟩ := hby.res
  rw [HXS.out] at hbv
  rw [HE.out]
  have HX := Lib.hid (chn HBX.out hb3)
  have HC1 := Lib.hid (HC1.out.below hb3)
  have HB1 := Lib.hid (blk HB1.out hb3)
  have HB3 := Lib.hid (blk HB3.out hb3)
  have HAV := Lib.hid (HAV.out.below hb3)
  have HBV := Lib.hid hbv
  clear hby hbv hb3 H2 HBX z0 z1
  obtain ⟨z0, z1⟩ := pz2 HB1.out
  obtain ⟨y0, y1⟩ := pz2 HB3.out
  have hbe : (E == E) = true := by simp
  have hke : (K == K) = true := by simp
  obtain ⟨D, hD⟩ : ∃ D, D = w3.drew := ⟨_, rfl⟩
  have hqD : Below w3.heap.size w3 w3.drew := (Below.refl _ w3).drew
  have HX := Lib.hid (chn HX.out hqD)
  have HC1 := Lib.hid (HC1.out.below hqD)
  have HB1 := Lib.hid (blk HB1.out hqD)
  have HB3 := Lib.hid (blk HB3.out hqD)
  have HAV := Lib.hid (HAV.out.below hqD)
  have HBV := Lib.hid (HBV.out.below hqD)
  obtain ⟨hk0, hk1⟩ := pz2 HB1.out
  obtain ⟨hk2, hk3⟩ := pz2 HB3.out
  clear hD hqD
  go_wp2_with fail
  go_region_held3 (fun w' => w'.cell? ⟨w.heap.size, 0, none⟩ = some (.slice pa n pc) ∧ w'.cell? ⟨w.heap.size, 1, none⟩ = some (.slice oa m oc) ∧ w'.cell? ⟨w1.heap.size, 0, none⟩ = some (.slice pa1 n pc1) ∧ w'.cell? ⟨w1.heap.size, 1, none⟩ = some (.slice oa1 m oc1)) (first | assumption | exact ⟨hk0, hk1, hk2, hk3⟩ | go_keep)
    (first
      | (go_at_call 4; refine (check_fit HK.out HC1.out).mono ?_; rintro e wc ⟨rfl, hbx⟩; have HX := Lib.hid (chn HX.out hbx); have HC1 := Lib.hid (HC1.out.below hbx); have HB1 := Lib.hid (blk HB1.out hbx); have HB3 := Lib.hid (blk HB3.out hbx); have HAV := Lib.hid (HAV.out.below hbx); have HBV := Lib.hid (HBV.out.below hbx); clear hk0 hk1 hk2 hk3 hbx; obtain ⟨hk0, hk1⟩ := pz2 HB1.out; obtain ⟨hk2, hk3⟩ := pz2 HB3.out)
      | (go_at_call 18; refine (rcheck_any (HC0.out _ HX.out)).mono ?_; rw [HK.out]; rintro e wc ⟨rfl, hbx⟩; have HX := Lib.hid (chn HX.out hbx); have HC1 := Lib.hid (HC1.out.below hbx); have HB1 := Lib.hid (blk HB1.out hbx); have HB3 := Lib.hid (blk HB3.out hbx); have HAV := Lib.hid (HAV.out.below hbx); have HBV := Lib.hid (HBV.out.below hbx); clear hk0 hk1 hk2 hk3 hbx; obtain ⟨hk0, hk1⟩ := pz2 HB1.out; obtain ⟨hk2, hk3⟩ := pz2 HB3.out)
      | (go_at_call 19; refine (eq_any HAV.out HBV.out).mono ?_; rintro e we ⟨rfl, rfl⟩)
      | (go_at_call 20; refine (rsame_any HC1.out (HC0.out _ HX.out)).mono ?_; rintro e wc ⟨rfl, hbx⟩; have HX := Lib.hid (chn HX.out hbx); have HB1 := Lib.hid (blk HB1.out hbx); have HB3 := Lib.hid (blk HB3.out hbx); clear hk0 hk1 hk2 hk3 hbx; obtain ⟨hk0, hk1⟩ := pz2 HB1.out; obtain ⟨hk2, hk3⟩ := pz2 HB3.out)
      | (go_at_call 10; refine (works_any _).mono ?_; rintro e wc ⟨rfl, hbx⟩; have HX := Lib.hid (chn HX.out hbx); have HB1 := Lib.hid (blk HB1.out hbx); have HB3 := Lib.hid (blk HB3.out hbx); clear hk0 hk1 hk2 hk3 hbx; obtain ⟨hk0, hk1⟩ := pz2 HB1.out; obtain ⟨hk2, hk3⟩ := pz2 HB3.out))
  all_goals
    go_wp2_with fail
    go_ret
    exact ⟨rfl, HX.out⟩
end Go.Proofs.Ythbhkcofhhkcoaa
