/- Parse beside the document's. -/
import Derived.Test.YthbhkcofhhkcoaaConfY
import Derived.Test.YthbhkcofhhkcoaaConfO
import Derived.Test.YthbhkcofhhkcoaaConfM
namespace Go.Proofs.Ythbhkcofhhkcoaa
open Go.RowKit Pk Cn
set_option linter.unusedVariables false

/-- the parts' cells, one by one -/
def PC (w : World) (g n : Nat) : Prop := ∃ cur, w.heap[g]? = some (.cells cur 28 (0, 0)) ∧ n * 3 ≤ cur.size
theorem PC.set {w : World} {g n i : Nat} {v : Value} (h : PC w g n) : PC (w.setCell ⟨g, i, none⟩ v) g n := by
  obtain ⟨cur, h1, h2⟩ := h
  exact ⟨_, heap_set_same h1, by simpa using h2⟩
theorem idx_of_cell {w : World} {g i : Nat} {x : Value} {cur : Array Value} {t : TypeId} (h : w.cell? ⟨g, i, none⟩ = some x) (hg : w.heap[g]? = some (.cells cur t (0, 0))) : i < cur.size := by
  rcases Nat.lt_or_ge i cur.size with hi | hi
  · exact hi
  · exfalso
    have : w.cell? ⟨g, i, none⟩ = none := by simp [World.cell?, hg, Array.getElem?_eq_none hi]
    rw [this] at h
    cases h
/-- the parts' cells, with the block that they lie in -/
def PT (w : World) (n B : Nat) (v : Value) : Prop := ∃ g, B ≤ g ∧ g ≤ w.heap.size ∧ (0 < n → g < w.heap.size ∧ (∃ cap, v = .slice (some ⟨g, 0, none⟩) n cap) ∧ PC w g n)
theorem PT.of {w : World} {B : Nat} {v : Value} {ps : List Pt} (h : PS w B v ps) (k : OwnPt w B v ps.length) (hB : B ≤ w.heap.size) : PT w ps.length B v := by
  rcases k with ⟨_, h0⟩ | ⟨g, cap, cur, rfl, h1, h2⟩
  · exact ⟨B, Nat.le_refl _, hB, fun hn => by omega⟩
  · have hl := (Array.getElem?_eq_some_iff.1 h2).1
    refine ⟨g, h1, by omega, fun hn => ⟨hl, ⟨cap, rfl⟩, cur, h2, ?_⟩⟩
    obtain ⟨a, cp, e, _, _, _, hc⟩ := h
    obtain ⟨b, off, ea, _, hall⟩ := hc hn
    injection e with e1 e2 e3
    rw [ea] at e1
    injection e1 with e1
    injection e1 with e4 e5
    obtain ⟨_, _, tv, ht, _⟩ := hall (ps.length - 1) (by omega)
    rw [← e4, ← e5] at ht
    have hsz : 0 + (ps.length - 1) * 3 + 2 < cur.size := by
      have := idx_of_cell ht h2
      exact this
    omega
theorem PC.below {w w' : World} {g n : Nat} (h : PC w g n) (b : Below w.heap.size w w') : PC w' g n := by obtain ⟨cur, h1, h2⟩ := h; exact ⟨cur, blk h1 b, h2⟩
theorem PT.below {w w' : World} {n B : Nat} {v : Value} (h : PT w n B v) (b : Below w.heap.size w w') : PT w' n B v := by
  obtain ⟨g, h1, h2, h3⟩ := h
  exact ⟨g, h1, by have := b.size; omega, fun hn => by obtain ⟨k1, k2, cur, k3, k4⟩ := h3 hn; exact ⟨by have := b.size; omega, k2, cur, blk k3 b, k4⟩⟩
theorem CF.only {w w' : World} {B : Nat} {v : Value} {c : Cf} {S : Nat → Prop} (h : CF w B v c) (o : Only S w w') (hS : ∀ k, S k → k < B) : CF w' B v c := by
  obtain ⟨pv, ov, h1, h2, h3⟩ := h
  exact ⟨pv, ov, h1, h2.keep (Kp.only o hS), SS.keep h3 (Kp.only o hS)⟩

set_option maxRecDepth 100000 in
set_option maxHeartbeats 4000000 in
theorem parses_law {w : World} {v : Value} {xs : List Int} (hv : BS w v xs) (hb : Bys xs) (hl : xs.length ≤ 140737488351232) : Calls Try.prog 8 #[v] w (TrueB w) := by
  have HV := Lib.hid (fun w' (b : Below w.heap.size w w') => hv.below b)
  obtain ⟨c, E, hp⟩ : ∃ c E, parse xs = (c, E) := ⟨_, _, rfl⟩
  have HCP := Lib.hid (copy_any hv hl)
  have HPA := Lib.hid (fun (w' : World) (u : Value) (h : BS w' u xs) => parse_eq hp h hb (by omega))
  have HPR : Hid (∀ (w' : World), BS w' v xs → Calls Try.prog 22 #[v] w' (fun e w'' => ∃ u, e = .returned (.tuple #[u, .int .i64 E]) ∧ CF w'' w'.heap.size u c ∧ Below w'.heap.size w' w'')) := fun w' h => (rparse_any h hb hl).mono fun e w'' ⟨u, h1, h2, h3⟩ => by
    rw [refP_eq hb, hp] at h1 h2
    exact ⟨u, h1, h2, h3⟩
  have HWK := Lib.hid works_any
  obtain ⟨a, cap, rfl, _⟩ := hv
  clear hb hp
  go_enter Try.func8, Try.ntmps8
  go_wp2_with fail
  refine HCP.out.mono ?_
  rintro e w1 ⟨iv, rfl, ho1, hb1⟩
  have HO1 := Lib.hid ho1; have HB1 := Lib.hid hb1
  have HP1 := Lib.hid (HPA.out _ _ ho1.bs)
  obtain ⟨ia, icap, hiv, _⟩ := ho1.bs
  clear ho1 hb1 HCP
  subst hiv
  go_wp2_with fail
  refine HP1.out.mono ?_
  rintro e w2 ⟨p1, o1, rfl, hp1, hq1, hown, hb2⟩
  obtain ⟨pa, pc, hpv, hpl, hpm⟩ := hp1.slice
  have hnn : c.ps.length ≤ 9223372036854775807 := by unfold maxLen at hpm; omega
  clear hpl hpm
  obtain ⟨oa, oc, hov, _⟩ := OS.slice hq1
  subst hpv hov
  obtain ⟨g, hg1, hg2, hg3⟩ := PT.of hp1 hown hb2.size
  generalize hn : c.ps.length = n at *
  generalize hm : c.os.length = m at *
  have HN := Lib.hid hn; have HM := Lib.hid hm
  clear hn hm
  have hA2 := (Below.refl w2.heap.size w2).alloc (Nat.le_refl _) (.cells #[.slice pa n pc, .slice oa m oc] 25)
  have HX := Lib.hid (heap_alloc_new w2 (.cells #[.slice pa n pc, .slice oa m oc] 25))
  have HB2 : Hid (Below w.heap.size w (w2.alloc (.cells #[.slice pa n pc, .slice oa m oc] 25))) := alb (chn HB1.out hb2) _
  have HC2 : Hid (CF (w2.alloc (.cells #[.slice pa n pc, .slice oa m oc] 25)) w1.heap.size (.agg #[.slice pa n pc, .slice oa m oc]) c) := ⟨_, _, rfl, hp1.below hA2, OS.below hq1 hA2⟩
  have HQ := Lib.hid (HPR.out (w2.alloc (.cells #[.slice pa n pc, .slice oa m oc] 25)) (HV.out _ HB2.out))
  have HI2 : Hid (Below w1.heap.size w1 (w2.alloc (.cells #[.slice pa n pc, .slice oa m oc] 25))) := alb hb2 _
  have HZ2 : Hid ((w2.alloc (.cells #[.slice pa n pc, .slice oa m oc] 25)).heap.size = w2.heap.size + 1) := by unfold Hid; simp
  have hs2 := hb2.size
  have hg4 : 0 < n → g < w2.heap.size := fun h => (hg3 h).1
  have HG2 : Hid (0 < n → (∃ cap, Value.slice pa n pc = .slice (some ⟨g, 0, none⟩) n cap) ∧ PC (w2.alloc (.cells #[.slice pa n pc, .slice oa m oc] 25)) g n) := fun h => ⟨(hg3 h).2.1, (hg3 h).2.2.below hA2⟩
  clear hp1 hq1 hown hb2 hA2 hg3 HP1
  go_wp2_with fail
  refine HQ.out.mono ?_
  rintro e w3 ⟨vy, rfl, ⟨p3, o3, rfl, hp3, hq3⟩, hb3⟩
  rw [HZ2.out] at hp3 hq3
  obtain ⟨ya, yc, hyv, _⟩ := hp3.slice
  obtain ⟨za, zc, hzv, _⟩ := OS.slice hq3
  rw [HN.out] at hyv
  rw [HM.out] at hzv
  subst hyv hzv
  have hs3 := hb3.size
  rw [HZ2.out] at hs3
  have hA3 := (Below.refl w3.heap.size w3).alloc (Nat.le_refl _) (.cells #[.slice ya n yc, .slice za m zc] 25)
  have HY3 := Lib.hid (heap_alloc_new w3 (.cells #[.slice ya n yc, .slice za m zc] 25))
  have HX3 := Lib.hid (blk (blk HX.out hb3) hA3)
  have HCY3 : Hid (CF (w3.alloc (.cells #[.slice ya n yc, .slice za m zc] 25)) (w2.heap.size + 1) (.agg #[.slice ya n yc, .slice za m zc]) c) := ⟨_, _, rfl, hp3.below hA3, OS.below hq3 hA3⟩
  have HSM := Lib.hid (rsame_any (CF.below (CF.below HC2.out hb3) hA3) HCY3.out)
  have HB3 : Hid (Below w.heap.size w (w3.alloc (.cells #[.slice ya n yc, .slice za m zc] 25))) := alb (chn HB2.out hb3) _
  have HI3 : Hid (Below w1.heap.size w1 (w3.alloc (.cells #[.slice ya n yc, .slice za m zc] 25))) := alb (chn HI2.out hb3) _
  have HG3 : Hid (0 < n → (∃ cap, Value.slice pa n pc = .slice (some ⟨g, 0, none⟩) n cap) ∧ PC (w3.alloc (.cells #[.slice ya n yc, .slice za m zc] 25)) g n) := fun h => ⟨(HG2.out h).1, ((HG2.out h).2.below hb3).below hA3⟩
  have HZ3 : Hid ((w3.alloc (.cells #[.slice ya n yc, .slice za m zc] 25)).heap.size = w3.heap.size + 1) := by unfold Hid; simp
  clear hp3 hq3 hb3 hA3 HX HB2 HC2 HQ HI2 HG2
  obtain ⟨x0, x1⟩ := pz2 HX3.out
  obtain ⟨y0, y1⟩ := pz2 HY3.out
  go_wp2_with fail
  refine HSM.out.mono ?_
  rintro e w4 ⟨rfl, hb4⟩
  clear x0 x1 y0 y1
  have HX4 := Lib.hid (blk HX3.out hb4); have HY4 := Lib.hid (blk HY3.out hb4)
  have HCY4 := Lib.hid (CF.below HCY3.out hb4)
  have HB4 := Lib.hid (chn HB3.out hb4); have HI4 := Lib.hid (chn HI3.out hb4)
  have HEQ := Lib.hid (eq_any (HO1.out.bs.below HI4.out) (HV.out _ HB4.out))
  have hs4 := hb4.size
  rw [HZ3.out] at hs4
  have HG4 : Hid (0 < n → (∃ cap, Value.slice pa n pc = .slice (some ⟨g, 0, none⟩) n cap) ∧ PC w4 g n) := fun h => ⟨(HG3.out h).1, (HG3.out h).2.below hb4⟩
  obtain ⟨x0, x1⟩ := pz2 HX4.out
  clear hb4 HX3 HY3 HCY3 HB3 HI3 HG3 HSM
  go_wp2_with fail
  refine HEQ.out.mono ?_
  rintro e w5 ⟨rfl, h5⟩
  subst h5
  clear HEQ x0 x1
  go_wp2_with fail
  go_loopw [8] (fun i wr => ∃ k : Nat, k ≤ n ∧ i = .int .i64 k ∧ Hid (wr.heap[w2.heap.size]? = some (.cells #[.slice pa n pc, .slice oa m oc] 25 (0, 0))) ∧ Hid (Only (fun b => b = g) w4 wr) ∧ Hid (0 < n → PC wr g n)) (fun i _ => n - (intOf i).toNat)
  case atStart => exact ⟨0, by omega, rfl, HX4, Only.refl _ _, fun h => (HG4.out h).2⟩
  case round =>
    obtain ⟨k, hk, rfl, HX, HO, HP⟩ := hrel
    obtain ⟨x0, x1⟩ := pz2 HX.out
    by_cases hkn : k < n
    · have h0n : 0 < n := by omega
      obtain ⟨gc, hgv⟩ := (HG4.out h0n).1
      obtain rfl : pa = some ⟨g, 0, none⟩ := by injection hgv
      have hg5 := hg4 h0n
      obtain ⟨cur, hc, hsz⟩ := HP.out h0n
      obtain ⟨u, hu⟩ : ∃ u, cur[k * 3]? = some u := ⟨_, Array.getElem?_eq_getElem (by omega)⟩
      have c0 : wr.cell? ⟨g, k * 3, none⟩ = some u := cell_of_row wr g (k * 3) _ _ _ hc |>.trans hu
      have f0 : wr.frozen? ⟨g, k * 3, none⟩ = false := frozen_of_row wr g (k * 3) _ _ hc
      have HX7 : Hid ((wr.setCell ⟨g, k * 3, none⟩ (.int .i64 (-1))).heap[w2.heap.size]? = some (.cells #[.slice (some ⟨g, 0, none⟩) n pc, .slice oa m oc] 25 (0, 0))) := (heap_set_other (by omega)).trans HX.out
      have HO7 : Hid (Only (fun b => b = g) w4 (wr.setCell ⟨g, k * 3, none⟩ (.int .i64 (-1)))) := Only.setCell HO.out (p := ⟨g, k * 3, none⟩) (Or.inl rfl) _
      have HP7 : Hid (0 < n → PC (wr.setCell ⟨g, k * 3, none⟩ (.int .i64 (-1))) g n) := fun _ => PC.set (HP.out h0n)
      clear hc hsz hu HX HO HP
      go_wp2_with fail
      go_roundw
      case rel => exact ⟨k + 1, by omega, by go_num, HX7, HO7, HP7⟩
      case measure => simp [intOf]; omega
    · have e : k = n := by omega
      subst e
      have hs1 := HB1.out.size
      have hs41 := HI4.out.size
      have HBW : Hid (Below w.heap.size w wr) := HB4.out.trans (HO.out.below (by omega) (fun b _ hb => by omega))
      have hO1 : Only (fun b => b = g) w1 wr := (Only.of_below HI4.out).trans HO.out
      have hin := own_keep HO1.out hO1 (fun j hj e => by have := (World.ownsRow.lt HO1.out j e).2; omega)
      have HP7 := Lib.hid (HPA.out wr _ (Ow.bs hin))
      have HCY7 : Hid (CF wr (w2.heap.size + 1) (.agg #[.slice ya k yc, .slice za m zc]) c) := CF.only HCY4.out HO.out (fun j hj => by omega)
      have HY7 := Lib.hid ((HO.out.block w3.heap.size (by omega) (by omega)).trans HY4.out)
      clear hin hO1 HO HP HX HG4 HCY4 HY4 HX4 HB4 HI4
      go_wp2_with fail
      refine HP7.out.mono ?_
      rintro e w8 ⟨p8, o8, rfl, hp8, hq8, _, hb8⟩
      obtain ⟨qa, qc, hqv, _⟩ := hp8.slice
      obtain ⟨ra, rc, hrv, _⟩ := OS.slice hq8
      rw [HN.out] at hqv
      rw [HM.out] at hrv
      subst hqv hrv
      have hA8 := (Below.refl w8.heap.size w8).alloc (Nat.le_refl _) (.cells #[.slice qa k qc, .slice ra m rc] 25)
      have HZ8 := Lib.hid (heap_alloc_new w8 (.cells #[.slice qa k qc, .slice ra m rc] 25))
      have HY8 := Lib.hid (blk (blk HY7.out hb8) hA8)
      have HSM2 := Lib.hid (rsame_any (⟨_, _, rfl, hp8.below hA8, OS.below hq8 hA8⟩ : CF (w8.alloc (.cells #[.slice qa k qc, .slice ra m rc] 25)) wr.heap.size (.agg #[.slice qa k qc, .slice ra m rc]) c) (CF.below (CF.below HCY7.out hb8) hA8))
      have HB8 : Hid (Below w.heap.size w (w8.alloc (.cells #[.slice qa k qc, .slice ra m rc] 25))) := alb (chn HBW.out hb8) _
      obtain ⟨y0, y1⟩ := pz2 HY8.out
      obtain ⟨z0, z1⟩ := pz2 HZ8.out
      clear hp8 hq8 hb8 hA8 HP7 HCY7 x0 x1
      go_wp2_with fail
      refine HSM2.out.mono ?_
      rintro e w9 ⟨rfl, hb9⟩
      have HB9 := Lib.hid (chn HB8.out hb9)
      clear hb9 y0 y1 z0 z1
      go_wp2_with fail
      refine (HWK.out _).mono ?_
      rintro e w10 ⟨rfl, hb10⟩
      have HB10 := Lib.hid (chn HB9.out hb10)
      clear hb10
      go_wp2_with fail
      go_ret
      exact ⟨rfl, HB10.out⟩
end Go.Proofs.Ythbhkcofhhkcoaa
