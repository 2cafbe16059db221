/- The program's plans: servers made, a tick's purses turned, who runs is charged. -/
import Derived.Test.YtfjeoefnpcgnnaaTurA
import Derived.Test.YtfjeoefnpcgnnaaTurG
import Derived.StillTailTactics
import Derived.Deep.RegionHeld3
import Derived.Deep.RegionLawGrows
namespace Go.Proofs.Ytfjeoefnpcgnnaa.Pw
open Go.RowKit Go.Sort Pu
set_option linter.unusedVariables false
set_option maxRecDepth 100000

/-- what is wrong with servers and where they begin -/
def svE (m : Nat) (p q : Nat → Int) (bs : List Int) : Int := if bs.length ≠ m then 2 else if ∀ i, i < m → okAt (p i) (q i) (bs.getD i 0) then 0 else 2
theorem plE_sv {m : Nat} {p q : Nat → Int} {bs : List Int} {n : Int} (h : ¬ (4 < m ∨ n < 0 ∨ 1000 < n)) : plE m p q bs n = svE m p q bs := if_neg h
theorem svE_len {m : Nat} {p q : Nat → Int} {bs : List Int} (h : bs.length ≠ m) : svE m p q bs = 2 := if_pos h
theorem svE_bad {m : Nat} {p q : Nat → Int} {bs : List Int} (h : bs.length = m) {i : Nat} (hi : i < m) (h3 : ¬ okAt (p i) (q i) (bs.getD i 0)) : svE m p q bs = 2 := by unfold svE; rw [if_neg (by simpa using h), if_neg (fun x => h3 (x i hi))]
theorem svE_ok {m : Nat} {p q : Nat → Int} {bs : List Int} (h : bs.length = m) (h3 : ∀ i, i < m → okAt (p i) (q i) (bs.getD i 0)) : svE m p q bs = 0 := by unfold svE; rw [if_neg (by simpa using h), if_pos h3]
theorem nwE_in {p q t : Int} (h0 : 0 ≤ t) (h1 : t ≤ 1000) : nwE p q t = if may p q then 0 else 2 := by
  unfold nwE
  by_cases h : may p q
  · rw [if_neg (by rintro (x | x); exact x h; omega), if_neg (by omega), if_pos h]
  · rw [if_pos (Or.inl h), if_neg h]
/-- the servers, or what is wrong -/
def SvP (m : Nat) (p q : Nat → Int) (bs : List Int) (w : World) (E : Ending) (w' : World) : Prop :=
  (svE m p q bs = 0 ∧ ∃ gs c, E = .returned (.tuple #[.slice (some ⟨gs, 0, none⟩) m m, .int .i64 0]) ∧ SM w.heap.size w w' gs m m c (fun i => nwS (p i) (q i) (bs.getD i 0)) (fun i => bs.getD i 0)) ∨
  (svE m p q bs = 2 ∧ E = .returned (.tuple #[.slice none 0 0, .int .i64 2]) ∧ Below w.heap.size w w')
theorem infoSv : (Try.prog.info? 87).map (fun i => (i.zero, i.size, i.bytes)) = some (some (.agg #[.pointer none, .int .i64 0]), 2, 16) := by kernel_rfl
theorem infoPq : (Try.prog.info? 34).map (fun i => (i.zero, i.size, i.bytes)) = some (some (.pointer none), 1, 8) := by kernel_rfl
theorem make_srv (m : Nat) (hm : m ≤ 4) (w : World) : (Instr.makeSlice 64 (.int .i64 (m : Int)) (.int .i64 (m : Int))).run Try.prog w = .ok (.slice (some ⟨w.heap.size, 0, none⟩) m m) (w.alloc (.cells (madeCells #[.pointer none, .int .i64 0] (m * 2)) 87)) := by
  obtain ⟨i, hi, hz, hs, hb⟩ := info_parts infoSv
  have hr := run_make (P := Try.prog) w 64 87 i _ Try.underlying64 hi hz .i64 .i64 m m (by omega) (Int.le_refl _) (by rw [hb]; omega) (by omega)
  simp only [Int.toNat_natCast, hs] at hr
  exact hr
set_option maxHeartbeats 16000000 in
theorem servers_of {w : World} {v u : Value} {m : Nat} {p q : Nat → Int} {bs : List Int} (h : SV w v m p q) (hb : IS w u bs) (hm4 : m ≤ 4) : Calls Try.prog 26 #[v, u] w (SvP m p q bs w) := by
  obtain ⟨a, cap, rfl, hn1, hn2⟩ := h.slice
  obtain ⟨a2, cap2, rfl, hn3, hn4⟩ := hb.slice
  have hmx : m ≤ 9223372036854775807 := by omega
  have hbx : bs.length ≤ 9223372036854775807 := by unfold maxLen at hn4; omega
  have HV := Lib.hid h
  have HU := Lib.hid hb
  clear h hb hn1 hn2 hn3 hn4
  by_cases hl : bs.length = m
  · have HNO : Hid (∀ (i : Nat) (w' : World), i < m → ¬ okAt (p i) (q i) (bs.getD i 0) → Below w.heap.size w w' → SvP m p q bs w (.returned (.tuple #[.slice none 0 0, .int .i64 2])) w') := fun i w' hi hn hq => Or.inr ⟨svE_bad hl hi hn, rfl, hq⟩
    have HYES : Hid (∀ (gs : Nat) (c : Nat → Nat) (w' : World), (∀ i, i < m → okAt (p i) (q i) (bs.getD i 0)) → SM w.heap.size w w' gs m m c (fun i => nwS (p i) (q i) (bs.getD i 0)) (fun i => bs.getD i 0) → SvP m p q bs w (.returned (.tuple #[.slice (some ⟨gs, 0, none⟩) m m, .int .i64 0])) w') := fun gs c w' ho hs => Or.inl ⟨svE_ok hl ho, gs, c, rfl, hs⟩
    have dl : ((m : Int) != (m : Int)) = false := by simp
    have hmk := make_srv m hm4
    generalize SvP m p q bs w = R at *
    rw [hl] at HU ⊢
    clear hl hbx
    go_enter Try.func26, Try.ntmps26
    go_wp2_with fail
    have HM := Lib.hid (SM.start (B0 := w.heap.size) (W := w) (w := w) (u := fun i => nwS (p i) (q i) (bs.getD i 0)) (b := fun i => bs.getD i 0) m (Nat.le_refl _) (Below.refl _ _))
    generalize w.alloc (.cells (madeCells #[.pointer none, .int .i64 0] (m * 2)) 87) = W1 at *
    obtain ⟨gs, hgs⟩ : ∃ gs, gs = w.heap.size := ⟨_, rfl⟩
    have HM1 : Hid (SM w.heap.size w W1 gs m 0 (fun _ => 0) (fun i => nwS (p i) (q i) (bs.getD i 0)) (fun i => bs.getD i 0)) := by rw [hgs]; exact HM.out
    rw [← hgs]
    clear HM hmk hgs
    go_loopw [22] (fun i wr => ∃ (j : Nat) (c : Nat → Nat), j ≤ m ∧ i = .int .i64 j ∧ Hid (∀ i, i < j → okAt (p i) (q i) (bs.getD i 0)) ∧ Hid (SM w.heap.size w wr gs m j c (fun i => nwS (p i) (q i) (bs.getD i 0)) (fun i => bs.getD i 0))) (fun i _ => m - (intOf i).toNat)
    case atStart => exact ⟨0, _, Nat.zero_le _, rfl, fun i hi => by omega, HM1.out⟩
    case round =>
      clear HM1
      obtain ⟨j, c, hjm, rfl, HO, HM⟩ := hrel
      by_cases hj : j < m
      · obtain ⟨g, off, ta, tn, tc, rfl, c0, c1, c2⟩ := (HV.out.below HM.out.bel).at hj
        have hI : (j : Int) < (m : Int) := by omega
        have hI0 : (0 : Int) ≤ j := by omega
        have HZj := Lib.hid (fun w' => HNO.out j w' hj)
        have HOK : Hid (∀ bb, okAt (p j) (q j) bb → bb = bs.getD j 0 → ∀ i, i < j + 1 → okAt (p i) (q i) (bs.getD i 0)) := fun bb hbb he i hi => by
          by_cases e : i = j
          · rw [e, ← he]; exact hbb
          · exact HO.out i (by omega)
        have HPUT : Hid (∀ (w5 : World) (w4 : World) (g5 : Nat) (bb : Int), SM w.heap.size w w4 gs m j c (fun i => nwS (p i) (q i) (bs.getD i 0)) (fun i => bs.getD i 0) → Below w4.heap.size w4 w5 → bb = bs.getD j 0 → PP w5 g5 (nwS (p j) (q j) bb) → w4.heap.size ≤ g5 → SM w.heap.size w ((w5.setCell ⟨gs, j * 2, none⟩ (.pointer (some ⟨g5, 0, none⟩))).setCell ⟨gs, j * 2 + 1, none⟩ (.int .i64 bb)) gs m (j + 1) (setS c j g5) (fun i => nwS (p i) (q i) (bs.getD i 0)) (fun i => bs.getD i 0)) := by
          intro w5 w4 g5 bb hs hq he hp hg
          subst he
          have := hs.put hj hq hp hg
          refine this.congr fun i hi => ⟨?_, rfl, rfl⟩
          unfold setS; split
          · rename_i e; rw [e]
          · rfl
        generalize p j = pj at *
        generalize q j = qj at *
        have HMA := Lib.hid (HM.out.below (below_al wr (.cells #[.int .i64 pj, .int .i64 qj, .slice ta tn tc] 53)))
        obtain ⟨g2, off2, rfl, e0⟩ := (HU.out.below HMA.out.bel).at hj
        have x0 : (wr.alloc (.cells #[.int .i64 pj, .int .i64 qj, .slice ta tn tc] 53)).cell? ⟨wr.heap.size, 0, none⟩ = some (.int .i64 pj) := cell_of_row _ _ 0 _ _ _ (heap_alloc_new wr _)
        have x1 : (wr.alloc (.cells #[.int .i64 pj, .int .i64 qj, .slice ta tn tc] 53)).cell? ⟨wr.heap.size, 1, none⟩ = some (.int .i64 qj) := cell_of_row _ _ 1 _ _ _ (heap_alloc_new wr _)
        obtain ⟨bb, hbb⟩ : ∃ bb, bb = bs.getD j 0 := ⟨_, rfl⟩
        have HOK2 := Lib.hid (fun x => HOK.out bb x hbb)
        have HBB := Lib.hid hbb
        rw [← hbb] at e0 HZj
        clear HOK hbb HO HM
        by_cases b1 : bb < 0
        · have db : decide (bb < 0) = true := by simpa using b1
          have hR := Lib.hid (HZj.out _ (fun x => by have := x.2.1; omega) HMA.out.bel)
          clear b1 HZj HOK2 HPUT
          go_wp2_with fail
          exact hR.out
        · have db : decide (bb < 0) = false := by simp; omega
          by_cases b2 : 1000 < bb
          · have db2 : decide (1000 < bb) = true := by simpa using b2
            have hR := Lib.hid (HZj.out _ (fun x => by have := x.2.2; omega) HMA.out.bel)
            clear b1 b2 HZj HOK2 HPUT
            go_wp2_with fail
            exact hR.out
          · have db2 : decide (1000 < bb) = false := by simp; omega
            have hE := nwE_in (p := pj) (q := qj) (t := bb) (by omega) (by omega)
            by_cases hm : may pj qj
            · rw [if_pos hm] at hE
              have HN := Lib.hid (new_yes (wr.alloc (.cells #[.int .i64 pj, .int .i64 qj, .slice ta tn tc] 53)) hE)
              have HF := Lib.hid (HOK2.out ⟨hm, by omega, by omega⟩)
              clear hm b1 b2 HZj HOK2 hE
              go_wp2_with fail
              refine HN.out.mono ?_
              rintro E w5 ⟨g5, rfl, hp5, hg5, hq5⟩
              have HP := Lib.hid (HPUT.out w5 _ g5 bb HMA.out hq5 HBB.out hp5 hg5)
              have hz := HMA.out.below hq5
              obtain ⟨⟨y0, z0⟩, f0⟩ := hz.place (o := j * 2) (by omega)
              obtain ⟨⟨y1, z1⟩, f1⟩ := hz.place (o := j * 2 + 1) (by omega)
              clear hz hp5 hg5 hq5 x0 x1 e0 HMA HN HPUT
              go_wp2_with fail
              go_roundw
              case rel => exact ⟨j + 1, _, by omega, by go_num, HF.out, HP.out⟩
              case measure => simp [intOf]; omega
            · rw [if_neg hm] at hE
              have HN := Lib.hid (new_no (wr.alloc (.cells #[.int .i64 pj, .int .i64 qj, .slice ta tn tc] 53)) (p := pj) (b := qj) (t := bb) (by rw [hE]; decide))
              rw [hE] at HN
              have hR := Lib.hid (fun w' => HZj.out w' (fun x => hm x.1))
              clear hm b1 b2 HZj HOK2 hE HPUT
              go_wp2_with fail
              refine HN.out.mono ?_
              rintro E w5 ⟨rfl, hq5⟩
              have hS := Lib.hid (hR.out w5 (HMA.out.bel.trans (hq5.mono HMA.out.B0le)))
              clear hq5 x0 x1 e0 HMA HN hR
              go_wp2_with fail
              exact hS.out
      · obtain rfl : j = m := by omega
        have hR := Lib.hid (HYES.out gs c wr HO.out HM.out)
        clear HNO HYES HO HM
        go_wp2_with fail
        exact hR.out
  · have dl : ((bs.length : Int) != (m : Int)) = true := bne_iff_ne.2 (by omega)
    have hR : Hid (SvP m p q bs w (.returned (.tuple #[.slice none 0 0, .int .i64 2])) w) := Or.inr ⟨svE_len hl, rfl, Below.refl _ _⟩
    generalize SvP m p q bs w = R at *
    clear hl
    go_enter Try.func26, Try.ntmps26
    go_wp2_with fail
    exact hR.out
/-- a tick's purses -/
def TurnedP (B0 : Nat) (W : World) (gs m k t : Nat) (c P B b : Nat → Nat) (w : World) (E : Ending) (w' : World) : Prop :=
  ∃ g s', E = .returned (.slice (some ⟨g, 0, none⟩) m m) ∧ SM B0 W w' gs m m c (tot P B b s') (fun i => (b i : Nat)) ∧ At m P B b (k + m) t m s' ∧ TR B0 w' g m m c s' ∧ Ks w w'
set_option maxHeartbeats 16000000 in
theorem turned_any {B0 : Nat} {W w : World} {gs m k t : Nat} {c P B b : Nat → Nat} {s : Nat → Option St} (hM : SM B0 W w gs m m c (tot P B b s) (fun i => (b i : Nat))) (hA : At m P B b k t 0 s) (hS : Srv m P B b) (ht : t ≤ 1000) (hk : k ≤ 900000) : Calls Try.prog 44 #[.slice (some ⟨gs, 0, none⟩) m m, .int .i64 t] w (TurnedP B0 W gs m k t c P B b w) := by
  obtain ⟨hm4, hs⟩ := hS
  have HS := Lib.hid hs
  have hmk := run_make_row' (P := Try.prog) 32 34 (.pointer none) 8 Try.underlying32 infoPq rfl .i64 .i64 m (by omega) (by omega)
  have HM := Lib.hid hM
  have HA := Lib.hid hA
  have HE : Hid (∀ g s' w', SM B0 W w' gs m m c (tot P B b s') (fun i => (b i : Nat)) → At m P B b (k + m) t m s' → TR B0 w' g m m c s' → Ks w w' → TurnedP B0 W gs m k t c P B b w (.returned (.slice (some ⟨g, 0, none⟩) m m)) w') := fun g s' w' h1 h2 h3 h4 => ⟨g, s', rfl, h1, h2, h3, h4⟩
  generalize TurnedP B0 W gs m k t c P B b w = R at *
  clear hM hA hs
  go_enter Try.func44, Try.ntmps44
  go_wp2_with fail
  have HM0 := Lib.hid (HM.out.below (below_al w (.cells (madeCells #[.pointer none] m) 34)))
  have HT0 := Lib.hid (TR.start (w := w) (m := m) (c := c) (s := s) HM.out.B0le)
  have HF0 := Lib.hid (Ks.below (below_al w (.cells (madeCells #[.pointer none] m) 34)))
  generalize w.alloc (.cells (madeCells #[.pointer none] m) 34) = W1 at *
  generalize w.heap.size = g at *
  clear HM hmk
  go_loopw [13] (fun i wr => ∃ (j : Nat) (s2 : Nat → Option St), j ≤ m ∧ i = .int .i64 j ∧ Hid (SM B0 W wr gs m m c (tot P B b s2) (fun i => (b i : Nat))) ∧ Hid (At m P B b (k + j) t j s2) ∧ Hid (TR B0 wr g m j c s2) ∧ Hid (Ks w wr)) (fun i _ => m - (intOf i).toNat)
  case atStart => exact ⟨0, s, Nat.zero_le _, rfl, HM0.out, HA.out, HT0.out, HF0.out⟩
  case round =>
    clear HM0 HA HT0 HF0
    obtain ⟨j, s2, hjm, rfl, HM, HA, HT, HF⟩ := hrel
    by_cases hj : j < m
    · have hI : (j : Int) < (m : Int) := by omega
      have hI0 : (0 : Int) ≤ j := by omega
      obtain ⟨c0, c1⟩ := HM.out.at hj
      have HMA := Lib.hid (HM.out.below (below_al wr (.cells #[.pointer (some ⟨c j, 0, none⟩), .int .i64 (b j : Nat)] 87)))
      have HTA := Lib.hid (HT.out.below (below_al wr (.cells #[.pointer (some ⟨c j, 0, none⟩), .int .i64 (b j : Nat)] 87)))
      have HFA := Lib.hid (HF.out.trans (Ks.below (below_al wr (.cells #[.pointer (some ⟨c j, 0, none⟩), .int .i64 (b j : Nat)] 87))))
      have x0 : (wr.alloc (.cells #[.pointer (some ⟨c j, 0, none⟩), .int .i64 (b j : Nat)] 87)).cell? ⟨wr.heap.size, 0, none⟩ = some (.pointer (some ⟨c j, 0, none⟩)) := cell_of_row _ _ 0 _ _ _ (heap_alloc_new wr _)
      have x1 : (wr.alloc (.cells #[.pointer (some ⟨c j, 0, none⟩), .int .i64 (b j : Nat)] 87)).cell? ⟨wr.heap.size, 1, none⟩ = some (.int .i64 (b j : Nat)) := cell_of_row _ _ 1 _ _ _ (heap_alloc_new wr _)
      by_cases hb : b j ≤ t
      · have db : decide ((b j : Int) ≤ (t : Int)) = true := by simp; omega
        have dbn : decide (b j ≤ t) = true := by simpa using hb
        obtain ⟨k', hk', okx, ha⟩ := HA.out.goes hj hb (HS.out j hj).1 ht (by omega)
        obtain ⟨p1, p2⟩ := HMA.out.pu j hj
        have hcl : c j < wr.heap.size := (HM.out.pu j hj).1.lt
        have HC := Lib.hid (turn_any p1 okx hk' t)
        have HA2 := Lib.hid ha
        have HP1 := Lib.hid p1
        have X0 := Lib.hid (heap_alloc_new wr (.cells #[.pointer (some ⟨c j, 0, none⟩), .int .i64 (b j : Nat)] 87))
        have HCL := Lib.hid hcl
        clear hb okx ha p1 p2 hcl HM HA HT HF
        generalize b j = bj at *
        go_wp2_with fail
        refine HC.out.mono ?_
        rintro E w3 ⟨rfl, hd, ho⟩
        have hM3 := HMA.out.op hj ho hd
        have hT3 := HTA.out.purse HP1.out ho
        have hF3 := HFA.out.trans (Ks.purse HP1.out ho)
        have r3 := (ho.block wr.heap.size (by rw [World.size_alloc]; omega) (Nat.ne_of_gt HCL.out)).trans X0.out
        have x3 : w3.cell? ⟨wr.heap.size, 0, none⟩ = some (.pointer (some ⟨c j, 0, none⟩)) := cell_of_row _ _ 0 _ _ _ r3
        obtain ⟨z0, f0⟩ := hT3.at hj
        rw [if_neg (Nat.lt_irrefl j)] at z0
        have HT4 := Lib.hid (hT3.put (x := tuS (tot P B b s2 j) t) hj)
        have hM4 := hM3.row_set (v := .pointer (some ⟨c j, 0, none⟩)) (o := j) hT3
        rw [← tot_set] at hM4
        have HM4 := Lib.hid hM4
        have HF4 := Lib.hid (hF3.trans (hT3.ks_set (v := .pointer (some ⟨c j, 0, none⟩)) (o := j)))
        clear hd ho hM3 hT3 hF3 r3 hM4 HMA HTA HFA HC X0 x0 x1 c0 c1
        go_wp2_with fail
        go_roundw
        case rel => exact ⟨j + 1, _, by omega, by go_num, HM4.out, HA2.out, HT4.out, HF4.out⟩
        case measure => simp [intOf]; omega
      · have db : decide ((b j : Int) ≤ (t : Int)) = false := by simp; omega
        have dbn : decide (b j ≤ t) = false := by simpa using hb
        obtain ⟨hx, ha⟩ := HA.out.ahead hj (by omega)
        have HA2 := Lib.hid ha
        have HT2 := Lib.hid (HTA.out.skip hx)
        clear hb ha hx HM HA HT HF HTA
        generalize b j = bj at *
        go_wp2_with fail
        go_roundw
        case rel => exact ⟨j + 1, _, by omega, by go_num, HMA.out, HA2.out, HT2.out, HFA.out⟩
        case measure => simp [intOf]; omega
    · obtain rfl : j = m := by omega
      have hR := Lib.hid (HE.out g s2 wr HM.out HA.out HT.out HF.out)
      clear HE HM HA HT HF
      go_wp2_with fail
      exact hR.out
/-- a tick of a plan -/
def RunP (B0 : Nat) (W : World) (gs m k t : Nat) (c P B b : Nat → Nat) (w : World) (E : Ending) (w' : World) : Prop :=
  E = .returned (.int .i64 (Tu.pl m P B b t)) ∧ ∃ s', SM B0 W w' gs m m c (tot P B b s') (fun i => (b i : Nat)) ∧ At m P B b (k + m + 1) (t + 1) 0 s' ∧ Ks w w'
set_option maxHeartbeats 16000000 in
theorem run_any {B0 : Nat} {W w : World} {gs m k t : Nat} {c P B b : Nat → Nat} {s : Nat → Option St} (hM : SM B0 W w gs m m c (tot P B b s) (fun i => (b i : Nat))) (hA : At m P B b k t 0 s) (hS : Srv m P B b) (ht : t ≤ 1000) (hk : k ≤ 900000) : Calls Try.prog 27 #[.slice (some ⟨gs, 0, none⟩) m m, .int .i64 t] w (RunP B0 W gs m k t c P B b w) := by
  have HT := Lib.hid (turned_any hM hA hS ht hk)
  have hm4 := hS.1
  clear hM hA hS ht hk
  go_enter Try.func27, Try.ntmps27
  go_wp2_with fail
  refine HT.out.mono ?_
  rintro E w1 ⟨g, s1, rfl, hM1, hA1, hT1, hF1⟩
  obtain ⟨hw, hok⟩ := hA1.who
  have HW := who_any (hT1.dw hM1 (by unfold maxLen; omega)) hok
  rw [show min m 4 = m by omega, hw] at HW
  have HWH := Lib.hid HW
  have HM1 := Lib.hid hM1
  have HA1 := Lib.hid hA1
  have HT1 := Lib.hid hT1
  have HF1 := Lib.hid hF1
  clear HT HW hw hok hM1 hA1 hT1 hF1
  rcases Tu.pl_cases (n := m) (P := P) (B := B) (b := b) (t := t) with ⟨z, _⟩ | ⟨i, z, z1, _⟩
  · have HA3 := Lib.hid (HA1.out.none z).up
    have HZ := Lib.hid z
    rw [z] at HWH
    clear HA1 z
    go_wp2_with fail
    refine HWH.out.mono ?_
    rintro E w5 ⟨rfl, hq⟩
    have HM5 := Lib.hid (HM1.out.below hq)
    have HF5 := Lib.hid (HF1.out.trans (Ks.below hq))
    clear hq HM1 HF1 HT1 HWH
    go_wp2_with fail
    go_ret
    exact ⟨by rw [HZ.out]; rfl, s1, HM5.out, HA3.out, HF5.out⟩
  · obtain ⟨z2, x, hx, okx, ce, ha⟩ := HA1.out.runs z
    have HA3 := Lib.hid ha
    have HX := Lib.hid hx
    have HOK := Lib.hid okx
    have HZ := Lib.hid z
    rw [z] at HWH
    have hI : (i : Int) < (m : Int) := by omega
    have hI0 : (0 : Int) ≤ i := by omega
    have dI : decide ((0 : Int) ≤ (i : Int)) = true := by simp
    have dJ : (if (i : Int) < 0 then (0 : Int) else (i : Int)) = i := if_neg (by omega)
    unfold WhoP at HWH
    rw [dI, dJ] at HWH
    clear HA1 z ha hx okx ce dI dJ
    go_wp2_with fail
    refine HWH.out.mono ?_
    rintro E w5 ⟨rfl, hq⟩
    have hz := HT1.out.below hq
    have hs := HM1.out.below hq
    have cp : w5.cell? ⟨g, i, none⟩ = some (.pointer (some ⟨c i, 0, none⟩)) := by have := (hz.at z1).1; rw [if_pos z1] at this; unfold ptr at this; rwa [HX.out] at this
    have hp := (hs.pu i z1).1
    rw [tot_some HX.out] at hp
    have HP := Lib.hid hp
    have HC := Lib.hid (charge_any hp HOK.out)
    have HM5 := Lib.hid hs
    have HF5 := Lib.hid (HF1.out.trans (Ks.below hq))
    clear hq hz hs hp HM1 HF1 HT1 HWH
    go_wp2_with fail
    refine HC.out.mono ?_
    rintro E w6 ⟨rfl, hd, ho⟩
    have hM6 := HM5.out.op z1 ho hd
    rw [← tot_set] at hM6
    have HM6 := Lib.hid hM6
    have HF6 := Lib.hid (HF5.out.trans (Ks.purse HP.out ho))
    clear hd ho hM6 HC HM5 HF5 HP
    go_wp2_with fail
    go_ret
    exact ⟨by rw [HZ.out]; rfl, _, HM6.out, HA3.out, HF6.out⟩
set_option maxHeartbeats 8000000 in
theorem plan_no {w : World} {v u : Value} {m : Nat} {p q : Nat → Int} {bs : List Int} (h : SV w v m p q) (hb : IS w u bs) {n : Int} (hE : plE m p q bs n ≠ 0) : Calls Try.prog 9 #[v, u, .int .i64 n] w (VB (.tuple #[.slice none 0 0, .int .i64 (plE m p q bs n)]) w) := by
  have HB0 := Lib.hid (Below.refl w.heap.size w)
  obtain ⟨a, cap, rfl, hn1, hn2⟩ := h.slice
  have hmx : m ≤ 9223372036854775807 := by unfold maxLen at hn2; omega
  clear hn1 hn2
  by_cases hx : 4 < m ∨ n < 0 ∨ 1000 < n
  · rw [plE_many hx]
    clear h hb hE
    by_cases h4 : 4 < m
    · have d4 : decide (4 < (m : Int)) = true := by simp; omega
      clear hx
      go_enter Try.func9, Try.ntmps9
      go_wp2_with fail
      go_ret2
      exact ⟨rfl, HB0.out⟩
    · have d4 : decide (4 < (m : Int)) = false := by simp; omega
      by_cases h5 : n < 0
      · have d5 : decide (n < 0) = true := by simpa using h5
        clear hx
        go_enter Try.func9, Try.ntmps9
        go_wp2_with fail
        go_ret2
        exact ⟨rfl, HB0.out⟩
      · have d5 : decide (n < 0) = false := by simp; omega
        have d6 : decide (1000 < n) = true := by simp; omega
        clear hx
        go_enter Try.func9, Try.ntmps9
        go_wp2_with fail
        go_ret2
        exact ⟨rfl, HB0.out⟩
  · have d4 : decide (4 < (m : Int)) = false := by simp; omega
    have d5 : decide (n < 0) = false := by simp; omega
    have d6 : decide (1000 < n) = false := by simp; omega
    have H0 := servers_of h hb (by omega)
    rw [plE_sv hx] at hE ⊢
    have h2 : svE m p q bs = 2 := by
      unfold svE at hE ⊢
      split
      · rfl
      · rename_i hz
        rw [if_neg hz] at hE
        split
        · rename_i hz2; rw [if_pos hz2] at hE; exact absurd rfl hE
        · rfl
    have H : Hid (Calls Try.prog 26 #[.slice a m cap, u] w (VB (.tuple #[.slice none 0 0, .int .i64 2]) w)) := by
      refine H0.mono ?_
      rintro E w' (⟨h0, _⟩ | ⟨_, e, hq⟩)
      · exact absurd h0 hE
      · exact ⟨e, hq⟩
    rw [h2]
    clear hx h hb hE h2 H0
    go_enter Try.func9, Try.ntmps9
    go_wp2_with fail
    refine H.out.mono ?_
    rintro E w1 ⟨rfl, hq⟩
    have HB := Lib.hid hq
    clear hq H HB0
    go_wp2_with fail
    go_ret2
    exact ⟨rfl, HB.out⟩
/-- an append whose run is known, as one step of a region that draws -/
theorem step_append_run {P : Program} {ops : Array Oper} {o : Oper} {a : Act} {w w' : World} {K : Act → World → Prop} {Q : Exit → Act → World → Prop} {E : Prop}
    (hg : o.guard = none) (s x : Operand) (t : TypeId) (hop : o.op = Op.call { callee := Callee.builtin Builtin.append, args := #[s, x], argTypes := #[t, t] })
    (sv xv v' : Value) (hs : a.eval s = sv) (hx : a.eval x = xv) (hrun : (Builtin.append_ #[t, t] o.type #[sv, xv]).run P w = .ok v' w') (hK : K (a.put o.dst v') w') :
    if Region.wanted o (yielded ops a.tmps) = true then Oper.wp P o a w K Q else E := by
  have hw : Region.wanted o (yielded ops a.tmps) = true := by simp [Region.wanted, hg]
  rw [if_pos hw]
  unfold Oper.wp
  simp [execOp, hop, resolve, invoke, builtin, hs, hx, hrun, Result.andThen]
  exact hK
set_option maxHeartbeats 60000000 in
theorem plan_yes {w : World} {v u : Value} {m : Nat} {P B b : Nat → Nat} {bs : List Int} (h : SV w v m (fun i => (P i : Nat)) (fun i => (B i : Nat))) (hb : IS w u bs) (hl : bs.length = m) (hbs : ∀ i, i < m → bs.getD i 0 = (b i : Nat)) (hS : Srv m P B b) {N : Nat} (hN : N ≤ 1000) : Calls Try.prog 9 #[v, u, .int .i64 N] w (PlanP m P B b N w) := by
  have H0 := servers_of h hb hS.1
  have hz : svE m (fun i => (P i : Nat)) (fun i => (B i : Nat)) bs = 0 := svE_ok hl fun i hi => by
    obtain ⟨⟨q1, q2, q3, q4⟩, q5⟩ := hS.2 i hi
    rw [hbs i hi]; exact ⟨⟨⟨by omega, by omega⟩, by omega, by omega⟩, by omega, by omega⟩
  have H : Hid (Calls Try.prog 26 #[v, u] w (fun E w' => ∃ gs c, E = .returned (.tuple #[.slice (some ⟨gs, 0, none⟩) m m, .int .i64 0]) ∧ SM w.heap.size w w' gs m m c (tot P B b (fun _ => none)) (fun i => (b i : Nat)))) := by
    refine H0.mono ?_
    rintro E w' (⟨_, gs, c, e, hs⟩ | ⟨h2, _⟩)
    · refine ⟨gs, c, e, hs.congr fun i hi => ⟨?_, hbs i hi, rfl⟩⟩
      rw [tot_start, hbs i hi]
    · rw [hz] at h2; cases h2
  obtain ⟨a, cap, rfl, hn1, hn2⟩ := h.slice
  have hm4 : m ≤ 4 := hS.1
  have HS := Lib.hid hS
  have hmk := run_make_row' (P := Try.prog) 23 3 (.int .i64 0) 8 Try.underlying23 infoI13 rfl .i64 .i64 N (by omega) (by omega)
  have d4 : decide (4 < (m : Int)) = false := by simp; omega
  have d5 : decide ((N : Int) < 0) = false := by simp
  have d6 : decide (1000 < (N : Int)) = false := by simp; omega
  clear h hb hS hbs hl hn1 hn2 H0 hz
  go_enter Try.func9, Try.ntmps9
  go_wp2_with fail
  refine H.out.mono ?_
  rintro E w1 ⟨gs, c, rfl, hM⟩
  have HM := Lib.hid (hM.below (below_al w1 (.cells (madeCells #[.int .i64 0] N) 3)))
  have HN := Lib.hid (World.ownsRow_made (base := w.heap.size) (e := 3) (size := 1) w1 (madeCells #[.int .i64 0] N) N hM.B0le (by unfold maxLen; omega) (by rw [size_madeCells]; omega))
  have HA := Lib.hid (At.start (n := m) (P := P) (B := B) (b := b) (k := 0))
  clear hM H
  go_wp2_with fail
  generalize w1.alloc (.cells (madeCells #[.int .i64 0] N) 3) = W1 at *
  generalize w1.heap.size = gp at *
  clear hmk
  go_loopw [10, 35] (fun ov i wr => ∃ (t k l : Nat) (s : Nat → Option St), t ≤ N ∧ k ≤ 5 * t ∧ l ≤ N ∧ (l = N ∨ l = t) ∧ i = .int .i64 t ∧ ov = .slice (some ⟨gp, 0, none⟩) l N ∧ Hid (SM w.heap.size w wr gs m m c (tot P B b s) (fun i => (b i : Nat))) ∧ Hid (NR wr w.heap.size (.slice (some ⟨gp, 0, none⟩) t N) (ticks m P B b t)) ∧ Hid (At m P B b k t 0 s)) (fun _ i _ => N - (intOf i).toNat)
  case atStart => exact ⟨0, 0, N, _, Nat.zero_le _, Nat.zero_le _, Nat.le_refl _, Or.inl rfl, rfl, rfl, HM.out, HN.out, HA.out⟩
  case round =>
    clear HM HN HA
    obtain ⟨t, k, l, s, htN, hkt, hlN, hlt, rfl, rfl, HM, HN, HA⟩ := hrel
    by_cases ht : t < N
    · have hdt : decide ((t : Int) < (N : Int)) = true := by simp; omega
      have hcut1 : decide ((t : Int) ≤ (N : Int)) = true := by simp; omega
      have HR := Lib.hid (run_any HM.out.drew HA.out HS.out (by omega) (by omega))
      have HL := Lib.hid (ticks_len m P B b t)
      have HTS := Lib.hid (ticks_succ m P B b t)
      have HNX : Hid (∀ w5, RunP w.heap.size w gs m k t c P B b wr.drew (.returned (.int .i64 (Tu.pl m P B b t))) w5 → ∃ s' w6, (Builtin.append_ #[23, 23] 23 #[.slice (some ⟨gp, 0, none⟩) t N, .slice (some ⟨w5.heap.size, 0, none⟩) 1 1]).run Try.prog (w5.alloc (.cells #[.int .i64 (Tu.pl m P B b t)] 3)) = .ok (.slice (some ⟨gp, 0, none⟩) (t + 1) N) w6 ∧ NR w6 w.heap.size (.slice (some ⟨gp, 0, none⟩) (t + 1) N) (ticks m P B b (t + 1)) ∧ SM w.heap.size w w6 gs m m c (tot P B b s') (fun i => (b i : Nat)) ∧ At m P B b (k + m + 1) (t + 1) 0 s') := by
        rintro w5 ⟨_, s', hm, ha, hf⟩
        have hn := NR.ks HN.out (show Ks wr w5 from hf)
        obtain ⟨w6, e1, e2, e3⟩ := hm.app hn HL.out ht (Tu.pl m P B b t)
        rw [HTS.out]
        exact ⟨s', w6, e1, e2, e3, ha⟩
      clear HM HA HN
      go_wp2_with fail
      go_region_held3 (fun _ => True) (trivial)
        (first | (go_at_call 27; refine HR.out.mono ?_; rintro E w5 ⟨rfl, hrest⟩; obtain ⟨s6, w6, hrun6, hn6, hm6, ha6⟩ := HNX.out w5 ⟨rfl, hrest⟩; have HN6 := Lib.hid hn6; have HM6 := Lib.hid hm6; have HA6 := Lib.hid ha6; have HR6 := Lib.hid hrun6; clear hrest hn6 hm6 ha6 hrun6) | (refine step_append_run rfl (.tmp 41) (.tmp 45) 23 rfl _ _ _ (by simp [Act.eval]) (by simp [Act.eval]) HR6.out ?_))
      go_wp2_with fail
      go_roundw
      case rel => exact ⟨t + 1, k + m + 1, t + 1, s6, by omega, by omega, by omega, Or.inr rfl, by go_num, rfl, HM6.out, HN6.out, HA6.out⟩
      case measure => simp [intOf]; omega
    · obtain rfl : t = N := by omega
      obtain rfl : l = t := by omega
      have hdt : decide ((l : Int) < (l : Int)) = false := by simp
      have hF := Lib.hid (And.intro HN.out HM.out.bel)
      clear HM HA HN
      go_wp2_with fail
      go_ret2
      exact ⟨_, rfl, hF.out⟩
theorem plan_ok {w : World} {v u : Value} {m : Nat} {p q : Nat → Int} {bs : List Int} (h : SV w v m p q) (hb : IS w u bs) {n : Int} (hE : plE m p q bs n = 0) : Calls Try.prog 9 #[v, u, .int .i64 n] w (PlanI m p q bs n w) := by
  obtain ⟨h1, h2, h3, h4, h5⟩ := plE_zero hE
  obtain ⟨N, rfl⟩ := Int.eq_ofNat_of_zero_le h2
  refine (plan_yes (P := fun i => (p i).toNat) (B := fun i => (q i).toNat) (b := fun i => (bs.getD i 0).toNat) (h.congr fun i hi => ?_) hb h4 (fun i hi => ?_) ⟨h1, fun i hi => ?_⟩ (N := N) (by omega)).mono ?_
  · obtain ⟨⟨⟨a1, a2⟩, a3, a4⟩, a5, a6⟩ := h5 i hi; exact ⟨(Int.toNat_of_nonneg (by omega)).symm, (Int.toNat_of_nonneg (by omega)).symm⟩
  · obtain ⟨⟨⟨a1, a2⟩, a3, a4⟩, a5, a6⟩ := h5 i hi; exact (Int.toNat_of_nonneg a5).symm
  · obtain ⟨⟨⟨a1, a2⟩, a3, a4⟩, a5, a6⟩ := h5 i hi
    have x1 : 1 ≤ (p i).toNat := by omega
    have x2 : (p i).toNat ≤ 64 := by omega
    have x3 : 1 ≤ (q i).toNat := by omega
    have x4 : (q i).toNat ≤ (p i).toNat := by omega
    have x5 : (bs.getD i 0).toNat ≤ 1000 := by omega
    exact ⟨⟨x1, x2, x3, x4⟩, x5⟩
  · rintro E w' ⟨r, rfl, hr, hb⟩
    exact ⟨r, rfl, hr.is, hb⟩
end Go.Proofs.Ytfjeoefnpcgnnaa.Pw
