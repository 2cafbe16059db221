/- TurnWho. -/
import Derived.Test.YtfjeoefnpcgnnaaTurZ
namespace Go.Proofs.Ytfjeoefnpcgnnaa.Pw
open Go.RowKit Go.Sort Pu
set_option linter.unusedVariables false
set_option maxRecDepth 100000

theorem some_P {A : St → Prop} {x : St} (h : A x) : ∀ y, some x = some y → A y := fun y e => by cases e; exact h
theorem chS_ov (x : St) : (chS x).ov = x.ov := by
  rcases ch_cases x with ⟨_, _, e⟩ | ⟨_, _, _, e⟩ | ⟨_, _, _, e⟩ <;> rw [e]
theorem WM.start (w : World) : WM w.heap.size w w (.slice none 0 0) (.slice none 0 0) 0 (fun _ => 0) (fun _ => 0) (fun _ => none) :=
  ⟨World.ownsRow_nil _ _ _ _, World.ownsRow_nil _ _ _ _, fun i x hi => by omega, fun i x hi => by omega, fun i x hi => by omega, Below.refl _ _, Nat.le_refl _⟩
set_option maxHeartbeats 60000000 in
theorem who_law {w : World} {v : Value} {n : Nat} {d : Nat → Nat → Int} {nb : Nat → Bool} (h : OS w v n d nb) : Calls Try.prog 4 #[v] w (VB (.bool true) w) := by
  obtain ⟨a, cap, rfl, hn1, hn2⟩ := h.slice
  have hnx : n ≤ 9223372036854775807 := by unfold maxLen at hn2; omega
  have HO := Lib.hid h
  clear h hn1 hn2
  go_enter Try.func4, Try.ntmps4
  go_wp2_with fail
  go_loopw [3, 4, 5] (fun va vb iv wr => ∃ (m : Nat) (ca cb : Nat → Nat) (s : Nat → Option St) (oa ob : Value), m ≤ n ∧ m ≤ 6 ∧ iv = .int .i64 m ∧ va = oa ∧ vb = ob ∧ Hid (WM w.heap.size w wr oa ob m ca cb s)) (fun _ _ iv _ => 6 - (intOf iv).toNat)
  case atStart => exact ⟨0, _, _, _, _, _, Nat.zero_le _, Nat.zero_le _, rfl, rfl, rfl, WM.start w⟩
  case round =>
    obtain ⟨m, ca, cb, s, oa, ob, hmn, hm6, rfl, hoa, hob, HM⟩ := hrel
    obtain rfl := hoa.symm
    obtain rfl := hob.symm
    by_cases h1 : m < n
    · by_cases h2 : m < 6
      · have d6 : decide ((m : Int) < 6) = true := by simp; omega
        have hI : (m : Int) < (n : Int) := by omega
        have hI0 : (0 : Int) ≤ m := by omega
        obtain ⟨g, off, rfl, c0, c1, c2, c3, c4⟩ := (HO.out.below HM.out.bel).at h1
        have HS0 := Lib.hid (And.intro c0 (And.intro c1 c2))
        have HQ : Hid (∀ W', Below w.heap.size w W' → W'.cell? ⟨g, off + m * 5 + 3, none⟩ = some (.int .i64 (d m 3))) := fun W' hb => by
          obtain ⟨g', off', e, _, _, _, c, _⟩ := (HO.out.below hb).at h1
          injection e with e
          injection e with e5 e6 _
          rw [e5, e6]; exact c
        have HC3 := Lib.hid (And.intro c3 c4)
        generalize d m 0 = p at *
        generalize d m 1 = q at *
        generalize d m 2 = t at *
        generalize d m 3 = ch at *
        generalize nb m = no at *
        have HBR := Lib.hid (fun w => bring_any ch 8 w (by decide) (by decide))
        have hbr := bring_range ch (n := 8) (by decide)
        generalize bring ch 8 = br at *
        by_cases hq : nwE p q t = 0
        · have HN := Lib.hid (new_yes wr.drew hq)
          have HD : Hid (∀ w, Calls Try.prog 14 #[.int .i64 p, .int .i64 q, .int .i64 t] w (fun E w' => ∃ gq, E = .returned (.tuple #[.pointer (some ⟨gq, 0, none⟩), .int .i64 0]) ∧ DP w' gq (nwS p q t) ∧ w.heap.size ≤ gq ∧ Below w.heap.size w w')) := fun w => (rnew_yes w hq).mono (fun E w' h => ⟨_, h.1, h.2.1, Nat.le_refl _, h.2.2⟩)
          have HOK := Lib.hid (Ok.new hq)
          have HOV : Hid ((nwS p q t).ov = false) := Lib.hid rfl
          generalize nwS p q t = x0 at *
          clear hq
          go_wp2_with fail
          go_region_held3 (fun w' => w'.cell? ⟨g, off + m * 5, none⟩ = some (.int .i64 p) ∧ w'.cell? ⟨g, off + m * 5 + 1, none⟩ = some (.int .i64 q) ∧ w'.cell? ⟨g, off + m * 5 + 2, none⟩ = some (.int .i64 t))
            (first | assumption | exact HS0.out | go_keep)
            (first | (go_at_call 13; refine HN.out.mono ?_; rintro E w5 ⟨gp, rfl, hp5, hg5, hq5⟩; have HP5 := Lib.hid (And.intro hp5 (And.intro hg5 hq5)); have hS5 := And.intro ((hq5.cell (lt_of_cell HS0.out.1)).trans HS0.out.1) (And.intro ((hq5.cell (lt_of_cell HS0.out.2.1)).trans HS0.out.2.1) ((hq5.cell (lt_of_cell HS0.out.2.2)).trans HS0.out.2.2)); have HS5 := Lib.hid hS5; clear hp5 hg5 hq5))
          all_goals
            have HM5 := Lib.hid (HM.out.below (show Below wr.heap.size wr w5 from (bdn wr 1).trans HP5.out.2.2))
            have HC5 := Lib.hid (And.intro (((show Below wr.heap.size wr w5 from (bdn wr 1).trans HP5.out.2.2).cell (lt_of_cell HC3.out.1)).trans HC3.out.1) (((show Below wr.heap.size wr w5 from (bdn wr 1).trans HP5.out.2.2).cell (lt_of_cell HC3.out.2)).trans HC3.out.2))
            have HFa : Hid (∀ i y, i < m → s i = some y → ca i ≠ gp) := fun i y hi hs => by
              have h1 := (HM.out.pa i y hi hs).lt
              have h2 : wr.heap.size ≤ gp := HP5.out.2.1
              omega
            have HBp : Hid (w.heap.size ≤ gp) := Nat.le_trans HM.out.B0le HP5.out.2.1
            have HPP := Lib.hid HP5.out.1
            clear HM HC3 HP5 HS0 HN hS5
            go_wp2_with fail
            go_region_held3 (fun w' => w'.cell? ⟨g, off + m * 5, none⟩ = some (.int .i64 p) ∧ w'.cell? ⟨g, off + m * 5 + 1, none⟩ = some (.int .i64 q) ∧ w'.cell? ⟨g, off + m * 5 + 2, none⟩ = some (.int .i64 t))
              (first | assumption | exact HS5.out | go_keep)
              (first | (go_at_call 14; refine (HD.out _).mono ?_; rintro E w6 ⟨gq, rfl, hd6, hl6, hq6⟩; have HP6 := Lib.hid (And.intro hd6 (And.intro hq6 hl6)); have hS6 := And.intro ((hq6.cell (lt_of_cell HS5.out.1)).trans HS5.out.1) (And.intro ((hq6.cell (lt_of_cell HS5.out.2.1)).trans HS5.out.2.1) ((hq6.cell (lt_of_cell HS5.out.2.2)).trans HS5.out.2.2)); clear hd6 hq6 hl6))
            all_goals
              have hq6 : Below w5.heap.size w5 w6 := (bdn w5 1).trans HP6.out.2.1
              have HM6 := Lib.hid (HM5.out.below hq6)
              have HC6 := Lib.hid (And.intro ((hq6.cell (lt_of_cell HC5.out.1)).trans HC5.out.1) ((hq6.cell (lt_of_cell HC5.out.2)).trans HC5.out.2))
              have HFb : Hid (∀ i y, i < m → s i = some y → cb i ≠ gq) := fun i y hi hs => by
                have h1 := (HM5.out.pb i y hi hs).lt
                have h2 : w5.heap.size ≤ gq := HP6.out.2.2
                omega
              have HBq : Hid (w.heap.size ≤ gq) := Nat.le_trans HM5.out.B0le HP6.out.2.2
              have HPP6 := Lib.hid (HPP.out.below hq6)
              have HDD6 := Lib.hid HP6.out.1
              clear hq6 HM5 HC5 HPP HP6 HD HS5 hS6
              have e4 := HC6.out.2
              have e3 := HC6.out.1
              cases no
              · clear HC6 e3
                go_wp2_with fail
                go_loopw [10] (fun kv W => ∃ (k : Nat) (x : St), k ≤ 8 ∧ kv = .int .i64 k ∧ Hid (WM w.heap.size w W oa ob m ca cb s) ∧ Hid (PP W gp x) ∧ Hid (DP W gq x) ∧ Hid (Ok k x) ∧ Hid (x.ov = false)) (fun kv _ => 8 - (intOf kv).toNat)
                case atStart => exact ⟨0, x0, by omega, rfl, HM6.out, HPP6.out, HDD6.out, HOK.out, HOV.out⟩
                case round =>
                  clear HM6 HPP6 HDD6 HOK HOV e4
                  obtain ⟨k, x, hk8, rfl, HMx, HPx, HDx, HKx, HVx⟩ := hrel
                  have e3 := HQ.out _ HMx.out.bel
                  by_cases hkb : (k : Int) < br
                  · have db : decide ((k : Int) < br) = true := by simpa using hkb
                    have HC1 := Lib.hid (charge_any HPx.out HKx.out)
                    go_wp2_with fail
                    refine (HBR.out _).mono ?_
                    rintro E wq ⟨rfl, rfl⟩
                    go_wp2_with fail
                    refine HC1.out.mono ?_
                    rintro E y1 ⟨rfl, hp, ho⟩
                    have HMy := Lib.hid (HMx.out.keepP HPx.out HFa.out HBp.out ho)
                    have hd1 := HDx.out.other HPx.out ho
                    have HD1 := Lib.hid hd1
                    have HP1 := Lib.hid hp
                    have HC2 := Lib.hid (rcharge_any hd1 HKx.out)
                    clear hp ho hd1 HMx HPx HDx HC1
                    go_wp2_with fail
                    refine HC2.out.mono ?_
                    rintro E y2 ⟨rfl, hd, ho⟩
                    have HMz := Lib.hid (HMy.out.keepD HD1.out HFb.out HBq.out ho)
                    have HP2 := Lib.hid (HP1.out.other HD1.out ho)
                    have HD2 := Lib.hid hd
                    have HK2 := Lib.hid HKx.out.ch
                    have HV2 : Hid ((chS x).ov = false) := Lib.hid ((chS_ov x).trans HVx.out)
                    clear hd ho HMy HP1 HD1 HC2 HKx HVx
                    go_wp2_with fail
                    go_roundw
                    case rel => exact ⟨k + 1, chS x, by omega, by go_num, HMz.out, HP2.out, HD2.out, HK2.out, HV2.out⟩
                    case measure => simp [intOf]; omega
                  · have db : decide ((k : Int) < br) = false := by simpa using hkb
                    go_wp2_with fail
                    refine (HBR.out _).mono ?_
                    rintro E wq ⟨rfl, rfl⟩
                    obtain ⟨a1, c1, x1, a2, c2, x2, hr1, hr2, hwm⟩ := HMx.out.app (by omega) (some x) gp gq (some_P (A := fun z => PP _ gp z) HPx.out) (some_P (A := fun z => DP _ gq z) HDx.out) (some_P (A := fun z => 0 ≤ z.n ∧ 0 ≤ z.e ∧ (z.ov = true → z.n = 0)) ⟨HKx.out.n0, HKx.out.e0, fun z => by rw [HVx.out] at z; cases z⟩)
                    simp only [Option.map_some] at hr1 hr2
                    have R1 := Lib.hid hr1
                    have R2 := Lib.hid hr2
                    have HM9 := Lib.hid hwm
                    clear hr1 hr2 hwm HMx
                    go_wp2_with (first | (at_builtin; refine wpList_append_eq rfl (.tmp 93) (.tmp 95) 32 32 rfl _ _ _ _ rfl rfl R1.out ?_) | (at_builtin; refine wpList_append_eq rfl (.tmp 97) (.tmp 99) 33 33 rfl _ _ _ _ rfl rfl R2.out ?_))
                    go_roundw
                    case rel => exact ⟨m + 1, _, _, _, _, _, by omega, by omega, by go_num, rfl, rfl, HM9.out⟩
                    case measure => simp [intOf]; omega
              · clear HPP6 HDD6
                have HCn := HC6
                have HMn := HM6
                go_wp2_with fail
                go_loopw [10] (fun kv W => kv = .int .i64 0 ∧ w6 = W) (fun _ _ => 0)
                case atStart => exact ⟨rfl, rfl⟩
                case round =>
                  obtain ⟨rfl, rfl⟩ := hrel
                  have e3 := (HCn.out).1
                  by_cases hb0 : 0 < br
                  · have db : decide (0 < br) = true := by simpa using hb0
                    have HMx := HMn
                    go_wp2_with fail
                    refine (HBR.out _).mono ?_
                    rintro E wq ⟨rfl, rfl⟩
                    obtain ⟨a1, c1, x1, a2, c2, x2, hr1, hr2, hwm⟩ := HMx.out.app (by omega) none 0 0 (fun x e => by cases e) (fun x e => by cases e) (fun x e => by cases e)
                    simp only [Option.map_none] at hr1 hr2
                    have R1 := Lib.hid hr1
                    have R2 := Lib.hid hr2
                    have HM9 := Lib.hid hwm
                    clear hr1 hr2 hwm HMx
                    go_wp2_with (first | (at_builtin; refine wpList_append_eq rfl (.tmp 93) (.tmp 95) 32 32 rfl _ _ _ _ rfl rfl R1.out ?_) | (at_builtin; refine wpList_append_eq rfl (.tmp 97) (.tmp 99) 33 33 rfl _ _ _ _ rfl rfl R2.out ?_))
                    go_roundw
                    case rel => exact ⟨m + 1, _, _, _, _, _, by omega, by omega, by go_num, rfl, rfl, HM9.out⟩
                    case measure => simp [intOf]; omega
                  · have db : decide (0 < br) = false := by simpa using hb0
                    have HMx := HMn
                    go_wp2_with fail
                    refine (HBR.out _).mono ?_
                    rintro E wq ⟨rfl, rfl⟩
                    obtain ⟨a1, c1, x1, a2, c2, x2, hr1, hr2, hwm⟩ := HMx.out.app (by omega) none 0 0 (fun x e => by cases e) (fun x e => by cases e) (fun x e => by cases e)
                    simp only [Option.map_none] at hr1 hr2
                    have R1 := Lib.hid hr1
                    have R2 := Lib.hid hr2
                    have HM9 := Lib.hid hwm
                    clear hr1 hr2 hwm HMx
                    go_wp2_with (first | (at_builtin; refine wpList_append_eq rfl (.tmp 93) (.tmp 95) 32 32 rfl _ _ _ _ rfl rfl R1.out ?_) | (at_builtin; refine wpList_append_eq rfl (.tmp 97) (.tmp 99) 33 33 rfl _ _ _ _ rfl rfl R2.out ?_))
                    go_roundw
                    case rel => exact ⟨m + 1, _, _, _, _, _, by omega, by omega, by go_num, rfl, rfl, HM9.out⟩
                    case measure => simp [intOf]; omega
        · have HN := Lib.hid (new_no wr.drew hq)
          have HD : Hid (∀ w, Calls Try.prog 14 #[.int .i64 p, .int .i64 q, .int .i64 t] w (VB (.tuple #[.pointer none, .int .i64 (nwE p q t)]) w)) := fun w => (rnew_no w hq).mono (fun E w' h => ⟨h.1, h.2 ▸ Below.refl _ _⟩)
          have z1 : (nwE p q t != nwE p q t) = false := by simp
          have z2 : (nwE p q t != 0) = true := by simpa using hq
          generalize nwE p q t = X at *
          clear hq
          go_wp2_with fail
          go_region_held3 (fun w' => w'.cell? ⟨g, off + m * 5, none⟩ = some (.int .i64 p) ∧ w'.cell? ⟨g, off + m * 5 + 1, none⟩ = some (.int .i64 q) ∧ w'.cell? ⟨g, off + m * 5 + 2, none⟩ = some (.int .i64 t))
            (first | assumption | exact HS0.out | go_keep)
            (first | (go_at_call 13; refine HN.out.mono ?_; rintro E w5 ⟨rfl, hq5⟩; have HP5 := Lib.hid hq5; have hS5 := And.intro ((hq5.cell (lt_of_cell HS0.out.1)).trans HS0.out.1) (And.intro ((hq5.cell (lt_of_cell HS0.out.2.1)).trans HS0.out.2.1) ((hq5.cell (lt_of_cell HS0.out.2.2)).trans HS0.out.2.2)); have HS5 := Lib.hid hS5; clear hq5))
          all_goals
            have hq5 : Below wr.heap.size wr w5 := (bdn wr 1).trans HP5.out
            have HM5 := Lib.hid (HM.out.below hq5)
            have HC5 := Lib.hid (And.intro ((hq5.cell (lt_of_cell HC3.out.1)).trans HC3.out.1) ((hq5.cell (lt_of_cell HC3.out.2)).trans HC3.out.2))
            clear HM HC3 HP5 HS0 HN hS5 hq5
            go_wp2_with fail
            go_region_held3 (fun w' => w'.cell? ⟨g, off + m * 5, none⟩ = some (.int .i64 p) ∧ w'.cell? ⟨g, off + m * 5 + 1, none⟩ = some (.int .i64 q) ∧ w'.cell? ⟨g, off + m * 5 + 2, none⟩ = some (.int .i64 t))
              (first | assumption | exact HS5.out | go_keep)
              (first | (go_at_call 14; refine (HD.out _).mono ?_; rintro E w6 ⟨rfl, hq6⟩; have HP6 := Lib.hid hq6; have hS6 := And.intro ((hq6.cell (lt_of_cell HS5.out.1)).trans HS5.out.1) (And.intro ((hq6.cell (lt_of_cell HS5.out.2.1)).trans HS5.out.2.1) ((hq6.cell (lt_of_cell HS5.out.2.2)).trans HS5.out.2.2)); clear hq6))
            all_goals
              have hq6 : Below w5.heap.size w5 w6 := (bdn w5 1).trans HP6.out
              have HMn := Lib.hid (HM5.out.below hq6)
              have HCn := Lib.hid (And.intro ((hq6.cell (lt_of_cell HC5.out.1)).trans HC5.out.1) ((hq6.cell (lt_of_cell HC5.out.2)).trans HC5.out.2))
              clear hq6 HM5 HC5 HP6 HD HS5 hS6
              go_wp2_with fail
              go_loopw [10] (fun kv W => kv = .int .i64 0 ∧ w6 = W) (fun _ _ => 0)
              case atStart => exact ⟨rfl, rfl⟩
              case round =>
                obtain ⟨rfl, rfl⟩ := hrel
                have e3 := (HCn.out).1
                by_cases hb0 : 0 < br
                · have db : decide (0 < br) = true := by simpa using hb0
                  have HMx := HMn
                  go_wp2_with fail
                  refine (HBR.out _).mono ?_
                  rintro E wq ⟨rfl, rfl⟩
                  obtain ⟨a1, c1, x1, a2, c2, x2, hr1, hr2, hwm⟩ := HMx.out.app (by omega) none 0 0 (fun x e => by cases e) (fun x e => by cases e) (fun x e => by cases e)
                  simp only [Option.map_none] at hr1 hr2
                  have R1 := Lib.hid hr1
                  have R2 := Lib.hid hr2
                  have HM9 := Lib.hid hwm
                  clear hr1 hr2 hwm HMx
                  go_wp2_with (first | (at_builtin; refine wpList_append_eq rfl (.tmp 93) (.tmp 95) 32 32 rfl _ _ _ _ rfl rfl R1.out ?_) | (at_builtin; refine wpList_append_eq rfl (.tmp 97) (.tmp 99) 33 33 rfl _ _ _ _ rfl rfl R2.out ?_))
                  go_roundw
                  case rel => exact ⟨m + 1, _, _, _, _, _, by omega, by omega, by go_num, rfl, rfl, HM9.out⟩
                  case measure => simp [intOf]; omega
                · have db : decide (0 < br) = false := by simpa using hb0
                  have HMx := HMn
                  go_wp2_with fail
                  refine (HBR.out _).mono ?_
                  rintro E wq ⟨rfl, rfl⟩
                  obtain ⟨a1, c1, x1, a2, c2, x2, hr1, hr2, hwm⟩ := HMx.out.app (by omega) none 0 0 (fun x e => by cases e) (fun x e => by cases e) (fun x e => by cases e)
                  simp only [Option.map_none] at hr1 hr2
                  have R1 := Lib.hid hr1
                  have R2 := Lib.hid hr2
                  have HM9 := Lib.hid hwm
                  clear hr1 hr2 hwm HMx
                  go_wp2_with (first | (at_builtin; refine wpList_append_eq rfl (.tmp 93) (.tmp 95) 32 32 rfl _ _ _ _ rfl rfl R1.out ?_) | (at_builtin; refine wpList_append_eq rfl (.tmp 97) (.tmp 99) 33 33 rfl _ _ _ _ rfl rfl R2.out ?_))
                  go_roundw
                  case rel => exact ⟨m + 1, _, _, _, _, _, by omega, by omega, by go_num, rfl, rfl, HM9.out⟩
                  case measure => simp [intOf]; omega
      · have d6 : decide ((m : Int) < 6) = false := by simp; omega
        have hI : (m : Int) < (n : Int) := by omega
        have HWA := Lib.hid (who_any (DW.of_own HM.out.ra HM.out.pa) HM.out.ok)
        have HWB := Lib.hid (fun w' (hb : Below wr.heap.size wr w') => rwho_any (DW.of_own (HM.out.below hb).rb (HM.out.below hb).pb) HM.out.ok)
        have HBM := Lib.hid HM.out.bel
        unfold WhoP at HWA HWB
        have z1 := beq_refl_int (if who s (min m 4) < 0 then 0 else who s (min m 4))
        have z2 := beq_refl_bool (decide (0 ≤ who s (min m 4)))
        generalize (if who s (min m 4) < 0 then 0 else who s (min m 4)) = X at *
        generalize decide (0 ≤ who s (min m 4)) = Y at *
        clear HM
        go_wp2_with fail
        refine HWA.out.mono ?_
        rintro E w5 ⟨rfl, hq⟩
        have HB5 := Lib.hid hq
        clear hq
        go_wp2_with fail
        refine (HWB.out _ HB5.out).mono ?_
        rintro E w6 ⟨rfl, hq⟩
        have HB6 := Lib.hid (chnB HBM.out (chnB HB5.out hq))
        clear hq HB5 HBM
        go_wp2_with fail
        refine (works_any _).mono ?_
        rintro E w7 ⟨rfl, hq⟩
        have HB7 := Lib.hid (chnB HB6.out hq)
        clear hq HB6
        go_wp2_with fail
        go_ret
        exact ⟨rfl, HB7.out⟩
    · have hI : decide ((m : Int) < (n : Int)) = false := by simp; omega
      have HWA := Lib.hid (who_any (DW.of_own HM.out.ra HM.out.pa) HM.out.ok)
      have HWB := Lib.hid (fun w' (hb : Below wr.heap.size wr w') => rwho_any (DW.of_own (HM.out.below hb).rb (HM.out.below hb).pb) HM.out.ok)
      have HBM := Lib.hid HM.out.bel
      unfold WhoP at HWA HWB
      have z1 := beq_refl_int (if who s (min m 4) < 0 then 0 else who s (min m 4))
      have z2 := beq_refl_bool (decide (0 ≤ who s (min m 4)))
      generalize (if who s (min m 4) < 0 then 0 else who s (min m 4)) = X at *
      generalize decide (0 ≤ who s (min m 4)) = Y at *
      clear HM
      go_wp2_with fail
      refine HWA.out.mono ?_
      rintro E w5 ⟨rfl, hq⟩
      have HB5 := Lib.hid hq
      clear hq
      go_wp2_with fail
      refine (HWB.out _ HB5.out).mono ?_
      rintro E w6 ⟨rfl, hq⟩
      have HB6 := Lib.hid (chnB HBM.out (chnB HB5.out hq))
      clear hq HB5 HBM
      go_wp2_with fail
      refine (works_any _).mono ?_
      rintro E w7 ⟨rfl, hq⟩
      have HB7 := Lib.hid (chnB HB6.out hq)
      clear hq HB6
      go_wp2_with fail
      go_ret
      exact ⟨rfl, HB7.out⟩
end Go.Proofs.Ytfjeoefnpcgnnaa.Pw
