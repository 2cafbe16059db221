/- JobBound. -/
import Derived.Test.YtoggnofdgmhbmaaJobW
import Derived.Test.YtoggnofdgmhbmaaJobM
import Derived.Test.YtoggnofdgmhbmaaJobBp
import Derived.Deep.CutRange
namespace Go.Proofs.Ytoggnofdgmhbmaa
open Go.RowKit Go.Sort Ac Jo
set_option linter.unusedVariables false

/-- numbers that can be read -/
def IS (w : World) (v : Value) (xs : List Int) : Prop :=
  ∃ a cap, v = .slice a xs.length cap ∧ xs.length ≤ cap ∧ cap ≤ maxLen ∧ (a = none → cap = 0) ∧ (0 < xs.length → ∃ b off, a = some ⟨b, off, none⟩ ∧ ∀ i, i < xs.length → w.cell? ⟨b, off + i, none⟩ = some (.int .i64 (xs.getD i 0)))
theorem IS.nil (w : World) : IS w (.slice none 0 0) [] := ⟨none, 0, rfl, Nat.le_refl _, Nat.zero_le _, fun _ => rfl, fun h => by cases h⟩
theorem IS.slice {w : World} {v : Value} {xs : List Int} (h : IS w v xs) : ∃ a cap, v = .slice a xs.length cap ∧ xs.length ≤ cap ∧ cap ≤ maxLen := by obtain ⟨a, cap, h1, h2, h3, _⟩ := h; exact ⟨a, cap, h1, h2, h3⟩
theorem IS.below {w w' : World} {v : Value} {xs : List Int} (h : IS w v xs) (q : Below w.heap.size w w') : IS w' v xs := by
  obtain ⟨a, cap, h1, h2, h3, h4, h5⟩ := h
  exact ⟨a, cap, h1, h2, h3, h4, fun hn => by obtain ⟨b, off, e, hc⟩ := h5 hn; exact ⟨b, off, e, fun i hi => (q.cell (World.block_lt_of_cell? w _ (hc i hi))).trans (hc i hi)⟩⟩
theorem IS.at {w : World} {n cap : Nat} {a : Option Addr} {xs : List Int} (h : IS w (.slice a n cap) xs) {i : Nat} (hi : i < n) : ∃ b off, a = some ⟨b, off, none⟩ ∧ w.cell? ⟨b, off + i, none⟩ = some (.int .i64 (xs.getD i 0)) := by
  obtain ⟨a', cap', e, h1, h2, h3, h4⟩ := h
  obtain ⟨rfl, rfl, rfl⟩ : a = a' ∧ n = xs.length ∧ cap = cap' := by simpa using e
  obtain ⟨b, off, rfl, hc⟩ := h4 (by omega)
  exact ⟨b, off, rfl, hc i hi⟩
/-- one act more, laid in a block and appended -/
theorem jap_act {w wr W : World} {v : Value} {l : List Ak} (h : NA wr w.heap.size v l) (hB : Below w.heap.size w wr) (hw : Below wr.heap.size wr W) (hn : l.length < 32) (k n : Int) (s : ByteArray) :
    ∃ a c w', (Builtin.append_ #[24, 24] 24 #[v, .slice (some ⟨W.heap.size, 0, none⟩) 1 1]).run Try.prog (W.alloc (.cells #[.int .i64 k, .int .i64 n, .string s] 49)) = .ok (.slice a (l.length + 1) c) w' ∧ NA w' w.heap.size (.slice a (l ++ [(⟨k, n, s⟩ : Ak)]).length c) (l ++ [⟨k, n, s⟩]) ∧ Below w.heap.size w w' := by
  have hs := as_lit (w := W.alloc (.cells #[.int .i64 k, .int .i64 n, .string s] 49)) (g := W.heap.size) (l := ([⟨k, n, s⟩] : List Ak)) (heap_alloc_new W _) (show 1 ≤ maxLen by decide)
  have hW : Below w.heap.size w (W.alloc (.cells #[.int .i64 k, .int .i64 n, .string s] 49)) := (hB.trans (hw.mono hB.size)).alloc (Nat.le_trans hB.size hw.size) _
  obtain ⟨a, c, w', hrun, hown, hb, _⟩ := app_acts ((h.below hw).below (below_al W _)) hs hW.size (by simp; omega) 24
  refine ⟨a, c, w', ?_, hown, hW.trans hb⟩
  rw [List.length_append] at hrun
  exact hrun
theorem jall_snoc {l : List Ak} {x : Ak} (h : ∀ y ∈ l, may y) (hx : may x) : ∀ y ∈ l ++ [x], may y := fun y hy => by
  rcases List.mem_append.1 hy with h1 | h1
  · exact h y h1
  · rw [List.mem_singleton.1 h1]; exact hx
set_option maxRecDepth 100000 in
set_option maxHeartbeats 16000000 in
theorem jbound_of (Q : Prg) {w : World} {rv hv : Value} {rs hs : List Int} (a0 a1 a2 a3 a4 a5 a6 a7 : Int) (hr : IS w rv rs) (hh : IS w hv hs) :
    Calls Try.prog 4 #[.agg #[.int .i64 a0, .int .i64 a1, .int .i64 a2, .int .i64 a3, .int .i64 a4, .int .i64 a5, .int .i64 a6, .int .i64 a7], rv, hv] w (TrueB w) := by
  obtain ⟨ra, rc, rfl, h1, h2⟩ := hr.slice
  obtain ⟨ha, hc, rfl, h3, h4⟩ := hh.slice
  have hmr : rs.length ≤ 9223372036854775807 := by unfold maxLen at h2; omega
  have hmh : hs.length ≤ 9223372036854775807 := by unfold maxLen at h4; omega
  have HT0 := Lib.hid (T8.new w a0 a1 a2 a3 a4 a5 a6 a7)
  have HB0 := Lib.hid (below_al w (.cells #[.int .i64 a0, .int .i64 a1, .int .i64 a2, .int .i64 a3, .int .i64 a4, .int .i64 a5, .int .i64 a6, .int .i64 a7] 23))
  have HM := Lib.hid (fun W => jmade_of a0 a1 a2 a3 a4 a5 a6 a7 W)
  have HR := Lib.hid hr
  have HH := Lib.hid hh
  clear hr hh h1 h2 h3 h4
  generalize hrl : rs.length = n at *
  generalize hhl : hs.length = m at *
  clear hrl hhl
  go_enter Try.func4, Try.ntmps4
  go_wp2_with fail
  generalize w.alloc (.cells #[.int .i64 a0, .int .i64 a1, .int .i64 a2, .int .i64 a3, .int .i64 a4, .int .i64 a5, .int .i64 a6, .int .i64 a7] 23) = w1 at *
  obtain ⟨g, hg⟩ : ∃ g, g = w.heap.size := ⟨_, rfl⟩
  have HG := Lib.hid hg
  rw [← hg] at HT0 ⊢
  clear hg
  refine (jworks_any Q _).mono ?_
  rintro e w2 ⟨rfl, hb⟩
  have HT := Lib.hid (HT0.out.keep (hb.block g HT0.out.lt))
  have HB := Lib.hid (HB0.out.trans (hb.mono HB0.out.size))
  have y0 := HT.out.c0; have y1 := HT.out.c1; have y2 := HT.out.c2; have y3 := HT.out.c3; have y4 := HT.out.c4; have y5 := HT.out.c5; have y6 := HT.out.c6; have y7 := HT.out.c7
  clear hb HT0 HB0
  go_wp2_with fail
  clear y0 y1 y2 y3 y4 y5 y6 y7
  refine (HM.out _).mono ?_
  rintro e w3 ⟨u, rfl, hok, u4, u4', u6, u6', u7, u7', hb⟩
  have HT3 := Lib.hid (HT.out.keep (hb.block g HT.out.lt))
  have y0 := HT3.out.c0; have y1 := HT3.out.c1; have y2 := HT3.out.c2; have y3 := HT3.out.c3; have y4 := HT3.out.c4; have y5 := HT3.out.c5; have y6 := HT3.out.c6; have y7 := HT3.out.c7
  have v0 := HT3.out.free 0; have v1 := HT3.out.free 1; have v2 := HT3.out.free 2; have v3 := HT3.out.free 3; have v4 := HT3.out.free 4; have v5 := HT3.out.free 5; have v6 := HT3.out.free 6; have v7 := HT3.out.free 7
  have HT4 := Lib.hid (HT3.out.set8 (u 0) (u 1) (u 2) (u 3) (u 4) (u 5) (u 6) (u 7))
  have HB4 := Lib.hid (below_w8 (HB.out.trans (hb.mono HB.out.size)) (show w.heap.size ≤ g by rw [HG.out]; exact Nat.le_refl _) (u 0) (u 1) (u 2) (u 3) (u 4) (u 5) (u 6) (u 7))
  have HOK := Lib.hid hok
  have hbd := tok_bd hok
  have HU := Lib.hid (And.intro hbd (And.intro u4 (And.intro u4' (And.intro u6 (And.intro u6' (And.intro u7 u7'))))))
  clear hb HB HM HT hok hbd u4 u4' u6 u6' u7 u7'
  go_wp2_with fail
  clear y0 y1 y2 y3 y4 y5 y6 y7 v0 v1 v2 v3 v4 v5 v6 v7 HT3
  change Code.wp Try.prog _ _ _ (w8 w3 g (u 0) (u 1) (u 2) (u 3) (u 4) (u 5) (u 6) (u 7))
  generalize w8 w3 g (u 0) (u 1) (u 2) (u 3) (u 4) (u 5) (u 6) (u 7) = w4 at *
  go_loopw [7, 8] (fun o i wr => ∃ k : Nat, k ≤ n ∧ k ≤ 10 ∧ i = .int .i64 k ∧ ∃ l : List Ak, Hid (l.length = k) ∧ Hid (∀ x ∈ l, may x) ∧ Hid (Rn l) ∧ Hid (NA wr w4.heap.size o l) ∧ Hid (Below w4.heap.size w4 wr)) (fun _ i _ => n - (intOf i).toNat)
  case atStart => exact ⟨0, Nat.zero_le _, Nat.zero_le _, rfl, [], rfl, Lib.hid (fun x hx => by cases hx), Lib.hid (fun x hx => by cases hx), NA.nil _ _, Below.refl _ _⟩
  case round =>
    rename_i o _
    obtain ⟨k, hk, hk10, rfl, l, HL, HMy, HRn, HO, HB⟩ := hrel
    by_cases hlt : k < n ∧ k < 10
    · obtain ⟨hlt, hl10⟩ := hlt
      have hd1 : decide ((k : Int) < 10) = true := by simp; omega
      obtain ⟨b, off, rfl, d0⟩ := (HR.out.below (HB4.out.trans (HB.out.mono HB4.out.size))).at hlt
      generalize rs.getD k 0 = y at *
      obtain ⟨z, hz0, hz1, hz⟩ : ∃ z : Int, 0 ≤ z ∧ z < 9 ∧ bring y 9 = z := ⟨_, (bring_bd y 9 (by decide)).1, (bring_bd y 9 (by decide)).2, rfl⟩
      have HBN := Lib.hid (fun w => bring_any y 9 w (by decide) (by decide))
      rw [hz] at HBN
      clear hz
      have HL32 := Lib.hid (show l.length < 32 by rw [HL.out]; omega)
      obtain ⟨va, vc, w5, hrun, hown, hb5⟩ := jap_act (W := wr) HO.out HB.out (Below.refl _ _) HL32.out 1 (1 + z) ⟨#[]⟩
      rw [HL.out] at hrun
      have HRUN := Lib.hid hrun
      have HOW := Lib.hid hown
      have HB5 := Lib.hid hb5
      have HM2 := Lib.hid (jall_snoc HMy.out (show may ⟨1, (1 + z), ⟨#[]⟩⟩ from may_of (a := 1) (b := 64) (c := 0) rfl (by simp only; omega) (by simp only; omega) (Int.le_refl _)))
      have HRn2 := Lib.hid (HRn.out.snoc (x := ⟨1, 1 + z, ⟨#[]⟩⟩) rfl (by simp only; omega))
      clear hrun hown hb5 HMy HRn HO HB HL32
      go_wp2_with fail
      refine (HBN.out _).mono ?_
      rintro e w1 ⟨rfl, rfl⟩
      go_wp2_with (at_builtin; refine wpList_append_eq rfl (.tmp 30) (.tmp 38) 24 24 rfl _ _ _ _ rfl rfl HRUN.out ?_)
      go_roundw
      case rel => exact ⟨k + 1, by omega, by omega, by go_num, l ++ [⟨1, (1 + z), ⟨#[]⟩⟩], Lib.hid (by rw [List.length_append, HL.out]; rfl), HM2, HRn2, (by have h := HOW.out; rw [List.length_append, HL.out] at h; exact h), HB5⟩
      case measure => simp [intOf]; omega
    · have hdd : (k < n ∧ decide ((k : Int) < 10) = false) ∨ k = n := by simp; omega
      have HGd := Lib.hid (show Gd l from ⟨by rw [HL.out]; omega, HMy.out⟩)
      have HTW := Lib.hid (HT4.out.keep (HB.out.block g HT4.out.lt))
      have HBW := Lib.hid (HB4.out.trans (HB.out.mono HB4.out.size))
      have y0 := HTW.out.c0; have y1 := HTW.out.c1; have y2 := HTW.out.c2; have y3 := HTW.out.c3; have y4 := HTW.out.c4; have y5 := HTW.out.c5; have y6 := HTW.out.c6; have y7 := HTW.out.c7
      obtain ⟨oa, oc, ho⟩ := HO.out.form
      subst ho
      have HN := Lib.hid (oj_new Q (Below.refl wr.heap.size wr) (Nat.le_refl _) u 7 HO.out.as HOK.out (by decide) (by decide) HGd.out (by have := HU.out; omega) (e := 7 + u 1) rfl)
      have HD0 := Lib.hid (bd_fresh (u := u) HRn.out (by have := HU.out; omega) (by have := HU.out; omega))
      rw [HL.out] at HN
      rw [HL.out]
      have HNu : Hid (Calls Try.prog 6 #[.agg #[.int .i64 (u 0), .int .i64 (u 1), .int .i64 (u 2), .int .i64 (u 3), .int .i64 (u 4), .int .i64 (u 5), .int .i64 (u 6), .int .i64 (u 7)], .slice oa k oc, .int .i64 7] wr (MkJ Q wr.heap.size wr (fresh u (7 + u 1) l) wr)) := HN.out
      clear HN hlt HT4 HB4 HMy HRn HO HB HGd HL
      go_upto_region 6 with (fail)
      go_cut [27] from 20 to 39 (fun c wc => wr = wc ∧ c = .bool false)
      case first =>
        rcases hdd with ⟨hd1, hd2⟩ | hd1
        · go_wp2_with fail
          go_meet
          case rel => exact ⟨rfl, rfl⟩
        · subst hd1
          go_wp2_with fail
          go_meet
          case rel => exact ⟨rfl, rfl⟩
      case rest =>
        obtain ⟨rfl, rfl⟩ := hcut
        clear hdd
        go_wp2_with fail
        clear y0 y1 y2 y3 y4 y5 y6 y7
        refine HNu.out.mono ?_
        rintro e w5 ⟨jb, S, rfl, hj, _, _⟩
        have HJ0 := Lib.hid hj
        clear hj HNu
        go_wp2_with fail
        obtain ⟨wq, hwq⟩ : ∃ wq, wq = wr := ⟨_, rfl⟩
        subst hwq
        go_loopw [11] (fun i wr => ∃ k : Nat, 7 ≤ k ∧ k ≤ 71 ∧ i = .int .i64 k ∧ ∃ s : Jb, Hid (OJ Q wq.heap.size wq wr jb S s) ∧ Hid (BD u s)) (fun i _ => 120 - (intOf i).toNat)
        case atStart => exact ⟨7, by omega, by omega, rfl, _, HJ0, HD0⟩
        case round =>
          clear HJ0 HD0
          obtain ⟨j, hj7, hj71, rfl, s, HJ, HD⟩ := hrel
          have hjI : decide ((j : Int) < 120) = true := by simp; omega
          go_upto_if 58 with (fail)
          go_cut [12] from 52 to 154 (fun x wc => wr = wc ∧ ∃ z : Int, 0 ≤ z ∧ z < 6 ∧ x = .int .i64 z)
          case first =>
            by_cases hm0 : 0 < m
            · obtain ⟨i, hi, hii⟩ : ∃ i : Nat, i < m ∧ ((j : Int) - 7).tmod (m : Int) = (i : Int) := ⟨(j - 7) % m, Nat.mod_lt _ hm0, by rw [Int.tmod_eq_emod_of_nonneg (by omega), show ((j : Int) - 7) = ((j - 7 : Nat) : Int) by omega]; rfl⟩
              obtain ⟨b, off, rfl, d0⟩ := (HH.out.below (HBW.out.trans (HJ.out.bel.mono HBW.out.size))).at hi
              generalize hs.getD i 0 = y at *
              obtain ⟨z, hz0, hz1, hz⟩ : ∃ z : Int, 0 ≤ z ∧ z < 6 ∧ bring y 6 = z := ⟨_, (bring_bd y 6 (by decide)).1, (bring_bd y 6 (by decide)).2, rfl⟩
              have HBN := Lib.hid (fun w => bring_any y 6 w (by decide) (by decide))
              rw [hz] at HBN
              clear hz
              have hmz : ((m : Int) == 0) = false := by simp; omega
              go_wp2_with fail
              refine (HBN.out _).mono ?_
              rintro e w' ⟨rfl, rfl⟩
              go_wp2_with fail
              go_meet
              case rel => exact ⟨rfl, z, hz0, hz1, rfl⟩
            · obtain rfl : m = 0 := by omega
              go_wp2_with fail
              go_meet
              case rel => exact ⟨rfl, 0, by decide, by decide, rfl⟩
          case rest =>
            obtain ⟨rfl, z, hz0, hz6, rfl⟩ := hcut
            go_upto_region 18 with (fail)
            go_cut [73] from 52 to 154 (fun c wc => wr = wc ∧ c = .bool (decide (z < 4) && decide (0 < z)))
            case first =>
              by_cases hz4 : z < 4
              · go_wp2_with fail
                go_meet
                case rel => exact ⟨rfl, by simp [hz4]⟩
              · go_wp2_with fail
                go_meet
                case rel => exact ⟨rfl, by simp; omega⟩
            case rest =>
              obtain ⟨rfl, rfl⟩ := hcut
              go_upto_if 73 with (fail)
              go_cut [] from 52 to 154 (fun wc => ∃ s : Jb, Hid (OJ Q wq.heap.size wq wc jb S s) ∧ Hid (BD u s))
              case first =>
                by_cases hx : z < 4 ∧ 0 < z
                · have hxb : (decide (z < 4) && decide (0 < z)) = true := by simp; omega
                  have HD2 := Lib.hid (bd_enter HD.out HJ.out.iv (by have := HU.out; omega) (by have := HU.out; omega) (by have := HU.out; omega) z)
                  go_wp2_with fail
                  refine (oj_enter HJ.out z).mono ?_
                  rintro e w' ⟨rfl, hj, _⟩
                  have HJ2 := Lib.hid hj
                  clear hj
                  go_wp2_with fail
                  go_meet
                  case rel => exact ⟨_, HJ2, HD2⟩
                · have hxb : (decide (z < 4) && decide (0 < z)) = false := by simp; omega
                  go_wp2_with fail
                  go_meet
                  case rel => exact ⟨s, HJ, HD⟩
              case rest =>
                clear HJ HD
                obtain ⟨s, HJ, HD⟩ := hcut
                go_upto_if 78 with (fail)
                go_cut [] from 52 to 154 (fun wc => ∃ s : Jb, Hid (OJ Q wq.heap.size wq wc jb S s) ∧ Hid (BD u s))
                case first =>
                  by_cases hz4 : z = 4
                  · have hzb : (z == 4) = true := by simp; omega
                    have HD2 := Lib.hid (bd_leave HD.out)
                    clear hz4
                    go_wp2_with fail
                    refine (oj_leave HJ.out).mono ?_
                    rintro e w' ⟨rfl, hj, _⟩
                    have HJ2 := Lib.hid hj
                    clear hj
                    go_wp2_with fail
                    go_meet
                    case rel => exact ⟨_, HJ2, HD2⟩
                  · have hzb : (z == 4) = false := by simp; omega
                    go_wp2_with fail
                    go_meet
                    case rel => exact ⟨s, HJ, HD⟩
                case rest =>
                  clear HJ HD
                  obtain ⟨s, HJ, HD⟩ := hcut
                  go_wp2_with fail
                  refine (HJ.out.ov (Q.into HJ.out.j HJ.out.iv)).mono ?_
                  rintro e wa ⟨rfl, hj, _⟩
                  have HJ1 := Lib.hid hj
                  clear hj HJ
                  have HTa := Lib.hid (HTW.out.keep (HJ1.out.bel.block g HTW.out.lt))
                  have e2 := HTa.out.c2
                  have e4 := HTa.out.c4
                  have e6 := HTa.out.c6
                  have e7 := HTa.out.c7
                  go_upto_region 23 with (fail)
                  have mixed : Try.prog.follows .mixedOrders = true := by kernel_rfl
                  go_cut [117] from 86 to 154 (fun c wc => c = .bool false ∧ Below wa.heap.size wa wc)
                  case first =>
                    have k2 := cell_regrown e2; have k4 := cell_regrown e4; have k6 := cell_regrown e6; have k7 := cell_regrown e7
                    have HGw : ∀ d os, OJ Q wq.heap.size wq (grow (redrawn wa d) os) jb S s := fun d os => HJ1.out.below (below_regrown wa d os)
                    have C2 := Lib.hid (fun d os => Calls.regrown_of (Q.ran (HGw d os).j (HGw d os).iv))
                    have C3 := Lib.hid (fun d os => Calls.regrown_of (Q.takes (HGw d os).j (HGw d os).iv))
                    have n1 : decide (u 2 < s.n) = false := by have := HD.out.nb; simp; omega
                    have n4 : decide (u 7 < s.x) = false := by have := HD.out.xb; simp; omega
                    have n2 := HD.out.k1
                    have n3 := HD.out.k2
                    clear e2 e4 e6 e7 HGw HTa HJ1 HD
                    generalize s.n = jn at *
                    generalize s.c = jc at *
                    generalize s.k = jk at *
                    generalize s.x = jx at *
                    by_cases hc1 : jc = 1
                    · have b1 : (jc == 1) = true := by simp; omega
                      have b2 : (jc == 2) = false := by simp; omega
                      have n5 : decide (u 4 < jk) = false := by have := n2 hc1; simp; omega
                      clear n2 n3 hc1
                      generalize u 2 = t2 at *
                      generalize u 4 = t4 at *
                      generalize u 6 = t6 at *
                      generalize u 7 = t7 at *
                      refine wp_region_quiet_below (by assumption) (by kernel_rfl) ?_
                      repeat (quiet_step (first
                        | (go_at_call 21; exact C2.out _ _) | (go_at_call 22; exact C3.out _ _)))
                      refine wpQuiet_nil ?_
                      intro _ hw'
                      obtain ⟨⟨dq, osq⟩, hw''⟩ := hw'
                      subst hw''
                      go_wp2_with fail
                      go_meet
                      case rel => exact ⟨rfl, below_regrown wa dq osq⟩
                    · have b1 : (jc == 1) = false := by simp; omega
                      by_cases hc2 : jc = 2
                      · have b2 : (jc == 2) = true := by simp; omega
                        have n5 : decide (u 6 < jk) = false := by have := n3 hc2; simp; omega
                        clear n2 n3 hc1 hc2
                        generalize u 2 = t2 at *
                        generalize u 4 = t4 at *
                        generalize u 6 = t6 at *
                        generalize u 7 = t7 at *
                        refine wp_region_quiet_below (by assumption) (by kernel_rfl) ?_
                        repeat (quiet_step (first
                          | (go_at_call 21; exact C2.out _ _) | (go_at_call 22; exact C3.out _ _)))
                        refine wpQuiet_nil ?_
                        intro _ hw'
                        obtain ⟨⟨dq, osq⟩, hw''⟩ := hw'
                        subst hw''
                        go_wp2_with fail
                        go_meet
                        case rel => exact ⟨rfl, below_regrown wa dq osq⟩
                      · have b2 : (jc == 2) = false := by simp; omega
                        clear n2 n3 hc1 hc2
                        generalize u 2 = t2 at *
                        generalize u 4 = t4 at *
                        generalize u 6 = t6 at *
                        generalize u 7 = t7 at *
                        refine wp_region_quiet_below (by assumption) (by kernel_rfl) ?_
                        repeat (quiet_step (first
                          | (go_at_call 21; exact C2.out _ _) | (go_at_call 22; exact C3.out _ _)))
                        refine wpQuiet_nil ?_
                        intro _ hw'
                        obtain ⟨⟨dq, osq⟩, hw''⟩ := hw'
                        subst hw''
                        go_wp2_with fail
                        go_meet
                        case rel => exact ⟨rfl, below_regrown wa dq osq⟩
                  case rest =>
                    obtain ⟨rfl, hbc⟩ := hcut
                    have HJ2 := Lib.hid (HJ1.out.below hbc)
                    clear hbc HJ1 e2 e4 e6 e7
                    by_cases hl : s.l = []
                    · have HL := Lib.hid hl
                      clear hl
                      go_wp2_with fail
                      refine (oj_done' HJ2.out (b := true) (by rw [HL.out]; rfl)).mono ?_
                      rintro e wb ⟨rfl, hj, _⟩
                      have HJ3 := Lib.hid hj
                      clear hj HJ2
                      go_wp2_with fail
                      refine (oj_fault' HJ3.out j (x := 0) (fau_done HL.out j)).mono ?_
                      rintro e wb ⟨rfl, hj, _⟩
                      have HJ4 := Lib.hid hj
                      clear hj HJ3
                      go_wp2_with fail
                      go_ret
                      exact ⟨rfl, HBW.out.trans (HJ4.out.bel.mono HBW.out.size)⟩
                    · have HL := Lib.hid hl
                      clear hl
                      obtain ⟨f, hf⟩ : ∃ f, fau s (j : Int) = f := ⟨_, rfl⟩
                      have HF := Lib.hid hf
                      clear hf
                      go_wp2_with fail
                      refine (oj_done' HJ2.out (b := false) (by have q := HL.out; cases hh : s.l with | nil => exact absurd hh q | cons x y => rfl)).mono ?_
                      rintro e wb ⟨rfl, hj, _⟩
                      have HJ3 := Lib.hid hj
                      clear hj HJ2
                      go_wp2_with fail
                      by_cases hf0 : f = 0
                      · subst hf0
                        obtain ⟨r1, r2, r3⟩ := bd_run HD.out HJ3.out.iv HF.out HL.out
                        have HD2 := Lib.hid r3
                        have hj71' : j + 1 ≤ 71 := by have := HU.out; omega
                        clear r3
                        refine (oj_fault' HJ3.out j (x := 0) HF.out).mono ?_
                        rintro e wb ⟨rfl, hj, _⟩
                        have HJ4 := Lib.hid hj
                        clear hj HJ3 HF HL HD
                        rcases r2 with ⟨hc3, hre⟩ | ⟨hc3, hre⟩
                        · have HRUN := Lib.hid (oj_run HJ4.out)
                          rw [hre] at HRUN
                          have hcb : (s.c == 3) = true := by simpa using hc3
                          clear hc3 hre
                          go_wp2_with fail
                          refine HRUN.out.mono ?_
                          rintro e wb ⟨rfl, hj, _⟩
                          have HJ5 := Lib.hid hj
                          clear hj HRUN HJ4
                          go_wp2_with fail
                          go_roundw
                          case rel => exact ⟨j + 1, by omega, hj71', by go_num, _, HJ5, HD2⟩
                          case measure => simp [intOf]; omega
                        · have HRUN := Lib.hid (oj_run HJ4.out)
                          rw [hre] at HRUN
                          have hcb : (s.c == 3) = false := by simpa using hc3
                          clear hc3 hre
                          go_wp2_with fail
                          refine HRUN.out.mono ?_
                          rintro e wb ⟨rfl, hj, _⟩
                          have HJ5 := Lib.hid hj
                          clear hj HRUN HJ4
                          go_wp2_with fail
                          go_roundw
                          case rel => exact ⟨j + 1, by omega, hj71', by go_num, _, HJ5, HD2⟩
                          case measure => simp [intOf]; omega
                      · have HBF := Lib.hid (bd_fault HD.out HF.out hf0)
                        clear hf0
                        refine (oj_fault' HJ3.out j HF.out).mono ?_
                        rintro e wb ⟨rfl, hj, _⟩
                        have HJ4 := Lib.hid hj
                        have HTb := Lib.hid (HTW.out.keep (HJ4.out.bel.block g HTW.out.lt))
                        have e1 := HTb.out.c1
                        have e2 := HTb.out.c2
                        clear hj HJ3 HF HL HTa
                        rcases HBF.out with ⟨rfl, hd⟩ | ⟨rfl, hd⟩ | rfl
                        · have hdd : decide (7 + u 1 ≤ (j : Int)) = true := by simpa using hd
                          have hw1 : 1 ≤ u 1 ∧ u 1 ≤ 64 := by have := HU.out; omega
                          obtain ⟨hw11, hw12⟩ := hw1
                          generalize u 1 = t1 at *
                          clear HBF hd HD
                          go_wp2_with fail
                          go_quiet (fail)
                          go_wp2_with fail
                          go_ret
                          exact ⟨rfl, below_drewN (HBW.out.trans (HJ4.out.bel.mono HBW.out.size)) _⟩
                        · have k2 := cell_regrown e2
                          have HGw : ∀ d os, OJ Q wq.heap.size wq (grow (redrawn wb d) os) jb S s := fun d os => HJ4.out.below (below_regrown wb d os)
                          have C2 := Lib.hid (fun d os => Calls.regrown_of (Q.ran (HGw d os).j (HGw d os).iv))
                          rw [hd] at C2
                          clear HBF hd HD HGw e1 e2
                          generalize u 2 = t2 at *
                          have hdd : (t2 == t2) = true := by simp
                          have mixed : Try.prog.follows .mixedOrders = true := by kernel_rfl
                          go_wp2_with fail
                          refine wp_region_quiet_below (by assumption) (by kernel_rfl) ?_
                          repeat (quiet_step (first | (go_at_call 21; exact C2.out _ _)))
                          refine wpQuiet_nil ?_
                          intro _ hw'
                          obtain ⟨⟨dq, osq⟩, hw''⟩ := hw'
                          subst hw''
                          have HJ5 := Lib.hid (HJ4.out.below (below_regrown wb dq osq))
                          clear k2 C2
                          go_wp2_with fail
                          go_ret
                          exact ⟨rfl, HBW.out.trans (HJ5.out.bel.mono HBW.out.size)⟩
                        · clear HBF HD
                          go_wp2_with fail
                          go_quiet (fail)
                          go_wp2_with fail
                          go_ret
                          exact ⟨rfl, below_drewN (HBW.out.trans (HJ4.out.bel.mono HBW.out.size)) _⟩
end Go.Proofs.Ytoggnofdgmhbmaa
